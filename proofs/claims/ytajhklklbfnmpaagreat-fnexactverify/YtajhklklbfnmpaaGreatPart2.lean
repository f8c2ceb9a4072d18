import Derived.Test.YtajhklklbfnmpaaGreatPart1
import Derived.OwnWalk
import Derived.WalkSpells
import Derived.Sort.Row
import Derived.Shelf.RegionOpen
import Derived.WalkKit
import Derived.OwnWalkIn
import Derived.TacticsInMore
import Derived.LoopNIn
import Derived.LoopIn
set_option linter.unusedVariables false
namespace Go.Proofs.YtajhklklbfnmpaaGreat.copy
open Go.RowKit Go.Deep base
set_option maxHeartbeats 400000 in
theorem szIntS (a : Option Addr) (len cap : Nat) (left : Int) (w : World) (hm : len≤maxLen) (h0 : 0≤left) (h1 : left≤1048576) :
  Calls Tryz.prog 16 #[.slice a len cap,.int .i64 left] w fun e w'=>e=.returned (.int .i64 (if left < len then -1 else left - len))∧w' = w:=by
 unfold maxLen at hm
 by_cases h:left < (len:Int)
 · rw [if_pos h]
   go_enter Tryz.func16,Tryz.ntmps16
   go_wp2
   go_ret
   exact ⟨rfl,rfl⟩
 · rw [if_neg h]
   go_enter Tryz.func16,Tryz.ntmps16
   go_wp2
   go_ret
   exact ⟨rfl,rfl⟩
theorem Tryz.info_int : (Tryz.prog.info? 3).map (fun i=>(i.zero,i.size,i.bytes))=some (some (.int .i64 0),1,8) := by kernel_rfl
set_option maxHeartbeats 400000 in
theorem toIntS (a : Option Addr) (len cap : Nat) (zs : List Int) (w : World) (hr : IntRow w a len zs) (hb : len≤1048576) :
  Calls Tryz.prog 24 #[.slice a len cap] w fun e w'=>e=.returned (.slice (some ⟨w.heap.size,0,none⟩) len len)∧Below w.heap.size w w'∧w'.heap.size=w.heap.size+1∧w'.rowIs w.heap.size 3 len (fun i=>.int .i64 (zs[i]?.getD 0)):=by
 obtain ⟨hlen,hmost,hcell⟩:=hr
 unfold maxLen at hmost
 have HC:=hid hcell
 clear hcell hlen
 have hmk:=run_make_row' (P:=Tryz.prog) 24 3 (.int .i64 0) 8 Tryz.underlying24 Tryz.info_int rfl .i64 .i64 len (by omega) (by omega)
 go_enter Tryz.func24,Tryz.ntmps24
 go_wp2
 go_loopw [4] (fun i wr=>∃ k:Nat,k≤len∧i=.int .i64 k∧Below w.heap.size w wr∧wr.heap.size=w.heap.size+1∧wr.rowIs w.heap.size 3 len (fun j=>if j < k then .int .i64 (zs[j]?.getD 0) else .int .i64 0)) (fun i _=>len - (intOf i).toNat)
 case atStart=>exact ⟨0,Nat.zero_le _,rfl,(Below.refl _ _).alloc (Nat.le_refl _) _,by simp,(World.rowIs_made w _ len 3).congr (fun j _=>by simp)⟩
 case round =>
  obtain ⟨k,hk,rfl,hbel,hsz,hrow⟩:=hrel
  by_cases hlt:k < len
  · obtain ⟨b,off,rfl,hc⟩:=HC.out k hlt
    have hc' := keep hbel hc
    have g4:wr.cell? ⟨w.heap.size,k,none⟩=some (.int .i64 0):=by simpa using hrow.cell hlt
    have g5:wr.frozen? ⟨w.heap.size,k,none⟩=false:=hrow.frozen k
    have HB:Hid (Below w.heap.size w wr):=hbel
    have HR:=hid hrow
    have HS:Hid (wr.heap.size=w.heap.size+1):=hsz
    clear hbel hrow hsz hc hmk
    go_wp2
    go_roundw
    case rel =>
     refine ⟨k+1,by omega,by go_num,HB.out.setCell (Nat.le_refl _) _,by simp [HS.out],(HR.out.set k _).congr (fun j _=>?_)⟩
     by_cases e:j=k
     · subst e;simp
     · rw [if_neg e]
       by_cases hj:j < k
       · rw [if_pos hj,if_pos (by omega)]
       · rw [if_neg hj,if_neg (by omega)]
    case measure=>simp [intOf];omega
  · have e:k=len:=by omega
    subst e
    have HB:Hid (Below w.heap.size w wr):=hbel
    have HR:=hid hrow
    have HS:Hid (wr.heap.size=w.heap.size+1):=hsz
    clear hbel hrow hsz hmk
    go_wp2
    go_ret
    exact ⟨rfl,HB.out,HS.out,HR.out.congr (fun j hj=>by rw [if_pos hj])⟩
structure Copied (w : World) (N : Nat) (zss : List (List Int)) : Prop where
 outer:w.rowIs N 24 zss.length (fun i=>.slice (some ⟨N+1+i,0,none⟩) (zss[i]?.getD []).length (zss[i]?.getD []).length)
 inner:∀ i,i < zss.length→w.rowIs (N+1+i) 3 (zss[i]?.getD []).length (fun j=>.int .i64 ((zss[i]?.getD [])[j]?.getD 0))
theorem IntRow.of_rowIs {w : World} {b : Nat} {zs : List Int} {t : TypeId} (h : w.rowIs b t zs.length (fun j=>.int .i64 (zs[j]?.getD 0))) (hm : zs.length≤maxLen) : IntRow w (some ⟨b,0,none⟩) zs.length zs :=
 ⟨rfl,hm,fun i hi=>⟨b,0,rfl,by simpa using h.cell hi⟩⟩
theorem Copied.rows {w : World} {N : Nat} {zss : List (List Int)} (h : Copied w N zss) (hm : zss.length≤maxLen) (hi : ∀ i,i < zss.length→(zss[i]?.getD []).length≤maxLen) : IntRows w (some ⟨N,0,none⟩) zss.length zss :=
 ⟨rfl,hm,fun i hlt=>⟨N,0,rfl,_,_,_,by simpa using h.outer.cell hlt,IntRow.of_rowIs (h.inner i hlt) (hi i hlt)⟩⟩
theorem Copied.below {w w1 : World} {N : Nat} {zss : List (List Int)} (h : Copied w N zss) (hb : Below w.heap.size w w1) : Copied w1 N zss :=
 ⟨h.outer.of_block (hb.block _ h.outer.lt),fun i hi=>(h.inner i hi).of_block (hb.block _ (h.inner i hi).lt)⟩
theorem take_eq_succ {α : Type} {zs ys : List α} {d : α} {k : Nat} (hz : k < zs.length) (hy : k < ys.length) (h : zs.take k=ys.take k) (e : zs[k]?.getD d=ys[k]?.getD d) : zs.take (k+1)=ys.take (k+1) := by
 rw [List.getElem?_eq_getElem hz,List.getElem?_eq_getElem hy] at e
 have e':zs[k]=ys[k]:=by simpa using e
 rw [List.take_succ_eq_append_getElem hz,List.take_succ_eq_append_getElem hy,h,e']
theorem ne_of_getD {α : Type} {zs ys : List α} {d : α} {k : Nat} (e : ¬ zs[k]?.getD d=ys[k]?.getD d) : ¬ zs=ys := fun h=>e (by rw [h])
set_option maxHeartbeats 400000 in
theorem eqIntS (a a' : Option Addr) (len len' cap cap' : Nat) (zs ys : List Int) (w : World) (hr : IntRow w a len zs) (hr' : IntRow w a' len' ys) :
  Calls Tryz.prog 31 #[.slice a len cap,.slice a' len' cap'] w fun e w'=>e=.returned (.bool (decide (zs=ys)))∧∃ n,w' = w.drewN n:=by
 obtain ⟨hlen,hmost,hcell⟩:=hr
 obtain ⟨hlen',hmost',hcell'⟩:=hr'
 unfold maxLen at hmost hmost'
 have HC:=hid hcell
 have HC' := hid hcell'
 have HL:=hid hlen
 have HL' := hid hlen'
 clear hcell hcell' hlen hlen'
 by_cases hne:len=len'
 · subst hne
   have hb:((len:Int) != (len:Int))=false:=by simp
   go_enter Tryz.func31,Tryz.ntmps31
   go_wp2
   go_loopw [5] (fun i wr=>∃ k:Nat,k≤len∧i=.int .i64 k∧zs.take k=ys.take k∧∃ n,wr=w.drewN n) (fun i _=>len - (intOf i).toNat)
   case atStart=>exact ⟨0,Nat.zero_le _,rfl,rfl,0,rfl⟩
   case round =>
    obtain ⟨k,hk,rfl,ht,n,hw⟩:=hrel
    have HT:=hid ht
    clear ht
    by_cases hlt:k < len
    · obtain ⟨b,off,rfl,hc0⟩:=HC.out k hlt
      obtain ⟨b',off',rfl,hc0'⟩:=HC'.out k hlt
      have hc:wr.cell? ⟨b,off+k,none⟩=some (.int .i64 (zs[k]?.getD 0)):=by rw [hw];simpa using hc0
      have hc':wr.cell? ⟨b',off' + k,none⟩=some (.int .i64 (ys[k]?.getD 0)):=by rw [hw];simpa using hc0'
      have HW:=hid hw
      clear hw hc0 hc0'
      by_cases he:zs[k]?.getD 0=ys[k]?.getD 0
      · have hq:(zs[k]?.getD 0 != ys[k]?.getD 0)=false:=by simp [he]
        have HE:=hid he
        clear he
        go_wp2
        go_quiet (fail)
        go_wp2
        go_roundw
        case rel=>exact ⟨k+1,by omega,by go_num,take_eq_succ (by rw [HL.out];omega) (by rw [HL'.out];omega) HT.out HE.out,n+nq,by rw [HW.out,World.drewN_drewN]⟩
        case measure=>simp [intOf];omega
      · have hq:(zs[k]?.getD 0 != ys[k]?.getD 0)=true:=by simp [he]
        have HE:=hid he
        clear he
        go_wp2
        go_quiet (fail)
        go_wp2
        go_ret
        exact ⟨ret_bool (decide_eq_false (ne_of_getD HE.out)).symm,n+nq,by rw [HW.out,World.drewN_drewN]⟩
    · have e:k=len:=by omega
      subst e
      have HW:=hid hw
      clear hw
      go_wp2
      go_ret
      refine ⟨ret_bool (decide_eq_true ?_).symm,n,HW.out⟩
      have:=HT.out
      rwa [List.take_of_length_le (by rw [HL.out];omega),List.take_of_length_le (by rw [HL'.out];omega)] at this
 · have hb:((len:Int) != (len':Int))=true:=by simp;omega
   have hd:¬ zs=ys:=fun h=>hne (by rw [← HL.out,← HL'.out,h])
   have HD:=hid hd
   clear hd
   go_enter Tryz.func31,Tryz.ntmps31
   go_wp2
   go_ret
   exact ⟨ret_bool (decide_eq_false HD.out).symm,0,rfl⟩
theorem BoolRow.of_rowIs {w : World} {b len : Nat} {zs : List Bool} {t : TypeId} (hl : zs.length=len) (hm : len≤maxLen) (h : w.rowIs b t len (fun j=>.bool (zs[j]?.getD false))) : BoolRow w (some ⟨b,0,none⟩) len zs :=
 ⟨hl,hm,fun i hi=>⟨b,0,rfl,by simpa using h.cell hi⟩⟩
theorem Tryz.info_bool : (Tryz.prog.info? 4).map (fun i=>(i.zero,i.size,i.bytes))=some (some (.bool false),1,1) := by kernel_rfl
set_option maxHeartbeats 400000 in
theorem eqBoolS (a a' : Option Addr) (len len' cap cap' : Nat) (zs ys : List Bool) (w : World) (hr : BoolRow w a len zs) (hr' : BoolRow w a' len' ys) :
  Calls Tryz.prog 30 #[.slice a len cap,.slice a' len' cap'] w fun e w'=>e=.returned (.bool (decide (zs=ys)))∧∃ n,w' = w.drewN n:=by
 obtain ⟨hlen,hmost,hcell⟩:=hr
 obtain ⟨hlen',hmost',hcell'⟩:=hr'
 unfold maxLen at hmost hmost'
 have HC:=hid hcell
 have HC' := hid hcell'
 have HL:=hid hlen
 have HL' := hid hlen'
 clear hcell hcell' hlen hlen'
 by_cases hne:len=len'
 · subst hne
   have hb:((len:Int) != (len:Int))=false:=by simp
   go_enter Tryz.func30,Tryz.ntmps30
   go_wp2
   go_loopw [5] (fun i wr=>∃ k:Nat,k≤len∧i=.int .i64 k∧zs.take k=ys.take k∧∃ n,wr=w.drewN n) (fun i _=>len - (intOf i).toNat)
   case atStart=>exact ⟨0,Nat.zero_le _,rfl,rfl,0,rfl⟩
   case round =>
    obtain ⟨k,hk,rfl,ht,n,hw⟩:=hrel
    have HT:=hid ht
    clear ht
    by_cases hlt:k < len
    · obtain ⟨b,off,rfl,hc0⟩:=HC.out k hlt
      obtain ⟨b',off',rfl,hc0'⟩:=HC'.out k hlt
      have hc:wr.cell? ⟨b,off+k,none⟩=some (.bool (zs[k]?.getD false)):=by rw [hw];simpa using hc0
      have hc':wr.cell? ⟨b',off' + k,none⟩=some (.bool (ys[k]?.getD false)):=by rw [hw];simpa using hc0'
      have HW:=hid hw
      clear hw hc0 hc0'
      by_cases he:zs[k]?.getD false=ys[k]?.getD false
      · have hq:(zs[k]?.getD false == ys[k]?.getD false)=true:=by simp [he]
        have HE:=hid he
        clear he
        go_wp2
        go_quiet (fail)
        go_wp2
        go_roundw
        case rel=>exact ⟨k+1,by omega,by go_num,take_eq_succ (by rw [HL.out];omega) (by rw [HL'.out];omega) HT.out HE.out,n+nq,by rw [HW.out,World.drewN_drewN]⟩
        case measure=>simp [intOf];omega
      · have hq:(zs[k]?.getD false == ys[k]?.getD false)=false:=by simp [he]
        have HE:=hid he
        clear he
        go_wp2
        go_quiet (fail)
        go_wp2
        go_ret
        exact ⟨ret_bool (decide_eq_false (ne_of_getD HE.out)).symm,n+nq,by rw [HW.out,World.drewN_drewN]⟩
    · have e:k=len:=by omega
      subst e
      have HW:=hid hw
      clear hw
      go_wp2
      go_ret
      refine ⟨ret_bool (decide_eq_true ?_).symm,n,HW.out⟩
      have:=HT.out
      rwa [List.take_of_length_le (by rw [HL.out];omega),List.take_of_length_le (by rw [HL'.out];omega)] at this
 · have hb:((len:Int) != (len':Int))=true:=by simp;omega
   have hd:¬ zs=ys:=fun h=>hne (by rw [← HL.out,← HL'.out,h])
   have HD:=hid hd
   clear hd
   go_enter Tryz.func30,Tryz.ntmps30
   go_wp2
   go_ret
   exact ⟨ret_bool (decide_eq_false HD.out).symm,0,rfl⟩
theorem IntRow.of_rowIs' {w : World} {b len : Nat} {zs : List Int} {t : TypeId} (hl : zs.length=len) (hm : len≤maxLen) (h : w.rowIs b t len (fun j=>.int .i64 (zs[j]?.getD 0))) : IntRow w (some ⟨b,0,none⟩) len zs :=
 ⟨hl,hm,fun i hi=>⟨b,0,rfl,by simpa using h.cell hi⟩⟩
theorem toIntN (a : Option Addr) (len cap : Nat) (zs : List Int) (w : World) (hr : IntRow w a len zs) (hb : len≤1048576) :
  Calls Tryz.prog 24 #[.slice a len cap] w fun e w'=>∃ N,e=.returned (.slice (some ⟨N,0,none⟩) len len)∧w.heap.size≤N∧Below w.heap.size w w'∧w'.rowIs N 3 len (fun i=>.int .i64 (zs[i]?.getD 0))∧IntRow w' (some ⟨N,0,none⟩) len zs :=
 (toIntS a len cap zs w hr hb).mono fun _ _ ⟨h1,h2,_,h4⟩=>⟨_,h1,Nat.le_refl _,h2,h4,IntRow.of_rowIs' hr.length hr.most h4⟩
end Go.Proofs.YtajhklklbfnmpaaGreat.copy
namespace Go.Proofs.YtajhklklbfnmpaaGreat.intsOwn
open Go.RowKit Go.Deep Go.Sort base copy
def OwnInts (B : Nat) (w : World) (v : Value) (zs : List Int) : Prop := w.ownsRow B 3 1 v zs.length (zs.map (Value.int .i64))
theorem OwnInts.nil (B : Nat) (w : World) : OwnInts B w (.slice none 0 0) [] := World.ownsRow_nil w B 3 1
theorem OwnInts.form {B : Nat} {w : World} {v : Value} {zs : List Int} (h : OwnInts B w v zs) : ∃ a cap,v=.slice a zs.length cap∧IntRow w a zs.length zs := by
 obtain ⟨h1,h2⟩:=h
 rcases h2 with ⟨rfl,hn⟩ | ⟨g,cap,cur,rfl,hb,hh,hn,hm,hs,ht⟩
 · exact ⟨none,0,by rw [hn],⟨rfl,by rw [hn];exact Nat.zero_le _,fun i hi=>by omega⟩⟩
 · refine ⟨some ⟨g,0,none⟩,cap,rfl,⟨rfl,Nat.le_trans hn hm,fun i hi=>⟨g,0,rfl,?_⟩⟩⟩
   have h3:cur[i]? = some (.int .i64 (zs[i]?.getD 0)):=by
    have:(cur.toList.take (zs.length * 1))[i]? = (zs.map (Value.int .i64))[i]?:=by rw [ht]
    rw [List.getElem?_take,if_pos (by omega)] at this
    rw [← Array.getElem?_toList,this,List.getElem?_map,List.getElem?_eq_getElem hi]
    rfl
   simp [World.cell?,hh,h3]
theorem OwnInts.below {B : Nat} {W w1 : World} {v : Value} {zs : List Int} (h : OwnInts B W v zs) (hb : Below W.heap.size W w1) : OwnInts B w1 v zs := by
 obtain ⟨h1,h2⟩:=h
 refine ⟨h1,?_⟩
 rcases h2 with h2 | ⟨g,cap,cur,e,hg,hh,hn,hm,hs,ht⟩
 · exact .inl h2
 · exact .inr ⟨g,cap,cur,e,hg,by rw [hb.block g (Array.getElem?_eq_some_iff.1 hh).1];exact hh,hn,hm,hs,ht⟩
theorem OwnInts.mono {B B' : Nat} {w : World} {v : Value} {zs : List Int} (h : OwnInts B w v zs) (hb : B'≤B) : OwnInts B' w v zs := by
 obtain ⟨h1,h2⟩:=h
 refine ⟨h1,?_⟩
 rcases h2 with h2 | ⟨g,cap,cur,e,hg,hh,hn,hm,hs,ht⟩
 · exact .inl h2
 · exact .inr ⟨g,cap,cur,e,Nat.le_trans hb hg,hh,hn,hm,hs,ht⟩
theorem grown_below {B : Nat} {w w1 w2 : World} {v : Value} {zs : List Int} (h : OwnInts B w1 v zs) (hb : Below B w w1) (hB : B≤w1.heap.size) (hg : w1.grownBy w2 v.ownBlock) : Below B w w2 :=
 hb.grown hg hB (fun k hk=>(World.ownsRow.lt h k hk).1)
theorem own_pass {B n : Nat} {w w1 : World} {v : Value} {t : TypeId} {s : Nat} {xs : List Value} (h : w.ownsRow B t s v n xs) (hb : Below w.heap.size w w1) : w1.ownsRow B t s v n xs := by
 obtain ⟨h1,h2⟩:=h
 refine ⟨h1,?_⟩
 rcases h2 with h2 | ⟨g,cap,cur,e,hg,hh,hn,hm,hs,ht⟩
 · exact .inl h2
 · exact .inr ⟨g,cap,cur,e,hg,by rw [hb.block g (Array.getElem?_eq_some_iff.1 hh).1];exact hh,hn,hm,hs,ht⟩
theorem own_holds {B g n cap : Nat} {w : World} {zs : List Int} (h : OwnInts B w (.slice (some ⟨g,0,none⟩) n cap) zs) : zs.length=n∧∀ j,j < n→w.cell? ⟨g,0+j,none⟩=some (.int .i64 (zs[j]?.getD 0))∧w.frozen? ⟨g,0+j,none⟩=false := by
 obtain ⟨a,c,e,hr⟩:=h.form
 simp only [Value.slice.injEq] at e
 obtain ⟨rfl,hl,_⟩:=e
 refine ⟨hl.symm,fun j hj=>?_⟩
 obtain ⟨b,o,e2,hc⟩:=hr.cell j (by omega)
 cases e2
 refine ⟨hc,?_⟩
 rcases h.2 with ⟨e,_⟩ | ⟨g',cap',cur,e,hg,hh,_⟩
 · cases e
 · cases e
   simp [World.frozen?,hh]
theorem own_lt {B g : Nat} {w : World} {v : Value} {zs : List Int} (h : OwnInts B w v zs) (hg : v.ownBlock=some g) : B≤g∧g < w.heap.size := World.ownsRow.lt h g hg
theorem row_of_own {B : Nat} {w : World} {a : Option Addr} {n c : Nat} {zs : List Int} (h : OwnInts B w (.slice a n c) zs) : IntRow w a n zs := by
 obtain ⟨a',c',e,hr⟩:=h.form
 have e1:a=a' := by injection e
 have e2:n=zs.length:=by injection e
 rw [e1,e2]
 exact hr
theorem own_grown {B : Nat} {w w1 : World} {v : Value} {zs : List Int} {row : Option Nat} (h : OwnInts B w v zs) (hg : w.grownBy w1 row) (hne : ∀ g,v.ownBlock=some g→some g ≠ row) : OwnInts B w1 v zs := by
 obtain ⟨h1,h2⟩:=h
 refine ⟨h1,?_⟩
 rcases h2 with h2 | ⟨g,cap,cur,rfl,hgB,hh,hn,hm,hs,ht⟩
 · exact .inl h2
 · exact .inr ⟨g,cap,cur,rfl,hgB,by rw [hg.block g (Array.getElem?_eq_some_iff.1 hh).1 (hne g rfl)];exact hh,hn,hm,hs,ht⟩
theorem grown_refl (w : World) (row : Option Nat) : w.grownBy w row := ⟨rfl,rfl,rfl,Nat.le_refl _,fun _ _ _=>rfl⟩
theorem grown_set {w w1 : World} {g k : Nat} {v : Value} (h : w.grownBy w1 (some g)) : w.grownBy (w1.setCell ⟨g,k,none⟩ v) (some g) := by
 rw [setCell_eq]
 refine ⟨h.os,h.tape,h.output,?_,fun j hj hne=>?_⟩
 · show _≤(w1.heap.modify g _).size
   rw [Array.size_modify];exact h.size
 · show (w1.heap.modify g _)[j]? = _
   rw [Array.getElem?_modify,if_neg (fun e=>hne (by rw [e]))]
   exact h.block j hj hne
theorem own_set {B g n c k : Nat} {w : World} {zs : List Int} {z : Int} (h : OwnInts B w (.slice (some ⟨g,0,none⟩) n c) zs) (hk : k < n) : OwnInts B (w.setCell ⟨g,k,none⟩ (.int .i64 z)) (.slice (some ⟨g,0,none⟩) n c) (zs.set k z) := by
 obtain ⟨h1,h2⟩:=h
 have hl:zs.length=n:=by
  rcases h2 with ⟨e,_⟩ | ⟨g',cap,cur,e,_⟩
  · cases e
  · simp only [Value.slice.injEq] at e;exact e.2.1.symm
 subst hl
 refine ⟨by simp,.inr ?_⟩
 rcases h2 with ⟨e,_⟩ | ⟨g',cap,cur,e,hg,hh,hn,hm,hs,ht⟩
 · cases e
 · cases e
   refine ⟨g,c,cur.setIfInBounds k (.int .i64 z),by rw [List.length_set],hg,?_,by rw [List.length_set];exact hn,hm,by simpa using hs,?_⟩
   · rw [setCell_eq]
     show (w.heap.modify g _)[g]? = _
     rw [Array.getElem?_modify,if_pos rfl,hh]
     rfl
   · rw [List.length_set,Array.toList_setIfInBounds,List.take_set,ht,List.map_set]
def marks (n : Int) (len : Nat) : List Int := (List.range len).map (fun i : Nat=>n+(i : Int))
theorem marks_get {n : Int} {len i : Nat} (h : i < len) : (marks n len)[i]?.getD 0=n+(i : Int) := by
 unfold marks
 rw [List.getElem?_map,List.getElem?_range h];rfl
set_option maxHeartbeats 800000 in
theorem mark_ints (B g len c : Nat) (zs : List Int) (n : Int) (w : World) (h : OwnInts B w (.slice (some ⟨g,0,none⟩) len c) zs) (hn0 : 0≤n) (hn : n≤2097152) (hl : len≤1048576) :
  Calls Tryz.prog 38 #[.slice (some ⟨g,0,none⟩) len c,.int .i64 n] w fun e w'=>e=.returned (.int .i64 (n+len))∧OwnInts B w' (.slice (some ⟨g,0,none⟩) len c) (marks n len)∧w.grownBy w' (some g):=by
 have hlen:=(own_holds h).1
 have HO:=hid h
 clear h
 go_enter Tryz.func38,Tryz.ntmps38
 go_wp2
 go_loopw [5,1] (fun i t wr=>∃ k:Nat,k≤len∧i=.int .i64 k∧t=.int .i64 (n+k)∧w.grownBy wr (some g)∧∃ ys,OwnInts B wr (.slice (some ⟨g,0,none⟩) len c) ys∧∀ j,j < k→ys[j]?.getD 0=n+(j:Int)) (fun i _ _=>len - (intOf i).toNat)
 case atStart=>exact ⟨0,Nat.zero_le _,rfl,by simp,grown_refl _ _,zs,HO.out,fun j hj=>absurd hj (Nat.not_lt_zero _)⟩
 case round =>
  obtain ⟨k,hk,rfl,rfl,hgr,ys,hown,hys⟩:=hrel
  obtain ⟨hyl,hcells⟩:=own_holds hown
  have HG:=hid hgr
  have HOw:=hid hown
  have HY:=hid hys
  clear hgr hys
  by_cases hlt:k < len
  · obtain ⟨hc,hf⟩:=hcells k hlt
    rw [Nat.zero_add] at hc hf
    have HYL:=hid hyl
    clear hown hcells hyl
    go_wp2
    go_roundw
    case rel =>
     refine ⟨k+1,by omega,by go_num,by congr 1;omega,grown_set HG.out,ys.set k (n+k),own_set HOw.out hlt,fun j hj=>?_⟩
     rw [List.getElem?_set]
     by_cases e:k=j
     · subst e;rw [if_pos rfl,if_pos (by rw [HYL.out];exact hlt)];rfl
     · rw [if_neg e];exact HY.out j (by omega)
    case measure=>simp [intOf];omega
  · have e:k=len:=by omega
    subst e
    have HE:Hid (ys=marks n k):=by
     show _=_
     apply List.ext_getElem
     · simp [marks];omega
     · intro i h1 h2
       have:=HY.out i (by omega)
       rw [List.getElem?_eq_getElem h1] at this
       simp [marks] at this ⊢
       exact this
    clear hown hcells hyl
    go_wp2
    go_ret
    exact ⟨rfl,by rw [← HE.out];exact HOw.out,HG.out⟩
set_option maxHeartbeats 400000 in
theorem held_ints (a : Option Addr) (len cap : Nat) (n : Int) (w : World) (hr : IntRow w a len (marks n len)) (hn0 : 0≤n) (hn : n≤2097152) (hl : len≤1048576) :
  Calls Tryz.prog 43 #[.slice a len cap,.int .i64 n] w fun e w'=>e=.returned (.int .i64 (n+len))∧w' = w:=by
 have HR:=hid hr
 clear hr
 go_enter Tryz.func43,Tryz.ntmps43
 go_wp2
 go_loop [5,1] (fun i t=>∃ k:Nat,k≤len∧i=.int .i64 k∧t=.int .i64 (n+k)) (fun i _=>len - (intOf i).toNat)
 case atStart=>exact ⟨0,Nat.zero_le _,rfl,by simp⟩
 case round =>
  obtain ⟨k,hk,rfl,rfl⟩:=hrel
  by_cases hlt:k < len
  · obtain ⟨b,off,rfl,hc⟩:=HR.out.cell k hlt
    rw [marks_get hlt] at hc
    have hq:(n+(k:Int) != n+(k:Int))=false:=by simp
    go_wp2
    go_round
    case rel=>exact ⟨k+1,by omega,by go_num,by congr 1;omega⟩
    case measure=>simp [intOf];omega
  · have e:k=len:=by omega
    subst e
    go_wp2
    go_ret
    exact ⟨rfl,rfl⟩
set_option maxHeartbeats 400000 in
theorem mark_any (B : Nat) (v : Value) (zs : List Int) (n : Int) (w : World) (h : OwnInts B w v zs) (hn0 : 0≤n) (hn : n≤2097152) (hl : zs.length≤1048576) :
  Calls Tryz.prog 38 #[v,.int .i64 n] w fun e w'=>e=.returned (.int .i64 (n+zs.length))∧OwnInts B w' v (marks n zs.length)∧w.grownBy w' v.ownBlock:=by
 rcases h.2 with ⟨rfl,h0⟩ | ⟨g,cap,cur,rfl,_⟩
 · have hz:zs=[]:=List.length_eq_zero_iff.1 h0
   subst hz
   go_enter Tryz.func38,Tryz.ntmps38
   go_wp2
   go_loop [5,1] (fun i t=>i=.int .i64 0∧t=.int .i64 n) (fun _ _=>0)
   case atStart=>exact ⟨rfl,rfl⟩
   case round =>
    obtain ⟨rfl,rfl⟩:=hrel
    go_wp2
    go_ret
    exact ⟨rfl,OwnInts.nil _ _,grown_refl _ _⟩
 · exact mark_ints B g zs.length cap zs n w h hn0 hn hl
end Go.Proofs.YtajhklklbfnmpaaGreat.intsOwn
namespace Go.Proofs.YtajhklklbfnmpaaGreat.pickI
open Go.RowKit Go.Deep Go.Shelf Go base copy netSem intsOwn prodSem rangeAt
attribute [local go_sem] Oper.semAt_some
def pk (L : Nat→List Int) : Nat→Nat→List Int→List (List Int)
 | 0,_,c=>[c]
 | m+1,k,c=>(L k).flatMap fun v=>pk L m (k+1) (c ++ [v])
theorem pk_prod (L : Nat→List Int) : ∀ m k,(prod L k).flatMap (fun c=>pk L m k c)=prod L (k+m)
 | 0,k=>by simp [pk]
 | m+1,k=>by
  have ih:=pk_prod L m (k+1)
  rw [show k+(m+1)=k+1+m by omega,← ih]
  simp only [pk,prod,List.flatMap_assoc,List.flatMap_map]
theorem pk_all (L : Nat→List Int) (n : Nat) : pk L n 0 []=prod L n := by
 have:=pk_prod L n 0
 simp only [prod,List.flatMap_cons,List.flatMap_nil,List.append_nil,Nat.zero_add] at this
 exact this
theorem own_keep {B n : Nat} {w w1 : World} {v : Value} {t : TypeId} {s : Nat} {xs : List Value} (h : w.ownsRow B t s v n xs) (hk : ∀ g,v.ownBlock=some g→w1.heap[g]? = w.heap[g]?) : w1.ownsRow B t s v n xs := by
 obtain ⟨h1,h2⟩:=h
 refine ⟨h1,?_⟩
 rcases h2 with h2 | ⟨g,cap,cur,rfl,hg,hh,hn⟩
 · exact .inl h2
 · exact .inr ⟨g,cap,cur,rfl,hg,by rw [hk g rfl];exact hh,hn⟩
def KpT (A A' : World) : Prop := ∀ (q : Nat) (cs : Array Value) (t : TypeId) (fr : Nat × Nat),A.heap[q]? = some (.cells cs t fr)→t=3 ∨ t=24 ∨ t=102→A'.heap[q]? = some (.cells cs t fr)
theorem KpT.trans {A B C : World} (h : KpT A B) (k : KpT B C) : KpT A C := fun q cs t fr hq ht=>k q cs t fr (h q cs t fr hq ht) ht
structure RInt (B : Nat) (A A' : World) : Prop where
 os:A'.os=A.os
 tape:A'.tape=A.tape
 output:A'.output=A.output
 size:A.heap.size≤A'.heap.size
 blk:∀ q,q < A.heap.size→(B≤q→∀ cs fr,A.heap[q]? ≠ some (.cells cs 3 fr))→A'.heap[q]? = A.heap[q]?
structure RowsD (B0 B1 RB n : Nat) (V : Nat→Value) (L : Nat→List Int) (W : World) : Prop where
 row:W.rowIs RB 24 n V
 own:∀ i,i < n→OwnInts B0 W (V i) (L i)
 low:∀ i g,i < n→(V i).ownBlock=some g→g < B1
 few:∀ i,i < n→(L i).length≤100
theorem own_block {B g : Nat} {W : World} {v : Value} {zs : List Int} (h : OwnInts B W v zs) (hg : v.ownBlock=some g) : ∃ cs,W.heap[g]? = some (.cells cs 3 (0,0)) := by
 rcases h.2 with ⟨e,_⟩ | ⟨g',cap,cur,e,_,hh,_⟩
 · rw [e] at hg;simp [Value.ownBlock] at hg
 · rw [e] at hg
   simp [Value.ownBlock] at hg
   subst hg
   exact ⟨cur,hh⟩
theorem RowsD.kept {B0 B1 RB n : Nat} {V : Nat→Value} {L : Nat→List Int} {W W' : World} (h : RowsD B0 B1 RB n V L W) (hk : KpT W W') : RowsD B0 B1 RB n V L W' := by
 refine ⟨h.row.of_block ?_,fun i hi=>own_keep (h.own i hi) fun g hg=>?_,h.low,h.few⟩
 · obtain ⟨c,hc,_⟩:=h.row
   rw [hc]
   exact hk _ _ _ _ hc (.inr (.inl rfl))
 · obtain ⟨cs,hc⟩:=own_block (h.own i hi) hg
   rw [hc]
   exact hk _ _ _ _ hc (.inl rfl)
theorem RowsD.set {B0 B1 RB n LB k : Nat} {V : Nat→Value} {L : Nat→List Int} {W : World} {v : Value} (h : RowsD B0 B1 RB n V L W) (h1 : B1≤LB) (h2 : RB ≠ LB) : RowsD B0 B1 RB n V L (W.setCell ⟨LB,k,none⟩ v) :=
 ⟨h.row.of_block (Below.heap_setCell _ _ _ _ h2),fun i hi=>own_keep (h.own i hi) fun g hg=>Below.heap_setCell _ _ _ _ (by have:=h.low i g hi hg;show g ≠ LB;omega),h.low,h.few⟩
def ListD (LB n k : Nat) (c : List Int) (W : World) : Prop := ∃ z : Nat→Int,W.rowIs LB 3 n (fun i=>.int .i64 (z i))∧∀ i,i < k→z i=zAt c i
theorem ListD.kept {LB n k : Nat} {c : List Int} {W W' : World} (h : ListD LB n k c W) (hk : KpT W W') : ListD LB n k c W' := by
 obtain ⟨z,hz,hc⟩:=h
 refine ⟨z,hz.of_block ?_,hc⟩
 obtain ⟨cs,hh,_⟩:=hz
 rw [hh]
 exact hk _ _ _ _ hh (.inl rfl)
theorem ListD.less {LB n k : Nat} {c : List Int} {v : Int} {W : World} (h : ListD LB n (k+1) (c ++ [v]) W) (hl : c.length=k) : ListD LB n k c W := by
 obtain ⟨z,hz,hc⟩:=h
 refine ⟨z,hz,fun i hi=>?_⟩
 rw [hc i (by omega)]
 unfold zAt
 rw [List.getElem?_append_left (by omega)]
theorem ListD.put {LB n k : Nat} {c : List Int} {W : World} (h : ListD LB n k c W) (hl : c.length=k) (v : Int) : ListD LB n (k+1) (c ++ [v]) (W.setCell ⟨LB,k,none⟩ (.int .i64 v)) := by
 obtain ⟨z,hz,hc⟩:=h
 refine ⟨fun i=>if i=k then v else z i,(hz.set k _).congr (fun i hi=>?_),fun i hi=>?_⟩
 · by_cases e:i=k <;> simp [e]
 · dsimp only
   unfold zAt
   by_cases e:i=k
   · subst e
     rw [if_pos rfl,List.getElem?_append_right (by omega),hl,Nat.sub_self]
     rfl
   · rw [if_neg e,List.getElem?_append_left (by omega)]
     exact hc i (by omega)
theorem RInt.set {B LB k : Nat} {W : World} {n : Nat} {f : Nat→Value} (h : W.rowIs LB 3 n f) (hB : B≤LB) (v : Value) : RInt B W (W.setCell ⟨LB,k,none⟩ v) := by
 refine ⟨rfl,rfl,rfl,by simp [World.setCell],fun q hq hx=>Below.heap_setCell _ _ _ _ fun e=>?_⟩
 obtain ⟨cs,hh,_⟩:=h
 have e:q=LB:=e
 subst e
 exact hx hB _ _ hh
def AtL (B n : Nat) (L : Nat→List Int) (x : Nat × List Int) (W : World) : Prop := B≤x.1∧x.2.length=n∧(∀ i,i < n→zAt x.2 i ∈ L i)∧W.rowIs x.1 3 n (fun i=>.int .i64 (zAt x.2 i))
set_option maxRecDepth 100000 in
set_option maxHeartbeats 4000000 in
theorem pick_in (n B0 B1 RB rc LB l : Nat) (V : Nat→Value) (L : Nat→List Int) (J Jx : List (Nat × List Int)→World→Prop) (hn : n≤100) (hLB : B1≤LB) (hRB : RB ≠ LB) (Bs : Nat) (Full : List (List Int)) (hBs : Bs≤LB)
  (hJ:∀ s A A',RInt Bs A A'→J s A→J s A')
  (hY:∀ pre x W1,J pre W1→AtL Bs n L x W1→(∃ suf,Full=pre.map (·.2) ++ x.2 :: suf)→YieldAt Fence.wide 9 Tryz.prog l #[.slice (some ⟨x.1,0,none⟩) n n] W1 fun e W' =>
   (e=.returned (.bool true)∧J (pre ++ [x]) W'∧KpT W1 W') ∨ (e=.returned (.bool false)∧Jx (pre ++ [x]) W')) :
  ∀ (m k:Nat) (c:List Int) (pre:List (Nat × List Int)) (W:World),k+m=n→(∃ suf,Full=pre.map (·.2) ++ pk L m k c ++ suf)→c.length=k→(∀ i,i < k→zAt c i ∈ L i)→RowsD B0 B1 RB n V L W→ListD LB n k c W→J pre W →
   CallsIn Fence.wide 9 Tryz.prog 142 #[.slice (some ⟨RB,0,none⟩) n rc,.slice (some ⟨LB,0,none⟩) n n,.int .i64 (k:Int),.func (.yield l) #[] #[]] W fun e W' =>
    (e=.returned (.bool true)∧J (pre ++ (pk L m k c).map (fun c=>(LB,c))) W'∧RowsD B0 B1 RB n V L W'∧ListD LB n k c W') ∨ (e=.returned (.bool false)∧∃ q,Jx q W'):=by
 intro m
 induction m with
 | zero =>
  intro k c pre W hkm hT hcl hin hR hL hj
  have hT0:∃ suf,Full=pre.map (·.2) ++ c :: suf:=by obtain ⟨suf,h⟩:=hT;exact ⟨suf,by rw [h];simp [pk]⟩
  have hk:k=n:=by omega
  subst hk
  have hat:AtL Bs k L (LB,c) W:=by
   obtain ⟨z,hz,hc⟩:=hL
   exact ⟨hBs,hcl,hin,hz.congr (fun i hi=>by rw [hc i hi])⟩
  obtain ⟨fn,tmps,assign,body,hy,hround⟩:=yield_any (m' := 8) (hY pre (LB,c) W hj hat hT0)
  dsimp only at hy
  have HR:=hid hR
  have HL:=hid hL
  have dk:((k:Int) == (k:Int))=true:=by simp
  clear hR hL hat
  refine callsIn_of_wp Tryz.func142 rfl trivial ?_ rfl
  simp only [Tryz.ntmps142,List.size_toArray,List.length_cons,List.length_nil,Nat.reduceAdd,Nat.reduceSub,Array.replicate_succ,Array.replicate_zero,List.push_toArray,List.append_toArray,List.nil_append,List.cons_append]
  gi_wp2
  refine hround.mono ?_
  rintro e W3 (⟨rfl,hJ3,hk3⟩ | ⟨rfl,hJx3⟩)
  · have HR3:=hid (HR.out.kept hk3)
    have HL3:=hid (HL.out.kept hk3)
    gi_wp2
    go_ret
    exact .inl ⟨rfl,by simpa [pk] using hJ3,HR3.out,HL3.out⟩
  · gi_wp2
    go_ret
    exact .inr ⟨rfl,_,hJx3⟩
 | succ m ih =>
  intro k c pre W hkm hT hcl hin hR hL hj
  have HT:=hid hT
  clear hT
  have hkn:k < n:=by omega
  have dk:((k:Int) == (n:Int))=false:=by simp;omega
  have HR:=hid hR
  have HL:=hid hL
  have hf:=hR.few k hkn
  obtain ⟨av,cv,hVk,hrow⟩:=(hR.own k hkn).form
  have HVk:=hid hVk
  have q0:=hR.row.cell (i:=k) hkn
  rw [hVk] at q0
  have hki:(k:Int) < (n:Int):=by omega
  have HIh:=hid ih
  have HJ0:=hid hj
  clear hR hL hVk hrow ih hj
  refine callsIn_of_wp Tryz.func142 rfl trivial ?_ rfl
  simp only [Tryz.ntmps142,List.size_toArray,List.length_cons,List.length_nil,Nat.reduceAdd,Nat.reduceSub,Array.replicate_succ,Array.replicate_zero,List.push_toArray,List.append_toArray,List.nil_append,List.cons_append]
  gi_wp2
  clear q0
  gi_loopw [23] (fun i wr=>∃ t:Nat,t≤(L k).length∧i=.int .i64 t∧J (pre ++ (((L k).take t).flatMap fun v=>pk L m (k+1) (c ++ [v])).map (fun c=>(LB,c))) wr∧RowsD B0 B1 RB n V L wr∧ListD LB n k c wr) (fun i _=>(L k).length - (intOf i).toNat)
  case atStart=>exact ⟨0,Nat.zero_le _,rfl,by simpa using HJ0.out,HR.out,HL.out⟩
  case round =>
   clear HR HL HJ0
   obtain ⟨t,ht,rfl,hj,hR,hL⟩:=hrel
   have HR:=hid hR
   have HL:=hid hL
   have HJ:=hid hj
   have hO:=hR.own k hkn
   rw [HVk.out] at hO
   have hrow:=row_of_own hO
   clear hR hL hj hO
   by_cases hlt:t < (L k).length
   · obtain ⟨b,off,rfl,hc⟩:=hrow.cell t hlt
     obtain ⟨v,hv⟩:∃ v,(L k)[t]?.getD 0=v:=⟨_,rfl⟩
     rw [hv] at hc
     have HTk:Hid ((L k).take (t+1)=(L k).take t ++ [v]):=hid (by rw [List.take_add_one,List.getElem?_eq_getElem hlt,← hv,List.getElem?_eq_getElem hlt];rfl)
     have hvin:v ∈ L k:=by rw [← hv,List.getElem?_eq_getElem hlt];exact List.getElem_mem hlt
     obtain ⟨z,hz,hzc⟩:=HL.out
     have gk:=hz.cell (i:=k) hkn
     have zk:=hz.frozen k
     have HLn:=hid (HL.out.put hcl v)
     have HRn:Hid (RowsD B0 B1 RB n V L (wr.setCell ⟨LB,k,none⟩ (.int .i64 v))):=hid (HR.out.set hLB hRB)
     have HJn:=hid (hJ _ _ _ (RInt.set (k:=k) hz hBs (.int .i64 v)) HJ.out)
     have HTn:Hid (∃ suf,Full=(pre ++ (((L k).take t).flatMap fun v=>pk L m (k+1) (c ++ [v])).map (fun c=>(LB,c))).map (·.2) ++ pk L m (k+1) (c ++ [v]) ++ suf):=hid (by
      obtain ⟨suf,h9⟩:=HT.out
      have e9:(pk L (m+1) k c)=((L k).take (t+1)).flatMap (fun v=>pk L m (k+1) (c ++ [v])) ++ ((L k).drop (t+1)).flatMap (fun v=>pk L m (k+1) (c ++ [v])):=by
       rw [← List.flatMap_append,List.take_append_drop]
       rfl
      have e8:∀ l:List (List Int),(l.map (fun c=>(LB,c))).map (·.2)=l:=fun l=>by rw [List.map_map];exact List.map_id _
      refine ⟨((L k).drop (t+1)).flatMap (fun v=>pk L m (k+1) (c ++ [v])) ++ suf,?_⟩
      rw [h9,e9,HTk.out,List.flatMap_append,List.map_append,e8]
      simp)
     have HI9:=hid (HIh.out (k+1) (c ++ [v]) _ _ (by omega) HTn.out (by simp [hcl]) (fun i hi=>by
      by_cases e:i=k
      · subst e
        unfold zAt
        rw [List.getElem?_append_right (by omega),hcl,Nat.sub_self]
        exact hvin
      · unfold zAt
        rw [List.getElem?_append_left (by omega)]
        exact hin i (by omega)) HRn.out HLn.out HJn.out)
     have hti:(t:Int) < ((L k).length:Int):=by omega
     clear hz hzc hv hrow HL HR HJ HLn HRn HJn
     gi_wp2
     refine ⟨trivial,(calls_any HI9.out).mono ?_⟩
     rintro e W3 (⟨rfl,hj3,hr3,hl3⟩ | ⟨rfl,q,hq⟩)
     · have HJ3:=hid hj3
       have HR3:=hid hr3
       have HL3:=hid (hl3.less hcl)
       clear hj3 hr3 hl3
       gi_wp2
       go_roundw
       case rel =>
        refine ⟨t+1,by omega,by simp,?_,HR3.out,HL3.out⟩
        rw [HTk.out,List.flatMap_append,List.map_append,← List.append_assoc]
        simpa using HJ3.out
       case measure=>simp [intOf];omega
     · gi_wp2
       go_ret
       exact .inr ⟨rfl,q,hq⟩
   · have e1:t=(L k).length:=by omega
     have HJe:Hid (J (pre ++ (pk L (m+1) k c).map (fun c=>(LB,c))) wr):=hid (by
      have:=HJ.out
      rw [e1,List.take_length] at this
      exact this)
     subst e1
     clear hlt
     gi_wp2
     go_ret
     exact .inl ⟨rfl,HJe.out,HR.out,HL.out⟩
end Go.Proofs.YtajhklklbfnmpaaGreat.pickI
