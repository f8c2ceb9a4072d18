import Derived.Test.YtajhklklbfnmpaaGreatPart2
import Derived.BigRegion
import Derived.Deep.RegionWith
import Derived.OwnWalk
import Derived.WalkSpells
import Derived.Maps.AppendAt
import Derived.Sort.Row
import Derived.Laws.ResultCell
set_option linter.unusedVariables false
namespace Go.Proofs.YtajhklklbfnmpaaGreat.picksI
open Go.RowKit Go.Deep Go.Shelf Go base copy netSem intsOwn prodSem rangeAt pickI
theorem RInt.below {B : Nat} {A A' : World} (h : Below A.heap.size A A') : RInt B A A' := ⟨h.os,h.tape,h.output,h.size,fun q hq _=>h.block q hq⟩
theorem kp_below {A A' : World} (h : Below A.heap.size A A') : KpT A A' := fun q cs t fr hq _=>(h.block q (Array.getElem?_eq_some_iff.1 hq).1).trans hq
theorem AtL.mono {B B' n : Nat} {L : Nat→List Int} {x : Nat × List Int} {W : World} (h : AtL B n L x W) (hb : B'≤B) : AtL B' n L x W := ⟨Nat.le_trans hb h.1,h.2⟩
structure StartP (B B0 B1 RB Bx n : Nat) (V : Nat→Value) (L : Nat→List Int) (W : World) : Prop where
 rows:RowsD B0 B1 RB n V L W
 box:Boxed W Bx 102 (.slice (some ⟨RB,0,none⟩) n n)
 b1:B1≤W.heap.size
 b:B≤W.heap.size
set_option maxRecDepth 100000 in
set_option maxHeartbeats 4000000 in
theorem picks_in (B B0 B1 RB Bx n l : Nat) (V : Nat→Value) (L : Nat→List Int) (hn : n≤100) (J Jx : List (Nat × List Int)→World→Prop) (W : World) (hs : StartP B B0 B1 RB Bx n V L W)
  (hJ:∀ s A A',RInt W.heap.size A A'→J s A→J s A')
  (hY:∀ pre x W1,J pre W1→AtL B n L x W1→(∃ suf,prod L n=pre.map (·.2) ++ x.2 :: suf)→YieldAt Fence.wide 9 Tryz.prog l #[.slice (some ⟨x.1,0,none⟩) n n] W1 fun e W' =>
   (e=.returned (.bool true)∧J (pre ++ [x]) W'∧KpT W1 W') ∨ (e=.returned (.bool false)∧Jx (pre ++ [x]) W'))
  (h0:J [] W) :
  Calls Tryz.prog 141 #[.func (.yield l) #[] #[],.pointer (some ⟨Bx,0,none⟩)] W fun e W'=>(∃ v,e=.returned v)∧((∃ xs,(∃ LB,xs=(prod L n).map (fun c=>(LB,c)))∧J xs W') ∨ (∃ pre,Jx pre W')):=by
 have HS:=hid hs
 have qb:=hs.box.cell
 have hlt:=hs.box.lt
 have hmk:=run_make_row' (P:=Tryz.prog) 24 3 (.int .i64 0) 8 Tryz.underlying24 Tryz.info_int rfl .i64 .i64 n (by omega) (by omega)
 have HP:Hid (∀ W9:World,W9=W.drew.alloc (.cells (madeCells #[.int .i64 0] n) 3)→Calls Tryz.prog 142 #[.slice (some ⟨RB,0,none⟩) n n,.slice (some ⟨W.heap.size,0,none⟩) n n,.int .i64 0,.func (.yield l) #[] #[]] W9 fun e W' =>
   ∃ ok:Bool,e=.returned (.bool ok)∧((∃ xs,(∃ LB,xs=(prod L n).map (fun c=>(LB,c)))∧J xs W') ∨ (∃ pre,Jx pre W'))):=hid (fun W9 h9=>by
  have hb:Below W.heap.size W W9:=by rw [h9];exact Bl
  have hrow:W9.rowIs W.heap.size 3 n (fun _=>.int .i64 0):=by rw [h9];exact World.rowIs_made W.drew _ n 3
  have hRB:RB ≠ W.heap.size:=by have:=hs.rows.row.lt;omega
  have h:=pick_in n B0 B1 RB n W.heap.size l V L J Jx hn hs.b1 hRB W.heap.size (prod L n) (Nat.le_refl _) hJ (fun pre x W1 hj hat hlt=>hY pre x W1 hj (AtL.mono hat hs.b) hlt) n 0 [] [] W9 (by omega) ⟨[],by rw [pk_all];simp⟩ rfl (fun i hi=>absurd hi (Nat.not_lt_zero _)) (hs.rows.kept (kp_below hb)) ⟨fun _=>0,hrow,fun i hi=>absurd hi (Nat.not_lt_zero _)⟩ (hJ _ _ _ (RInt.below hb) h0)
  refine (callsIn_wide.1 h).mono ?_
  rintro e W' (⟨he,hj,_,_⟩ | ⟨he,hq⟩)
  · rw [pk_all,List.nil_append] at hj
    exact ⟨_,he,.inl ⟨_,⟨_,rfl⟩,hj⟩⟩
  · exact ⟨_,he,.inr hq⟩)
 clear hs hJ hY h0
 go_enter Tryz.func141,Tryz.ntmps141
 go_wp2_with fail
 go_region_with (go_at_call 142;refine (HP.out _ rfl).mono ?_;rintro e W' ⟨ok,rfl,hres⟩;have HRes:=hid hres;clear hres)
 all_goals
  go_wp2
  go_end0
  exact ⟨⟨_,rfl⟩,HRes.out⟩
theorem picks_impl (a : Option Addr) (len cap : Nat) (w : World) :
  Calls Tryz.prog 115 #[.slice a len cap] w fun e w'=>e=.returned (.func (.func 141) #[] #[.pointer (some ⟨w.heap.size,0,none⟩)])∧w' = w.alloc (.cells #[.slice a len cap] 102):=by
 go_enter Tryz.func115,Tryz.ntmps115
 go_wp2
 go_ret
 exact ⟨rfl,rfl⟩
end Go.Proofs.YtajhklklbfnmpaaGreat.picksI
namespace Go.Proofs.YtajhklklbfnmpaaGreat.prodB
open Go
def bAt (z : List Bool) (i : Nat) : Bool := z[i]?.getD false
open Go base netSem
def prod (A : Nat→List Bool) : Nat→List (List Bool)
 | 0=>[[]]
 | k+1=>(prod A k).flatMap fun c=>(A k).map fun v=>c ++ [v]
theorem prod_len {A : Nat→List Bool} : ∀ {k : Nat} {c : List Bool},c ∈ prod A k→c.length=k
 | 0,c,h=>by simp [prod] at h;rw [h];rfl
 | k+1,c,h=>by
  simp only [prod,List.mem_flatMap,List.mem_map] at h
  obtain ⟨c',hc',v,_,rfl⟩:=h
  simp [prod_len hc']
end Go.Proofs.YtajhklklbfnmpaaGreat.prodB
namespace Go.Proofs.YtajhklklbfnmpaaGreat.rowsOwn
open Go.RowKit Go.Deep Go.Sort base copy
def OwnInts (B : Nat) (w : World) (v : Value) (zs : List Int) : Prop := w.ownsRow B 3 1 v zs.length (zs.map (Value.int .i64))
theorem OwnInts.form {B : Nat} {w : World} {v : Value} {zs : List Int} (h : OwnInts B w v zs) : ∃ a cap,v=.slice a zs.length cap∧IntRow w a zs.length zs := by
 obtain ⟨h1,h2⟩:=h
 rcases h2 with ⟨rfl,hn⟩ | ⟨g,cap,cur,rfl,hb,hh,hn,hm,hs,ht⟩
 · exact ⟨none,0,by rw [hn],⟨rfl,by rw [hn];exact Nat.zero_le _,fun i hi=>by omega⟩⟩
 · refine ⟨some ⟨g,0,none⟩,cap,rfl,⟨rfl,Nat.le_trans hn hm,fun i hi=>⟨g,0,rfl,?_⟩⟩⟩
   have h3:cur[i]? = some (.int .i64 (zs[i]?.getD 0)):=by
    have:(cur.toList.take (zs.length * 1))[i]? = (zs.map (Value.int .i64))[i]?:=by rw [ht]
    rw [List.getElem?_take,if_pos (by omega)] at this
    rw [← Array.getElem?_toList,this,List.getElem?_map,List.getElem?_eq_getElem hi]
    rfl
   simp [World.cell?,hh,h3]
theorem OwnInts.below {B : Nat} {W w1 : World} {v : Value} {zs : List Int} (h : OwnInts B W v zs) (hb : Below W.heap.size W w1) : OwnInts B w1 v zs := by
 obtain ⟨h1,h2⟩:=h
 refine ⟨h1,?_⟩
 rcases h2 with h2 | ⟨g,cap,cur,e,hg,hh,hn,hm,hs,ht⟩
 · exact .inl h2
 · exact .inr ⟨g,cap,cur,e,hg,by rw [hb.block g (Array.getElem?_eq_some_iff.1 hh).1];exact hh,hn,hm,hs,ht⟩
theorem OwnInts.mono {B B' : Nat} {w : World} {v : Value} {zs : List Int} (h : OwnInts B w v zs) (hb : B'≤B) : OwnInts B' w v zs := by
 obtain ⟨h1,h2⟩:=h
 refine ⟨h1,?_⟩
 rcases h2 with h2 | ⟨g,cap,cur,e,hg,hh,hn,hm,hs,ht⟩
 · exact .inl h2
 · exact .inr ⟨g,cap,cur,e,Nat.le_trans hb hg,hh,hn,hm,hs,ht⟩
theorem own_pass {B n : Nat} {w w1 : World} {v : Value} {t : TypeId} {s : Nat} {xs : List Value} (h : w.ownsRow B t s v n xs) (hb : Below w.heap.size w w1) : w1.ownsRow B t s v n xs := by
 obtain ⟨h1,h2⟩:=h
 refine ⟨h1,?_⟩
 rcases h2 with h2 | ⟨g,cap,cur,e,hg,hh,hn,hm,hs,ht⟩
 · exact .inl h2
 · exact .inr ⟨g,cap,cur,e,hg,by rw [hb.block g (Array.getElem?_eq_some_iff.1 hh).1];exact hh,hn,hm,hs,ht⟩
theorem own_holds {B g n cap : Nat} {w : World} {zs : List Int} (h : OwnInts B w (.slice (some ⟨g,0,none⟩) n cap) zs) : zs.length=n∧∀ j,j < n→w.cell? ⟨g,0+j,none⟩=some (.int .i64 (zs[j]?.getD 0))∧w.frozen? ⟨g,0+j,none⟩=false := by
 obtain ⟨a,c,e,hr⟩:=h.form
 simp only [Value.slice.injEq] at e
 obtain ⟨rfl,hl,_⟩:=e
 refine ⟨hl.symm,fun j hj=>?_⟩
 obtain ⟨b,o,e2,hc⟩:=hr.cell j (by omega)
 cases e2
 refine ⟨hc,?_⟩
 rcases h.2 with ⟨e,_⟩ | ⟨g',cap',cur,e,hg,hh,_⟩
 · cases e
 · cases e
   simp [World.frozen?,hh]
structure OwnRows (B : Nat) (w : World) (v : Value) (ps : List (Value × List Int)) : Prop where
 outer:w.ownsRow B 24 1 v ps.length (ps.map Prod.fst)
 inner:∀ p ∈ ps,OwnInts B w p.1 p.2
theorem OwnRows.below {B : Nat} {w w1 : World} {v : Value} {ps : List (Value × List Int)} (h : OwnRows B w v ps) (hb : RowKit.Below w.heap.size w w1) : OwnRows B w1 v ps :=
 ⟨own_pass h.outer hb,fun p hp=>(h.inner p hp).below hb⟩
theorem OwnRows.apart {B g n c : Nat} {w : World} {ps : List (Value × List Int)} (h : OwnRows B w (.slice (some ⟨g,0,none⟩) n c) ps) {p : Value × List Int} (hp : OwnInts B w p.1 p.2) {k : Nat} (hk : p.1.ownBlock=some k) : k ≠ g := by
 intro e
 subst e
 rcases h.outer.2 with ⟨e,_⟩ | ⟨g',cap,cur,e,_,hh,_⟩
 · cases e
 · cases e
   rcases hp.2 with ⟨e,_⟩ | ⟨g',cap,cur',e,_,hh',_⟩
   · rw [e] at hk;cases hk
   · rw [e] at hk
     have hk':some g' = some k:=hk
     injection hk' with hk'
     subst hk'
     rw [hh] at hh'
     injection hh' with hh'
     injection hh' with _ ht
     exact absurd ht (by decide)
theorem own_grown {B : Nat} {w w1 : World} {v : Value} {zs : List Int} {row : Option Nat} (h : OwnInts B w v zs) (hg : w.grownBy w1 row) (hne : ∀ g,v.ownBlock=some g→some g ≠ row) : OwnInts B w1 v zs := by
 obtain ⟨h1,h2⟩:=h
 refine ⟨h1,?_⟩
 rcases h2 with h2 | ⟨g,cap,cur,rfl,hgB,hh,hn,hm,hs,ht⟩
 · exact .inl h2
 · exact .inr ⟨g,cap,cur,rfl,hgB,by rw [hg.block g (Array.getElem?_eq_some_iff.1 hh).1 (hne g rfl)];exact hh,hn,hm,hs,ht⟩
theorem grown_refl (w : World) (row : Option Nat) : w.grownBy w row := ⟨rfl,rfl,rfl,Nat.le_refl _,fun _ _ _=>rfl⟩
theorem grown_set {w w1 : World} {g k : Nat} {v : Value} (h : w.grownBy w1 (some g)) : w.grownBy (w1.setCell ⟨g,k,none⟩ v) (some g) := by
 rw [setCell_eq]
 refine ⟨h.os,h.tape,h.output,?_,fun j hj hne=>?_⟩
 · show _≤(w1.heap.modify g _).size
   rw [Array.size_modify];exact h.size
 · show (w1.heap.modify g _)[j]? = _
   rw [Array.getElem?_modify,if_neg (fun e=>hne (by rw [e]))]
   exact h.block j hj hne
theorem rows_cell {B g n c j : Nat} {w : World} {cs : List (Value × List Int)} (h : OwnRows B w (.slice (some ⟨g,0,none⟩) n c) cs) (hj : j < n) : cs.length=n∧∃ p,cs[j]? = some p∧w.cell? ⟨g,j,none⟩=some p.1∧w.frozen? ⟨g,j,none⟩=false∧OwnInts B w p.1 p.2 := by
 have hl:cs.length=n:=by
  rcases h.outer.2 with ⟨e,_⟩ | ⟨g',c',cur,e,_⟩
  · cases e
  · injection e with _ e _;exact e.symm
 have hjc:j < cs.length:=by omega
 refine ⟨hl,cs[j],List.getElem?_eq_getElem hjc,?_⟩
 rcases h.outer.2 with ⟨e,_⟩ | ⟨g',cap,cur,e,_,hh,_,_,hs,ht⟩
 · cases e
 · have eg:g=g' := by injection e with e;injection e with e;injection e
   subst eg
   have h3:cur[j]? = some cs[j].1:=by
    have:(cur.toList.take (cs.length * 1))[j]? = (cs.map Prod.fst)[j]?:=by rw [ht]
    rw [List.getElem?_take,if_pos (by omega)] at this
    rw [← Array.getElem?_toList,this,List.getElem?_map,List.getElem?_eq_getElem hjc]
    rfl
   exact ⟨by simp [World.cell?,hh,h3],by simp [World.frozen?,hh],h.inner _ (List.getElem_mem hjc)⟩
theorem own_mono {B B' n : Nat} {t : TypeId} {w : World} {v : Value} {xs : List Value} (h : w.ownsRow B t 1 v n xs) (hb : B'≤B) : w.ownsRow B' t 1 v n xs := by
 obtain ⟨h1,h2⟩:=h
 refine ⟨h1,?_⟩
 rcases h2 with h2 | ⟨g,cap,cur,e,hg,hh,hn,hm,hs,ht⟩
 · exact .inl h2
 · exact .inr ⟨g,cap,cur,e,Nat.le_trans hb hg,hh,hn,hm,hs,ht⟩
theorem rows_mono {B B' : Nat} {w : World} {v : Value} {ps : List (Value × List Int)} (h : OwnRows B w v ps) (hb : B'≤B) : OwnRows B' w v ps := ⟨own_mono h.outer hb,fun p hp=>(h.inner p hp).mono hb⟩
theorem info_row : (Tryz.prog.info? 24).map (fun i=>(i.zero,i.size,i.bytes))=some (some (.slice none 0 0),1,24) := by kernel_rfl
def OnlyIn (w w' : World) (vs : List Value) : Prop := w.heap.size≤w'.heap.size∧∀ g,g < w.heap.size→(∀ v ∈ vs,v.ownBlock ≠ some g)→w'.heap[g]? = w.heap[g]?
theorem OnlyIn.refl (w : World) (vs : List Value) : OnlyIn w w vs := ⟨Nat.le_refl _,fun _ _ _=>rfl⟩
theorem OnlyIn.grown {w w1 w2 : World} {vs : List Value} {v : Value} (h : OnlyIn w w1 vs) (hv : v ∈ vs) (hg : w1.grownBy w2 v.ownBlock) : OnlyIn w w2 vs :=
 ⟨Nat.le_trans h.1 hg.size,fun g hlt hne=>by rw [hg.block g (Nat.lt_of_lt_of_le hlt h.1) (fun e=>hne v hv e.symm)];exact h.2 g hlt hne⟩
theorem OnlyIn.after {w w1 w2 : World} {vs : List Value} (hb : Below w.heap.size w w1) (h : OnlyIn w1 w2 vs) : OnlyIn w w2 vs :=
 ⟨Nat.le_trans hb.size h.1,fun g hlt hne=>by rw [h.2 g (Nat.lt_of_lt_of_le hlt hb.size) hne];exact hb.block g hlt⟩
end Go.Proofs.YtajhklklbfnmpaaGreat.rowsOwn
