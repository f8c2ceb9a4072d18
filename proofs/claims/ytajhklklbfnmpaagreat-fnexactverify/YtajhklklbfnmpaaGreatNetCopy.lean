import Derived.Test.YtajhklklbfnmpaaGreatPart2
import Derived.Laws.ResultCell
import Derived.Deep.RegionHeld3
set_option linter.unusedVariables false
namespace Go.Proofs.YtajhklklbfnmpaaGreat.netCopy
open Go.RowKit Go.Deep base netSem
structure Laid (t : TypeId) (m : Nat) (w : World) (N len k : Nat) (g : R) : Prop where
 row:∃ f,w.rowIs N t (len * m) f∧∀ i,i < k→∀ j,j < m→f (i * m+j)=.int .i64 (g i j)
theorem Laid.is {t : TypeId} {m : Nat} {w : World} {N len : Nat} {g : R} (h : Laid t m w N len len g) (hm : len≤maxLen) : Row m w (some ⟨N,0,none⟩) len g := by
 obtain ⟨f,hf,hc⟩:=h.row
 refine ⟨hm,fun i hi=>⟨N,0,rfl,fun j hj=>?_⟩⟩
 rw [← hc i hi j hj]
 have h1:i * m+j < len * m:=Nat.lt_of_lt_of_le (show i * m+j < (i+1) * m by rw [Nat.succ_mul];omega) (Nat.mul_le_mul_right m hi)
 simpa using hf.cell (i:=i * m+j) h1
theorem Laid.below {t : TypeId} {m : Nat} {w w1 : World} {N len k : Nat} {g : R} (h : Laid t m w N len k g) (hb : Below w.heap.size w w1) : Laid t m w1 N len k g := by
 obtain ⟨f,hf,hc⟩:=h.row
 exact ⟨f,hf.of_block (hb.block _ hf.lt),hc⟩
theorem Laid.set {t : TypeId} {m : Nat} {w : World} {N len k : Nat} {g : R} (h : Laid t m w N len k g) {x : Addr} (hx : x.block ≠ N) (v : Value) : Laid t m (w.setCell x v) N len k g := by
 obtain ⟨f,hf,hc⟩:=h.row
 exact ⟨f,hf.of_block (Below.heap_setCell _ _ _ _ (Ne.symm hx)),hc⟩
theorem at_ne {m i k j q : Nat} (hj : j < m) (hq : q < m) (h : ¬ (i=k∧j=q)) : ¬ (i * m+j=k * m+q) := by
 intro e
 have h1:i=k:=by
  rcases Nat.lt_trichotomy i k with h' | h' | h'
  · have:=Nat.mul_le_mul_right m (show i+1≤k from h')
    rw [Nat.succ_mul] at this;omega
  · exact h'
  · have:=Nat.mul_le_mul_right m (show k+1≤i from h')
    rw [Nat.succ_mul] at this;omega
 subst h1
 exact h ⟨rfl,by omega⟩
structure LaidS (w : World) (N len k : Nat) (s : Ss) : Prop where
 row:∃ f,w.rowIs N 9 len f∧∀ i,i < k→f i=.string (s i)
theorem LaidS.is {w : World} {N len : Nat} {s : Ss} (h : LaidS w N len len s) (hm : len≤maxLen) (hs : ∀ i,i < len→(s i).size≤maxLen) : StrRow w (some ⟨N,0,none⟩) len s := by
 obtain ⟨f,hf,hc⟩:=h.row
 refine ⟨hm,hs,fun i hi=>⟨N,0,rfl,?_⟩⟩
 rw [← hc i hi]
 simpa using hf.cell (i:=i) hi
theorem LaidS.below {w w1 : World} {N len k : Nat} {s : Ss} (h : LaidS w N len k s) (hb : Below w.heap.size w w1) : LaidS w1 N len k s := by
 obtain ⟨f,hf,hc⟩:=h.row
 exact ⟨f,hf.of_block (hb.block _ hf.lt),hc⟩
theorem LaidS.set {w : World} {N len k : Nat} {s : Ss} (h : LaidS w N len k s) {x : Addr} (hx : x.block ≠ N) (v : Value) : LaidS (w.setCell x v) N len k s := by
 obtain ⟨f,hf,hc⟩:=h.row
 exact ⟨f,hf.of_block (Below.heap_setCell _ _ _ _ (Ne.symm hx)),hc⟩
theorem LaidS.next {w : World} {N len k : Nat} {s : Ss} (h : LaidS w N len k s) (hk : k < len) : LaidS (w.setCell ⟨N,k,none⟩ (.string (s k))) N len (k+1) s := by
 obtain ⟨f,hf,hc⟩:=h.row
 refine ⟨_,hf.set k _,fun i hi=>?_⟩
 by_cases e:i=k
 · subst e;rw [if_pos rfl]
 · rw [if_neg e];exact hc i (by omega)
set_option maxHeartbeats 400000 in
theorem szStringS (a : Option Addr) (len cap : Nat) (s : Ss) (left : Int) (w : World) (hr : StrRow w a len s) (h0 : 0≤left) (h1 : left≤1048576) :
  Calls Tryz.prog 14 #[.slice a len cap,.int .i64 left] w fun e w'=>∃ r:Int,e=.returned (.int .i64 r)∧-1≤r∧r≤left∧(0≤r→(len:Int)≤left)∧∃ n,w' = w.drewN n:=by
 have hmost:=hr.most
 unfold maxLen at hmost
 have HS:=hid hr.size
 have HC:=hid hr.cell
 clear hr
 by_cases h:left < (len:Int)
 · go_enter Tryz.func14,Tryz.ntmps14
   go_wp2
   go_ret
   exact ⟨_,rfl,by omega,by omega,by omega,0,rfl⟩
 · go_enter Tryz.func14,Tryz.ntmps14
   go_wp2
   go_loopw [5,1] (fun i t wr=>∃ (k n:Nat) (r:Int),k≤len∧i=.int .i64 k∧t=.int .i64 r∧0≤r∧r≤left∧wr=w.drewN n) (fun i _ _=>len - (intOf i).toNat)
   case atStart=>exact ⟨0,0,_,Nat.zero_le _,rfl,rfl,by omega,by omega,rfl⟩
   case round =>
    obtain ⟨k,n,r,hk,rfl,rfl,hr0,hr1,hw⟩:=hrel
    have HW:=hid hw
    by_cases hlt:k < len
    · obtain ⟨b,off,rfl,hc0⟩:=HC.out k hlt
      have hc:wr.cell? ⟨b,off+k,none⟩=some (.string (s k)):=by rw [hw];simpa using hc0
      have hs:=HS.out k hlt
      unfold maxLen at hs
      clear hw hc0
      generalize s k=t at *
      by_cases hd:r - (t.size:Int) < 0
      · go_wp2
        go_ret
        exact ⟨_,rfl,by omega,by omega,by omega,n,HW.out⟩
      · go_wp2
        go_roundw
        case rel=>exact ⟨k+1,n,_,by omega,by go_num,rfl,by omega,by omega,HW.out⟩
        case measure=>simp [intOf];omega
    · have e:k=len:=by omega
      subst e
      go_wp2
      go_ret
      exact ⟨_,rfl,by omega,by omega,by omega,n,by first | exact HW.out | rfl⟩
theorem info_string : (Tryz.prog.info? 9).map (fun i=>(i.zero,i.size,i.bytes))=some (some (.string ByteArray.empty),1,16) := by kernel_rfl
set_option maxHeartbeats 800000 in
theorem toStringS (a : Option Addr) (len cap : Nat) (s : Ss) (w : World) (hr : StrRow w a len s) (hb : len≤1048576) :
  Calls Tryz.prog 22 #[.slice a len cap] w fun e w'=>∃ N,e=.returned (.slice (some ⟨N,0,none⟩) len len)∧w.heap.size≤N∧Below w.heap.size w w'∧LaidS w' N len len s:=by
 have hmost:=hr.most
 unfold maxLen at hmost
 have HC:=hid hr.cell
 clear hr
 have hmk:=run_make_row' (P:=Tryz.prog) 22 9 (.string ByteArray.empty) 16 Tryz.underlying22 info_string rfl .i64 .i64 len (by omega) (by omega)
 go_enter Tryz.func22,Tryz.ntmps22
 go_wp2
 go_loopw [4] (fun i wr=>∃ k:Nat,k≤len∧i=.int .i64 k∧Below w.heap.size w wr∧LaidS wr w.heap.size len k s) (fun i _=>len - (intOf i).toNat)
 case atStart=>exact ⟨0,Nat.zero_le _,rfl,(Below.refl _ _).alloc (Nat.le_refl _) _,⟨_,World.rowIs_made w _ len 9,fun i hi=>absurd hi (Nat.not_lt_zero _)⟩⟩
 case round =>
  obtain ⟨k,hk,rfl,hbel,hlaid⟩:=hrel
  by_cases hlt:k < len
  · obtain ⟨b,off,rfl,hc⟩:=HC.out k hlt
    have hc' := keep hbel hc
    obtain ⟨f,hf,-⟩:=hlaid.row
    have g4:=hf.cell (i:=k) (by omega)
    have g5:wr.frozen? ⟨w.heap.size,k,none⟩=false:=hf.frozen k
    have HB:Hid (Below w.heap.size w wr):=hbel
    have HR:=hid hlaid
    clear hbel hlaid hf hc hmk
    go_wp2
    go_roundw
    case rel=>exact ⟨k+1,by omega,by go_num,HB.out.setCell (Nat.le_refl _) _,HR.out.next hlt⟩
    case measure=>simp [intOf];omega
  · have e:k=len:=by omega
    subst e
    have HB:Hid (Below w.heap.size w wr):=hbel
    have HR:=hid hlaid
    clear hbel hlaid hmk
    go_wp2
    go_ret
    exact ⟨_,rfl,Nat.le_refl _,HB.out,HR.out⟩
set_option maxHeartbeats 800000 in
theorem eqStringS (a a' : Option Addr) (len cap cap' : Nat) (s : Ss) (w : World) (hr : StrRow w a len s) (hr' : StrRow w a' len s) :
  Calls Tryz.prog 32 #[.slice a len cap,.slice a' len cap'] w fun e w'=>e=.returned (.bool true)∧∃ n,w' = w.drewN n:=by
 have hmost:=hr.most
 unfold maxLen at hmost
 have HC:=hid hr.cell
 have HC' := hid hr'.cell
 clear hr hr'
 have hb:((len:Int) != (len:Int))=false:=by simp
 go_enter Tryz.func32,Tryz.ntmps32
 go_wp2
 go_loopw [5] (fun i wr=>∃ k n:Nat,k≤len∧i=.int .i64 k∧wr=w.drewN n) (fun i _=>len - (intOf i).toNat)
 case atStart=>exact ⟨0,0,Nat.zero_le _,rfl,rfl⟩
 case round =>
  obtain ⟨k,n,hk,rfl,hw⟩:=hrel
  have HW:=hid hw
  by_cases hlt:k < len
  · obtain ⟨b,off,rfl,hc0⟩:=HC.out k hlt
    obtain ⟨b',off',rfl,hc0'⟩:=HC'.out k hlt
    have hc:wr.cell? ⟨b,off+k,none⟩=some (.string (s k)):=by rw [hw];simpa using hc0
    have hc':wr.cell? ⟨b',off' + k,none⟩=some (.string (s k)):=by rw [hw];simpa using hc0'
    clear hw hc0 hc0'
    generalize s k=t at *
    have hq:(t.toList == t.toList)=true:=by simp
    go_wp2
    go_quiet (fail)
    go_wp2
    go_roundw
    case rel=>exact ⟨k+1,n+nq,by omega,by go_num,by rw [HW.out,World.drewN_drewN]⟩
    case measure=>simp [intOf];omega
  · have e:k=len:=by omega
    subst e
    clear hw
    go_wp2
    go_ret
    exact ⟨rfl,n,HW.out⟩
set_option maxHeartbeats 400000 in
theorem szLinkS (a : Option Addr) (len cap : Nat) (left : Int) (w : World) (hm : len≤maxLen) (h0 : 0≤left) (h1 : left≤1048576) :
  Calls Tryz.prog 15 #[.slice a len cap,.int .i64 left] w fun e w'=>e=.returned (.int .i64 (if left < len then -1 else left - len))∧w' = w:=by
 unfold maxLen at hm
 by_cases h:left < (len:Int)
 · rw [if_pos h]
   go_enter Tryz.func15,Tryz.ntmps15
   go_wp2
   go_ret
   exact ⟨rfl,rfl⟩
 · rw [if_neg h]
   go_enter Tryz.func15,Tryz.ntmps15
   go_wp2
   go_ret
   exact ⟨rfl,rfl⟩
set_option maxHeartbeats 400000 in
theorem toLink (x0 x1 x2 : Int) (w : World) :
  Calls Tryz.prog 50 #[.agg #[.int .i64 x0,.int .i64 x1,.int .i64 x2]] w fun e w'=>e=.returned (.agg #[.int .i64 x0,.int .i64 x1,.int .i64 x2])∧Below w.heap.size w w' := by
 go_enter Tryz.func50,Tryz.ntmps50
 go_wp2
 refine bodyPost_ret (v:=.agg #[.int .i64 x0,.int .i64 x1,.int .i64 x2]) (by simp [results,Tryz.results50,go_sem]) rfl ⟨rfl,Bl⟩
theorem info_Link : (Tryz.prog.info? 110).map (fun i=>(i.zero,i.size,i.bytes))=some (some (.agg #[.int .i64 0,.int .i64 0,.int .i64 0]),3,3 * 8) := by kernel_rfl
theorem run_make_Link (n : Nat) (h : n≤1048576) (w : World) :
  (Instr.makeSlice 37 (.int .i64 (n:Int)) (.int .i64 (n:Int))).run Tryz.prog w=.ok (.slice (some ⟨w.heap.size,0,none⟩) n n) (w.alloc (.cells (madeCells #[.int .i64 0,.int .i64 0,.int .i64 0] (n * 3)) 110)):=by
 obtain ⟨i,hi,hzz⟩:=Option.map_eq_some_iff.1 info_Link
 simp only [Prod.mk.injEq] at hzz
 obtain ⟨hz,hs,hb⟩:=hzz
 have hr:=run_make (P:=Tryz.prog) w 37 110 i _ Tryz.underlying37 hi hz .i64 .i64 n n (by omega) (Int.le_refl _) (by rw [hb];omega) (by omega)
 simp only [Int.toNat_natCast,hs] at hr
 exact hr
theorem next_Link {w : World} {N len k : Nat} {g : R} (h : Laid 110 3 w N len k g) (hk : k < len) : Laid 110 3 (((w.setCell ⟨N,k * 3,none⟩ (.int .i64 (g k 0))).setCell ⟨N,k * 3+1,none⟩ (.int .i64 (g k 1))).setCell ⟨N,k * 3+2,none⟩ (.int .i64 (g k 2))) N len (k+1) g := by
 obtain ⟨f,hf,hc⟩:=h.row
 refine ⟨_,(((hf.set (k * 3+0) _).set (k * 3+1) _).set (k * 3+2) _),fun i hi j hj=>?_⟩
 by_cases e0:i=k∧j=0
 · obtain ⟨rfl,rfl⟩:=e0
   rw [if_neg (by omega),if_neg (by omega),if_pos rfl]
 by_cases e1:i=k∧j=1
 · obtain ⟨rfl,rfl⟩:=e1
   rw [if_neg (by omega),if_pos rfl]
 by_cases e2:i=k∧j=2
 · obtain ⟨rfl,rfl⟩:=e2
   rw [if_pos rfl]
 rw [if_neg (at_ne hj (by decide) e2),if_neg (at_ne hj (by decide) e1),if_neg (at_ne hj (by decide) e0)]
 exact hc i (by omega) j hj
set_option maxHeartbeats 1600000 in
theorem toLinkS (a : Option Addr) (len cap : Nat) (g : R) (w : World) (hr : Row 3 w a len g) (hb : len≤1048576) :
  Calls Tryz.prog 23 #[.slice a len cap] w fun e w'=>∃ N,e=.returned (.slice (some ⟨N,0,none⟩) len len)∧w.heap.size≤N∧Below w.heap.size w w'∧Laid 110 3 w' N len len g:=by
 have HR:=hid hr
 clear hr
 have hmk:=run_make_Link len hb
 go_enter Tryz.func23,Tryz.ntmps23
 go_wp2
 go_loopw [4] (fun i wr=>∃ k:Nat,k≤len∧i=.int .i64 k∧Below w.heap.size w wr∧Laid 110 3 wr w.heap.size len k g) (fun i _=>len - (intOf i).toNat)
 case atStart=>exact ⟨0,Nat.zero_le _,rfl,(Below.refl _ _).alloc (Nat.le_refl _) _,⟨fun i=>(madeCells #[.int .i64 0,.int .i64 0,.int .i64 0] (len * 3))[i]?.getD undef,by
   have:=World.rowIs_alloc w (madeCells #[.int .i64 0,.int .i64 0,.int .i64 0] (len * 3)) 110 (fun i=>(madeCells #[.int .i64 0,.int .i64 0,.int .i64 0] (len * 3))[i]?.getD undef) (fun i hi=>by rw [Array.getElem?_eq_getElem hi];rfl)
   rwa [size_madeCells] at this,fun i hi=>absurd hi (Nat.not_lt_zero _)⟩⟩
 case round =>
  obtain ⟨k,hk,rfl,hbel,hlaid⟩:=hrel
  have HB:=hid hbel
  have HD:=hid hlaid
  by_cases hlt:k < len
  · obtain ⟨b,off,rfl,hc0,hc1,hc2⟩:=HR.out.at3 hlt
    replace hc0:=keep hbel hc0
    replace hc1:=keep hbel hc1
    replace hc2:=keep hbel hc2
    clear hbel hlaid hmk
    go_wp2_with fail
    refine (toLink _ _ _ _).mono ?_
    rintro e w2 ⟨rfl,hb2⟩
    have hL2:=HD.out.below hb2
    obtain ⟨f,hf,-⟩:=hL2.row
    have g0:=hf.cell (i:=k * 3) (by omega)
    have z0:=hf.frozen (k * 3)
    have g1:=hf.cell (i:=k * 3+1) (by omega)
    have z1:=hf.frozen (k * 3+1)
    have g2:=hf.cell (i:=k * 3+2) (by omega)
    have z2:=hf.frozen (k * 3+2)
    have HL2:=hid hL2
    have HB2:=hid (HB.out.trans (hb2.mono HB.out.size))
    clear hb2 hL2 hf
    go_wp2
    go_roundw
    case rel=>exact ⟨k+1,by omega,by go_num,(((HB2.out.setCell (Nat.le_refl _) _).setCell (Nat.le_refl _) _).setCell (Nat.le_refl _) _),next_Link HL2.out hlt⟩
    case measure=>simp [intOf];omega
  · have e:k=len:=by omega
    subst e
    clear hbel hlaid hmk
    go_wp2
    go_ret
    exact ⟨_,rfl,Nat.le_refl _,HB.out,HD.out⟩
set_option maxHeartbeats 400000 in
theorem eqLink (x0 x1 x2 : Int) (w : World) :
  Calls Tryz.prog 63 #[.agg #[.int .i64 x0,.int .i64 x1,.int .i64 x2],.agg #[.int .i64 x0,.int .i64 x1,.int .i64 x2]] w fun e w'=>e=.returned (.bool true)∧Below w.heap.size w w' := by
 have hx0:(x0 != x0)=false:=by simp
 have hx1:(x1 != x1)=false:=by simp
 have hx2:(x2 != x2)=false:=by simp
 go_enter Tryz.func63,Tryz.ntmps63
 go_wp2
 go_ret
 exact ⟨rfl,Bl⟩
set_option maxHeartbeats 1600000 in
set_option maxRecDepth 8000 in
theorem eqLinkS (a a' : Option Addr) (len cap cap' : Nat) (g : R) (w : World) (hr : Row 3 w a len g) (hr' : Row 3 w a' len g) :
  Calls Tryz.prog 33 #[.slice a len cap,.slice a' len cap'] w fun e w'=>e=.returned (.bool true)∧Below w.heap.size w w' := by
 have hmost:=hr.most
 unfold maxLen at hmost
 have HR:=hid hr
 have HR' := hid hr'
 clear hr hr'
 have hb:((len:Int) != (len:Int))=false:=by simp
 go_enter Tryz.func33,Tryz.ntmps33
 go_wp2
 go_loopw [5] (fun i wr=>∃ k:Nat,k≤len∧i=.int .i64 k∧Below w.heap.size w wr) (fun i _=>len - (intOf i).toNat)
 case atStart=>exact ⟨0,Nat.zero_le _,rfl,Below.refl _ _⟩
 case round =>
  obtain ⟨k,hk,rfl,hbel⟩:=hrel
  have HB:=hid hbel
  by_cases hlt:k < len
  · obtain ⟨b,off,rfl,hc0,hc1,hc2⟩:=HR.out.at3 hlt
    obtain ⟨b',off',rfl,hd0,hd1,hd2⟩:=HR'.out.at3 hlt
    replace hc0:=keep hbel hc0
    replace hc1:=keep hbel hc1
    replace hc2:=keep hbel hc2
    replace hd0:=keep hbel hd0
    replace hd1:=keep hbel hd1
    replace hd2:=keep hbel hd2
    clear hbel
    generalize g k 0=x0 at *
    generalize g k 1=x1 at *
    generalize g k 2=x2 at *
    go_wp2_with fail
    have HK:Hid (∀ w8:World,Below wr.heap.size wr w8→w8.cell? ⟨b,off+k * 3,none⟩=some (.int .i64 x0)∧w8.cell? ⟨b,off+k * 3+1,none⟩=some (.int .i64 x1)∧w8.cell? ⟨b,off+k * 3+2,none⟩=some (.int .i64 x2)∧w8.cell? ⟨b',off' + k * 3,none⟩=some (.int .i64 x0)∧w8.cell? ⟨b',off' + k * 3+1,none⟩=some (.int .i64 x1)∧w8.cell? ⟨b',off' + k * 3+2,none⟩=some (.int .i64 x2)∧Below wr.heap.size wr w8) :=
     fun w8 h=>⟨keep h hc0,keep h hc1,keep h hc2,keep h hd0,keep h hd1,keep h hd2,h⟩
    clear hc0 hc1 hc2 hd0 hd1 hd2
    go_region_held3 (fun w8=>w8.cell? ⟨b,off+k * 3,none⟩=some (.int .i64 x0)∧w8.cell? ⟨b,off+k * 3+1,none⟩=some (.int .i64 x1)∧w8.cell? ⟨b,off+k * 3+2,none⟩=some (.int .i64 x2)∧w8.cell? ⟨b',off' + k * 3,none⟩=some (.int .i64 x0)∧w8.cell? ⟨b',off' + k * 3+1,none⟩=some (.int .i64 x1)∧w8.cell? ⟨b',off' + k * 3+2,none⟩=some (.int .i64 x2)∧Below wr.heap.size wr w8)
     (refine HK.out _ (by first | assumption | exact (Below.refl _ wr).drew | exact hb57))
     ((go_at_call 63;refine (eqLink x0 x1 x2 _).mono ?_;rintro e w7 ⟨rfl,hb7⟩;have hb57:Below wr.heap.size wr w7:=((Below.refl _ wr).drew).trans hb7;clear hb7))
    all_goals
     have HB5:=hid hb57
     clear hb57
     go_wp2
     go_roundw
     case rel=>exact ⟨k+1,by omega,by go_num,HB.out.trans (HB5.out.mono HB.out.size)⟩
     case measure=>simp [intOf];omega
  · have e:k=len:=by omega
    subst e
    clear hbel
    go_wp2
    go_ret
    exact ⟨rfl,HB.out⟩
set_option maxHeartbeats 400000 in
theorem szImportS (a : Option Addr) (len cap : Nat) (left : Int) (w : World) (hm : len≤maxLen) (h0 : 0≤left) (h1 : left≤1048576) :
  Calls Tryz.prog 17 #[.slice a len cap,.int .i64 left] w fun e w'=>e=.returned (.int .i64 (if left < len then -1 else left - len))∧w' = w:=by
 unfold maxLen at hm
 by_cases h:left < (len:Int)
 · rw [if_pos h]
   go_enter Tryz.func17,Tryz.ntmps17
   go_wp2
   go_ret
   exact ⟨rfl,rfl⟩
 · rw [if_neg h]
   go_enter Tryz.func17,Tryz.ntmps17
   go_wp2
   go_ret
   exact ⟨rfl,rfl⟩
set_option maxHeartbeats 400000 in
theorem toImport (x0 x1 x2 x3 x4 : Int) (w : World) :
  Calls Tryz.prog 51 #[.agg #[.int .i64 x0,.int .i64 x1,.int .i64 x2,.int .i64 x3,.int .i64 x4]] w fun e w'=>e=.returned (.agg #[.int .i64 x0,.int .i64 x1,.int .i64 x2,.int .i64 x3,.int .i64 x4])∧Below w.heap.size w w' := by
 go_enter Tryz.func51,Tryz.ntmps51
 go_wp2
 refine bodyPost_ret (v:=.agg #[.int .i64 x0,.int .i64 x1,.int .i64 x2,.int .i64 x3,.int .i64 x4]) (by simp [results,Tryz.results51,go_sem]) rfl ⟨rfl,Bl⟩
theorem info_Import : (Tryz.prog.info? 114).map (fun i=>(i.zero,i.size,i.bytes))=some (some (.agg #[.int .i64 0,.int .i64 0,.int .i64 0,.int .i64 0,.int .i64 0]),5,5 * 8) := by kernel_rfl
theorem run_make_Import (n : Nat) (h : n≤1048576) (w : World) :
  (Instr.makeSlice 38 (.int .i64 (n:Int)) (.int .i64 (n:Int))).run Tryz.prog w=.ok (.slice (some ⟨w.heap.size,0,none⟩) n n) (w.alloc (.cells (madeCells #[.int .i64 0,.int .i64 0,.int .i64 0,.int .i64 0,.int .i64 0] (n * 5)) 114)):=by
 obtain ⟨i,hi,hzz⟩:=Option.map_eq_some_iff.1 info_Import
 simp only [Prod.mk.injEq] at hzz
 obtain ⟨hz,hs,hb⟩:=hzz
 have hr:=run_make (P:=Tryz.prog) w 38 114 i _ Tryz.underlying38 hi hz .i64 .i64 n n (by omega) (Int.le_refl _) (by rw [hb];omega) (by omega)
 simp only [Int.toNat_natCast,hs] at hr
 exact hr
theorem next_Import {w : World} {N len k : Nat} {g : R} (h : Laid 114 5 w N len k g) (hk : k < len) : Laid 114 5 (((((w.setCell ⟨N,k * 5,none⟩ (.int .i64 (g k 0))).setCell ⟨N,k * 5+1,none⟩ (.int .i64 (g k 1))).setCell ⟨N,k * 5+2,none⟩ (.int .i64 (g k 2))).setCell ⟨N,k * 5+3,none⟩ (.int .i64 (g k 3))).setCell ⟨N,k * 5+4,none⟩ (.int .i64 (g k 4))) N len (k+1) g := by
 obtain ⟨f,hf,hc⟩:=h.row
 refine ⟨_,(((((hf.set (k * 5+0) _).set (k * 5+1) _).set (k * 5+2) _).set (k * 5+3) _).set (k * 5+4) _),fun i hi j hj=>?_⟩
 by_cases e0:i=k∧j=0
 · obtain ⟨rfl,rfl⟩:=e0
   rw [if_neg (by omega),if_neg (by omega),if_neg (by omega),if_neg (by omega),if_pos rfl]
 by_cases e1:i=k∧j=1
 · obtain ⟨rfl,rfl⟩:=e1
   rw [if_neg (by omega),if_neg (by omega),if_neg (by omega),if_pos rfl]
 by_cases e2:i=k∧j=2
 · obtain ⟨rfl,rfl⟩:=e2
   rw [if_neg (by omega),if_neg (by omega),if_pos rfl]
 by_cases e3:i=k∧j=3
 · obtain ⟨rfl,rfl⟩:=e3
   rw [if_neg (by omega),if_pos rfl]
 by_cases e4:i=k∧j=4
 · obtain ⟨rfl,rfl⟩:=e4
   rw [if_pos rfl]
 rw [if_neg (at_ne hj (by decide) e4),if_neg (at_ne hj (by decide) e3),if_neg (at_ne hj (by decide) e2),if_neg (at_ne hj (by decide) e1),if_neg (at_ne hj (by decide) e0)]
 exact hc i (by omega) j hj
set_option maxHeartbeats 1600000 in
theorem toImportS (a : Option Addr) (len cap : Nat) (g : R) (w : World) (hr : Row 5 w a len g) (hb : len≤1048576) :
  Calls Tryz.prog 25 #[.slice a len cap] w fun e w'=>∃ N,e=.returned (.slice (some ⟨N,0,none⟩) len len)∧w.heap.size≤N∧Below w.heap.size w w'∧Laid 114 5 w' N len len g:=by
 have HR:=hid hr
 clear hr
 have hmk:=run_make_Import len hb
 go_enter Tryz.func25,Tryz.ntmps25
 go_wp2
 go_loopw [4] (fun i wr=>∃ k:Nat,k≤len∧i=.int .i64 k∧Below w.heap.size w wr∧Laid 114 5 wr w.heap.size len k g) (fun i _=>len - (intOf i).toNat)
 case atStart=>exact ⟨0,Nat.zero_le _,rfl,(Below.refl _ _).alloc (Nat.le_refl _) _,⟨fun i=>(madeCells #[.int .i64 0,.int .i64 0,.int .i64 0,.int .i64 0,.int .i64 0] (len * 5))[i]?.getD undef,by
   have:=World.rowIs_alloc w (madeCells #[.int .i64 0,.int .i64 0,.int .i64 0,.int .i64 0,.int .i64 0] (len * 5)) 114 (fun i=>(madeCells #[.int .i64 0,.int .i64 0,.int .i64 0,.int .i64 0,.int .i64 0] (len * 5))[i]?.getD undef) (fun i hi=>by rw [Array.getElem?_eq_getElem hi];rfl)
   rwa [size_madeCells] at this,fun i hi=>absurd hi (Nat.not_lt_zero _)⟩⟩
 case round =>
  obtain ⟨k,hk,rfl,hbel,hlaid⟩:=hrel
  have HB:=hid hbel
  have HD:=hid hlaid
  by_cases hlt:k < len
  · obtain ⟨b,off,rfl,hc0,hc1,hc2,hc3,hc4⟩:=HR.out.at5 hlt
    replace hc0:=keep hbel hc0
    replace hc1:=keep hbel hc1
    replace hc2:=keep hbel hc2
    replace hc3:=keep hbel hc3
    replace hc4:=keep hbel hc4
    clear hbel hlaid hmk
    go_wp2_with fail
    refine (toImport _ _ _ _ _ _).mono ?_
    rintro e w2 ⟨rfl,hb2⟩
    have hL2:=HD.out.below hb2
    obtain ⟨f,hf,-⟩:=hL2.row
    have g0:=hf.cell (i:=k * 5) (by omega)
    have z0:=hf.frozen (k * 5)
    have g1:=hf.cell (i:=k * 5+1) (by omega)
    have z1:=hf.frozen (k * 5+1)
    have g2:=hf.cell (i:=k * 5+2) (by omega)
    have z2:=hf.frozen (k * 5+2)
    have g3:=hf.cell (i:=k * 5+3) (by omega)
    have z3:=hf.frozen (k * 5+3)
    have g4:=hf.cell (i:=k * 5+4) (by omega)
    have z4:=hf.frozen (k * 5+4)
    have HL2:=hid hL2
    have HB2:=hid (HB.out.trans (hb2.mono HB.out.size))
    clear hb2 hL2 hf
    go_wp2
    go_roundw
    case rel=>exact ⟨k+1,by omega,by go_num,(((((HB2.out.setCell (Nat.le_refl _) _).setCell (Nat.le_refl _) _).setCell (Nat.le_refl _) _).setCell (Nat.le_refl _) _).setCell (Nat.le_refl _) _),next_Import HL2.out hlt⟩
    case measure=>simp [intOf];omega
  · have e:k=len:=by omega
    subst e
    clear hbel hlaid hmk
    go_wp2
    go_ret
    exact ⟨_,rfl,Nat.le_refl _,HB.out,HD.out⟩
set_option maxHeartbeats 400000 in
theorem eqImport (x0 x1 x2 x3 x4 : Int) (w : World) :
  Calls Tryz.prog 64 #[.agg #[.int .i64 x0,.int .i64 x1,.int .i64 x2,.int .i64 x3,.int .i64 x4],.agg #[.int .i64 x0,.int .i64 x1,.int .i64 x2,.int .i64 x3,.int .i64 x4]] w fun e w'=>e=.returned (.bool true)∧Below w.heap.size w w' := by
 have hx0:(x0 != x0)=false:=by simp
 have hx1:(x1 != x1)=false:=by simp
 have hx2:(x2 != x2)=false:=by simp
 have hx3:(x3 != x3)=false:=by simp
 have hx4:(x4 != x4)=false:=by simp
 go_enter Tryz.func64,Tryz.ntmps64
 go_wp2
 go_ret
 exact ⟨rfl,Bl⟩
set_option maxHeartbeats 1600000 in
set_option maxRecDepth 8000 in
theorem eqImportS (a a' : Option Addr) (len cap cap' : Nat) (g : R) (w : World) (hr : Row 5 w a len g) (hr' : Row 5 w a' len g) :
  Calls Tryz.prog 34 #[.slice a len cap,.slice a' len cap'] w fun e w'=>e=.returned (.bool true)∧Below w.heap.size w w' := by
 have hmost:=hr.most
 unfold maxLen at hmost
 have HR:=hid hr
 have HR' := hid hr'
 clear hr hr'
 have hb:((len:Int) != (len:Int))=false:=by simp
 go_enter Tryz.func34,Tryz.ntmps34
 go_wp2
 go_loopw [5] (fun i wr=>∃ k:Nat,k≤len∧i=.int .i64 k∧Below w.heap.size w wr) (fun i _=>len - (intOf i).toNat)
 case atStart=>exact ⟨0,Nat.zero_le _,rfl,Below.refl _ _⟩
 case round =>
  obtain ⟨k,hk,rfl,hbel⟩:=hrel
  have HB:=hid hbel
  by_cases hlt:k < len
  · obtain ⟨b,off,rfl,hc0,hc1,hc2,hc3,hc4⟩:=HR.out.at5 hlt
    obtain ⟨b',off',rfl,hd0,hd1,hd2,hd3,hd4⟩:=HR'.out.at5 hlt
    replace hc0:=keep hbel hc0
    replace hc1:=keep hbel hc1
    replace hc2:=keep hbel hc2
    replace hc3:=keep hbel hc3
    replace hc4:=keep hbel hc4
    replace hd0:=keep hbel hd0
    replace hd1:=keep hbel hd1
    replace hd2:=keep hbel hd2
    replace hd3:=keep hbel hd3
    replace hd4:=keep hbel hd4
    clear hbel
    generalize g k 0=x0 at *
    generalize g k 1=x1 at *
    generalize g k 2=x2 at *
    generalize g k 3=x3 at *
    generalize g k 4=x4 at *
    go_wp2_with fail
    have HK:Hid (∀ w8:World,Below wr.heap.size wr w8→w8.cell? ⟨b,off+k * 5,none⟩=some (.int .i64 x0)∧w8.cell? ⟨b,off+k * 5+1,none⟩=some (.int .i64 x1)∧w8.cell? ⟨b,off+k * 5+2,none⟩=some (.int .i64 x2)∧w8.cell? ⟨b,off+k * 5+3,none⟩=some (.int .i64 x3)∧w8.cell? ⟨b,off+k * 5+4,none⟩=some (.int .i64 x4)∧w8.cell? ⟨b',off' + k * 5,none⟩=some (.int .i64 x0)∧w8.cell? ⟨b',off' + k * 5+1,none⟩=some (.int .i64 x1)∧w8.cell? ⟨b',off' + k * 5+2,none⟩=some (.int .i64 x2)∧w8.cell? ⟨b',off' + k * 5+3,none⟩=some (.int .i64 x3)∧w8.cell? ⟨b',off' + k * 5+4,none⟩=some (.int .i64 x4)∧Below wr.heap.size wr w8) :=
     fun w8 h=>⟨keep h hc0,keep h hc1,keep h hc2,keep h hc3,keep h hc4,keep h hd0,keep h hd1,keep h hd2,keep h hd3,keep h hd4,h⟩
    clear hc0 hc1 hc2 hc3 hc4 hd0 hd1 hd2 hd3 hd4
    go_region_held3 (fun w8=>w8.cell? ⟨b,off+k * 5,none⟩=some (.int .i64 x0)∧w8.cell? ⟨b,off+k * 5+1,none⟩=some (.int .i64 x1)∧w8.cell? ⟨b,off+k * 5+2,none⟩=some (.int .i64 x2)∧w8.cell? ⟨b,off+k * 5+3,none⟩=some (.int .i64 x3)∧w8.cell? ⟨b,off+k * 5+4,none⟩=some (.int .i64 x4)∧w8.cell? ⟨b',off' + k * 5,none⟩=some (.int .i64 x0)∧w8.cell? ⟨b',off' + k * 5+1,none⟩=some (.int .i64 x1)∧w8.cell? ⟨b',off' + k * 5+2,none⟩=some (.int .i64 x2)∧w8.cell? ⟨b',off' + k * 5+3,none⟩=some (.int .i64 x3)∧w8.cell? ⟨b',off' + k * 5+4,none⟩=some (.int .i64 x4)∧Below wr.heap.size wr w8)
     (refine HK.out _ (by first | assumption | exact (Below.refl _ wr).drew | exact hb57))
     ((go_at_call 64;refine (eqImport x0 x1 x2 x3 x4 _).mono ?_;rintro e w7 ⟨rfl,hb7⟩;have hb57:Below wr.heap.size wr w7:=((Below.refl _ wr).drew).trans hb7;clear hb7))
    all_goals
     have HB5:=hid hb57
     clear hb57
     go_wp2
     go_roundw
     case rel=>exact ⟨k+1,by omega,by go_num,HB.out.trans (HB5.out.mono HB.out.size)⟩
     case measure=>simp [intOf];omega
  · have e:k=len:=by omega
    subst e
    clear hbel
    go_wp2
    go_ret
    exact ⟨rfl,HB.out⟩
set_option maxHeartbeats 400000 in
theorem szFilterS (a : Option Addr) (len cap : Nat) (left : Int) (w : World) (hm : len≤maxLen) (h0 : 0≤left) (h1 : left≤1048576) :
  Calls Tryz.prog 18 #[.slice a len cap,.int .i64 left] w fun e w'=>e=.returned (.int .i64 (if left < len then -1 else left - len))∧w' = w:=by
 unfold maxLen at hm
 by_cases h:left < (len:Int)
 · rw [if_pos h]
   go_enter Tryz.func18,Tryz.ntmps18
   go_wp2
   go_ret
   exact ⟨rfl,rfl⟩
 · rw [if_neg h]
   go_enter Tryz.func18,Tryz.ntmps18
   go_wp2
   go_ret
   exact ⟨rfl,rfl⟩
set_option maxHeartbeats 400000 in
theorem toFilter (x0 x1 x2 x3 : Int) (w : World) :
  Calls Tryz.prog 52 #[.agg #[.int .i64 x0,.int .i64 x1,.int .i64 x2,.int .i64 x3]] w fun e w'=>e=.returned (.agg #[.int .i64 x0,.int .i64 x1,.int .i64 x2,.int .i64 x3])∧Below w.heap.size w w' := by
 go_enter Tryz.func52,Tryz.ntmps52
 go_wp2
 refine bodyPost_ret (v:=.agg #[.int .i64 x0,.int .i64 x1,.int .i64 x2,.int .i64 x3]) (by simp [results,Tryz.results52,go_sem]) rfl ⟨rfl,Bl⟩
theorem info_Filter : (Tryz.prog.info? 118).map (fun i=>(i.zero,i.size,i.bytes))=some (some (.agg #[.int .i64 0,.int .i64 0,.int .i64 0,.int .i64 0]),4,4 * 8) := by kernel_rfl
theorem run_make_Filter (n : Nat) (h : n≤1048576) (w : World) :
  (Instr.makeSlice 39 (.int .i64 (n:Int)) (.int .i64 (n:Int))).run Tryz.prog w=.ok (.slice (some ⟨w.heap.size,0,none⟩) n n) (w.alloc (.cells (madeCells #[.int .i64 0,.int .i64 0,.int .i64 0,.int .i64 0] (n * 4)) 118)):=by
 obtain ⟨i,hi,hzz⟩:=Option.map_eq_some_iff.1 info_Filter
 simp only [Prod.mk.injEq] at hzz
 obtain ⟨hz,hs,hb⟩:=hzz
 have hr:=run_make (P:=Tryz.prog) w 39 118 i _ Tryz.underlying39 hi hz .i64 .i64 n n (by omega) (Int.le_refl _) (by rw [hb];omega) (by omega)
 simp only [Int.toNat_natCast,hs] at hr
 exact hr
theorem next_Filter {w : World} {N len k : Nat} {g : R} (h : Laid 118 4 w N len k g) (hk : k < len) : Laid 118 4 ((((w.setCell ⟨N,k * 4,none⟩ (.int .i64 (g k 0))).setCell ⟨N,k * 4+1,none⟩ (.int .i64 (g k 1))).setCell ⟨N,k * 4+2,none⟩ (.int .i64 (g k 2))).setCell ⟨N,k * 4+3,none⟩ (.int .i64 (g k 3))) N len (k+1) g := by
 obtain ⟨f,hf,hc⟩:=h.row
 refine ⟨_,((((hf.set (k * 4+0) _).set (k * 4+1) _).set (k * 4+2) _).set (k * 4+3) _),fun i hi j hj=>?_⟩
 by_cases e0:i=k∧j=0
 · obtain ⟨rfl,rfl⟩:=e0
   rw [if_neg (by omega),if_neg (by omega),if_neg (by omega),if_pos rfl]
 by_cases e1:i=k∧j=1
 · obtain ⟨rfl,rfl⟩:=e1
   rw [if_neg (by omega),if_neg (by omega),if_pos rfl]
 by_cases e2:i=k∧j=2
 · obtain ⟨rfl,rfl⟩:=e2
   rw [if_neg (by omega),if_pos rfl]
 by_cases e3:i=k∧j=3
 · obtain ⟨rfl,rfl⟩:=e3
   rw [if_pos rfl]
 rw [if_neg (at_ne hj (by decide) e3),if_neg (at_ne hj (by decide) e2),if_neg (at_ne hj (by decide) e1),if_neg (at_ne hj (by decide) e0)]
 exact hc i (by omega) j hj
set_option maxHeartbeats 1600000 in
theorem toFilterS (a : Option Addr) (len cap : Nat) (g : R) (w : World) (hr : Row 4 w a len g) (hb : len≤1048576) :
  Calls Tryz.prog 26 #[.slice a len cap] w fun e w'=>∃ N,e=.returned (.slice (some ⟨N,0,none⟩) len len)∧w.heap.size≤N∧Below w.heap.size w w'∧Laid 118 4 w' N len len g:=by
 have HR:=hid hr
 clear hr
 have hmk:=run_make_Filter len hb
 go_enter Tryz.func26,Tryz.ntmps26
 go_wp2
 go_loopw [4] (fun i wr=>∃ k:Nat,k≤len∧i=.int .i64 k∧Below w.heap.size w wr∧Laid 118 4 wr w.heap.size len k g) (fun i _=>len - (intOf i).toNat)
 case atStart=>exact ⟨0,Nat.zero_le _,rfl,(Below.refl _ _).alloc (Nat.le_refl _) _,⟨fun i=>(madeCells #[.int .i64 0,.int .i64 0,.int .i64 0,.int .i64 0] (len * 4))[i]?.getD undef,by
   have:=World.rowIs_alloc w (madeCells #[.int .i64 0,.int .i64 0,.int .i64 0,.int .i64 0] (len * 4)) 118 (fun i=>(madeCells #[.int .i64 0,.int .i64 0,.int .i64 0,.int .i64 0] (len * 4))[i]?.getD undef) (fun i hi=>by rw [Array.getElem?_eq_getElem hi];rfl)
   rwa [size_madeCells] at this,fun i hi=>absurd hi (Nat.not_lt_zero _)⟩⟩
 case round =>
  obtain ⟨k,hk,rfl,hbel,hlaid⟩:=hrel
  have HB:=hid hbel
  have HD:=hid hlaid
  by_cases hlt:k < len
  · obtain ⟨b,off,rfl,hc0,hc1,hc2,hc3⟩:=HR.out.at4 hlt
    replace hc0:=keep hbel hc0
    replace hc1:=keep hbel hc1
    replace hc2:=keep hbel hc2
    replace hc3:=keep hbel hc3
    clear hbel hlaid hmk
    go_wp2_with fail
    refine (toFilter _ _ _ _ _).mono ?_
    rintro e w2 ⟨rfl,hb2⟩
    have hL2:=HD.out.below hb2
    obtain ⟨f,hf,-⟩:=hL2.row
    have g0:=hf.cell (i:=k * 4) (by omega)
    have z0:=hf.frozen (k * 4)
    have g1:=hf.cell (i:=k * 4+1) (by omega)
    have z1:=hf.frozen (k * 4+1)
    have g2:=hf.cell (i:=k * 4+2) (by omega)
    have z2:=hf.frozen (k * 4+2)
    have g3:=hf.cell (i:=k * 4+3) (by omega)
    have z3:=hf.frozen (k * 4+3)
    have HL2:=hid hL2
    have HB2:=hid (HB.out.trans (hb2.mono HB.out.size))
    clear hb2 hL2 hf
    go_wp2
    go_roundw
    case rel=>exact ⟨k+1,by omega,by go_num,((((HB2.out.setCell (Nat.le_refl _) _).setCell (Nat.le_refl _) _).setCell (Nat.le_refl _) _).setCell (Nat.le_refl _) _),next_Filter HL2.out hlt⟩
    case measure=>simp [intOf];omega
  · have e:k=len:=by omega
    subst e
    clear hbel hlaid hmk
    go_wp2
    go_ret
    exact ⟨_,rfl,Nat.le_refl _,HB.out,HD.out⟩
set_option maxHeartbeats 400000 in
theorem eqFilter (x0 x1 x2 x3 : Int) (w : World) :
  Calls Tryz.prog 65 #[.agg #[.int .i64 x0,.int .i64 x1,.int .i64 x2,.int .i64 x3],.agg #[.int .i64 x0,.int .i64 x1,.int .i64 x2,.int .i64 x3]] w fun e w'=>e=.returned (.bool true)∧Below w.heap.size w w' := by
 have hx0:(x0 != x0)=false:=by simp
 have hx1:(x1 != x1)=false:=by simp
 have hx2:(x2 != x2)=false:=by simp
 have hx3:(x3 != x3)=false:=by simp
 go_enter Tryz.func65,Tryz.ntmps65
 go_wp2
 go_ret
 exact ⟨rfl,Bl⟩
set_option maxHeartbeats 1600000 in
set_option maxRecDepth 8000 in
theorem eqFilterS (a a' : Option Addr) (len cap cap' : Nat) (g : R) (w : World) (hr : Row 4 w a len g) (hr' : Row 4 w a' len g) :
  Calls Tryz.prog 35 #[.slice a len cap,.slice a' len cap'] w fun e w'=>e=.returned (.bool true)∧Below w.heap.size w w' := by
 have hmost:=hr.most
 unfold maxLen at hmost
 have HR:=hid hr
 have HR' := hid hr'
 clear hr hr'
 have hb:((len:Int) != (len:Int))=false:=by simp
 go_enter Tryz.func35,Tryz.ntmps35
 go_wp2
 go_loopw [5] (fun i wr=>∃ k:Nat,k≤len∧i=.int .i64 k∧Below w.heap.size w wr) (fun i _=>len - (intOf i).toNat)
 case atStart=>exact ⟨0,Nat.zero_le _,rfl,Below.refl _ _⟩
 case round =>
  obtain ⟨k,hk,rfl,hbel⟩:=hrel
  have HB:=hid hbel
  by_cases hlt:k < len
  · obtain ⟨b,off,rfl,hc0,hc1,hc2,hc3⟩:=HR.out.at4 hlt
    obtain ⟨b',off',rfl,hd0,hd1,hd2,hd3⟩:=HR'.out.at4 hlt
    replace hc0:=keep hbel hc0
    replace hc1:=keep hbel hc1
    replace hc2:=keep hbel hc2
    replace hc3:=keep hbel hc3
    replace hd0:=keep hbel hd0
    replace hd1:=keep hbel hd1
    replace hd2:=keep hbel hd2
    replace hd3:=keep hbel hd3
    clear hbel
    generalize g k 0=x0 at *
    generalize g k 1=x1 at *
    generalize g k 2=x2 at *
    generalize g k 3=x3 at *
    go_wp2_with fail
    have HK:Hid (∀ w8:World,Below wr.heap.size wr w8→w8.cell? ⟨b,off+k * 4,none⟩=some (.int .i64 x0)∧w8.cell? ⟨b,off+k * 4+1,none⟩=some (.int .i64 x1)∧w8.cell? ⟨b,off+k * 4+2,none⟩=some (.int .i64 x2)∧w8.cell? ⟨b,off+k * 4+3,none⟩=some (.int .i64 x3)∧w8.cell? ⟨b',off' + k * 4,none⟩=some (.int .i64 x0)∧w8.cell? ⟨b',off' + k * 4+1,none⟩=some (.int .i64 x1)∧w8.cell? ⟨b',off' + k * 4+2,none⟩=some (.int .i64 x2)∧w8.cell? ⟨b',off' + k * 4+3,none⟩=some (.int .i64 x3)∧Below wr.heap.size wr w8) :=
     fun w8 h=>⟨keep h hc0,keep h hc1,keep h hc2,keep h hc3,keep h hd0,keep h hd1,keep h hd2,keep h hd3,h⟩
    clear hc0 hc1 hc2 hc3 hd0 hd1 hd2 hd3
    go_region_held3 (fun w8=>w8.cell? ⟨b,off+k * 4,none⟩=some (.int .i64 x0)∧w8.cell? ⟨b,off+k * 4+1,none⟩=some (.int .i64 x1)∧w8.cell? ⟨b,off+k * 4+2,none⟩=some (.int .i64 x2)∧w8.cell? ⟨b,off+k * 4+3,none⟩=some (.int .i64 x3)∧w8.cell? ⟨b',off' + k * 4,none⟩=some (.int .i64 x0)∧w8.cell? ⟨b',off' + k * 4+1,none⟩=some (.int .i64 x1)∧w8.cell? ⟨b',off' + k * 4+2,none⟩=some (.int .i64 x2)∧w8.cell? ⟨b',off' + k * 4+3,none⟩=some (.int .i64 x3)∧Below wr.heap.size wr w8)
     (refine HK.out _ (by first | assumption | exact (Below.refl _ wr).drew | exact hb57))
     ((go_at_call 65;refine (eqFilter x0 x1 x2 x3 _).mono ?_;rintro e w7 ⟨rfl,hb7⟩;have hb57:Below wr.heap.size wr w7:=((Below.refl _ wr).drew).trans hb7;clear hb7))
    all_goals
     have HB5:=hid hb57
     clear hb57
     go_wp2
     go_roundw
     case rel=>exact ⟨k+1,by omega,by go_num,HB.out.trans (HB5.out.mono HB.out.size)⟩
     case measure=>simp [intOf];omega
  · have e:k=len:=by omega
    subst e
    clear hbel
    go_wp2
    go_ret
    exact ⟨rfl,HB.out⟩
end Go.Proofs.YtajhklklbfnmpaaGreat.netCopy
