import Derived.Test.YthompjbplddkgaaGreatDoorAskWords
set_option linter.unusedVariables false
namespace Go.Proofs.YthompjbplddkgaaGreatDoor.names
open Go.RowKit base
def letB (n : Int) : Bool := decide (97≤n∧n≤122∨65≤n∧n≤90∨n=95)
def digB (n : Int) : Bool := decide (48≤n∧n≤57)
set_option maxHeartbeats 400000 in
theorem let_impl (n:Int) (w:World) :
  Calls Tryz.prog 87 #[.int .u8 n] w fun e w'=>e=.returned (.bool (letB n))∧w' = w:=by
 go_enter Tryz.func87,Tryz.ntmps87
 go_wp2
 all_goals
  go_ret
  refine ⟨ret_bool ?_,rfl⟩
  rw [Bool.eq_iff_iff];simp [letB];try omega
set_option maxHeartbeats 400000 in
theorem let_spec (n:Int) (w:World) :
  Calls Tryz.prog 94 #[.int .u8 n] w fun e w'=>e=.returned (.bool (letB n))∧w' = w:=by
 go_enter Tryz.func94,Tryz.ntmps94
 go_wp2
 all_goals
  go_ret
  refine ⟨ret_bool ?_,rfl⟩
  rw [Bool.eq_iff_iff];simp [letB];try omega
set_option maxHeartbeats 400000 in
theorem dig_impl (n:Int) (w:World) :
  Calls Tryz.prog 88 #[.int .u8 n] w fun e w'=>e=.returned (.bool (digB n))∧w' = w:=by
 go_enter Tryz.func88,Tryz.ntmps88
 go_wp2
 all_goals
  go_ret
  refine ⟨ret_bool ?_,rfl⟩
  rw [Bool.eq_iff_iff];simp [digB];try omega
set_option maxHeartbeats 400000 in
theorem dig_spec (n:Int) (w:World) :
  Calls Tryz.prog 95 #[.int .u8 n] w fun e w'=>e=.returned (.bool (digB n))∧w' = w:=by
 go_enter Tryz.func95,Tryz.ntmps95
 go_wp2
 all_goals
  go_ret
  refine ⟨ret_bool ?_,rfl⟩
  rw [Bool.eq_iff_iff];simp [digB];try omega
def allTo (p : Nat→Bool) : Nat→Bool
 | 0=>true
 | k+1=>allTo p k && p k
theorem allTo_false {p:Nat→Bool} {k n:Nat} (h:k<n) (hp:p k=false):allTo p n=false:=by
 induction n with
 | zero=>omega
 | succ n ih =>
  by_cases e:k=n
  · subst e;simp [allTo,hp]
  · simp [allTo,ih (by omega)]
def byt (s : ByteArray) (i : Nat) : Int := (s.data.toList.getD i 0).toNat
theorem byt_eq (s:ByteArray) (i:Nat) (h:i<s.size):byt s i=(s[i].toNat:Int):=by
 unfold byt
 rw [List.getD_eq_getElem?_getD,List.getElem?_eq_getElem (by simpa using h)];rfl
def good (s : ByteArray) (i : Nat) : Bool := letB (byt s i) || (decide (0<i) && digB (byt s i))
def nameB (s : ByteArray) : Bool := decide (0<s.size∧s.size≤40) && allTo (good s) s.size
set_option maxHeartbeats 400000 in
theorem name_impl (s:ByteArray) (w:World) (hs:s.size≤maxLen) :
  Calls Tryz.prog 61 #[.string s] w fun e w'=>e=.returned (.bool (nameB s))∧w' = w:=by
 unfold maxLen at hs
 by_cases h0:s.size=0
 · have hz:((s.size:Int) == 0)=true:=by simp [h0]
   have hf:nameB s=false:=by simp [nameB,h0]
   rw [hf]
   clear hf
   go_enter Tryz.func61,Tryz.ntmps61
   go_wp2
   go_ret
   exact ⟨rfl,rfl⟩
 by_cases h1:40<s.size
 · have hz:((s.size:Int) == 0)=false:=beq_eq_false_iff_ne.2 (by omega)
   have hf:nameB s=false:=by
    have:decide (0<s.size∧s.size≤40)=false:=decide_eq_false (by omega)
    simp [nameB,this]
   rw [hf]
   clear hf
   go_enter Tryz.func61,Tryz.ntmps61
   go_wp2
   go_ret
   exact ⟨rfl,rfl⟩
 have hz:((s.size:Int) == 0)=false:=beq_eq_false_iff_ne.2 (by omega)
 have hd:decide ((40:Int)<(s.size:Int))=false:=by simp;omega
 have hN:Hid (nameB s=allTo (good s) s.size):=by
  show _=_
  have:decide (0<s.size∧s.size≤40)=true:=decide_eq_true (by omega)
  simp [nameB,this]
 go_enter Tryz.func61,Tryz.ntmps61
 go_wp2
 go_loop [14] (fun i=>∃ k:Nat,k≤s.size∧i=.int .i64 k∧allTo (good s) k=true) (fun i=>s.size - (intOf i).toNat)
 case atStart=>exact ⟨0,Nat.zero_le _,rfl,rfl⟩
 case round =>
  obtain ⟨k,hk,rfl,ha⟩:=hrel
  have HA:Hid (allTo (good s) k=true):=ha
  clear ha
  by_cases hlt:k<s.size
  · have HB:Hid (byt s k=(s[k].toNat:Int)):=byt_eq s k hlt
    by_cases hL:letB (s[k].toNat:Int)=true
    · have hg:Hid (good s k=true):=by show _=_;simp [good,HB.out,hL]
      go_wp2_with (first|(go_at_call 87;refine (let_impl _ _).mono ?_;rintro e w' ⟨rfl,rfl⟩)|(go_at_call 88;refine (dig_impl _ _).mono ?_;rintro e w' ⟨rfl,rfl⟩))
      go_round
      case rel=>exact ⟨k+1,by omega,by go_num,by simp [allTo,HA.out,hg.out]⟩
      case measure=>simp [intOf];omega
    · have hL':letB (s[k].toNat:Int)=false:=by simpa using hL
      clear hL
      by_cases hk0:k=0
      · subst hk0
        have hg:Hid (good s 0=false):=by show _=_;simp [good,HB.out,hL']
        go_wp2_with (first|(go_at_call 87;refine (let_impl _ _).mono ?_;rintro e w' ⟨rfl,rfl⟩)|(go_at_call 88;refine (dig_impl _ _).mono ?_;rintro e w' ⟨rfl,rfl⟩))
        go_ret
        exact ⟨ret_bool (by rw [hN.out,allTo_false hlt hg.out]),rfl⟩
      · have hk1:((k:Int) == 0)=false:=by simp;omega
        by_cases hD:digB (s[k].toNat:Int)=true
        · have hg:Hid (good s k=true):=by show _=_;simp [good,HB.out,hD];omega
          go_wp2_with (first|(go_at_call 87;refine (let_impl _ _).mono ?_;rintro e w' ⟨rfl,rfl⟩)|(go_at_call 88;refine (dig_impl _ _).mono ?_;rintro e w' ⟨rfl,rfl⟩))
          go_round
          case rel=>exact ⟨k+1,by omega,by go_num,by simp [allTo,HA.out,hg.out]⟩
          case measure=>simp [intOf];omega
        · have hD':digB (s[k].toNat:Int)=false:=by simpa using hD
          clear hD
          have hg:Hid (good s k=false):=by show _=_;simp [good,HB.out,hL',hD']
          go_wp2_with (first|(go_at_call 87;refine (let_impl _ _).mono ?_;rintro e w' ⟨rfl,rfl⟩)|(go_at_call 88;refine (dig_impl _ _).mono ?_;rintro e w' ⟨rfl,rfl⟩))
          go_ret
          exact ⟨ret_bool (by rw [hN.out,allTo_false hlt hg.out]),rfl⟩
  · have e:k=s.size:=by omega
    subst e
    go_wp2
    go_ret
    exact ⟨ret_bool (by rw [hN.out,HA.out]),rfl⟩
set_option maxHeartbeats 400000 in
theorem word_spec (s:ByteArray) (w:World) (hs:s.size≤maxLen) :
  Calls Tryz.prog 77 #[.string s] w fun e w'=>e=.returned (.bool (nameB s))∧w' = w:=by
 unfold maxLen at hs
 by_cases h0:s.size=0
 · have hz:((s.size:Int)<1):=by omega
   have hf:nameB s=false:=by simp [nameB,h0]
   rw [hf]
   clear hf
   go_enter Tryz.func77,Tryz.ntmps77
   go_wp2
   go_ret
   exact ⟨rfl,rfl⟩
 by_cases h1:40<s.size
 · have hz:¬ ((s.size:Int)<1):=by omega
   have hf:nameB s=false:=by
    have:decide (0<s.size∧s.size≤40)=false:=decide_eq_false (by omega)
    simp [nameB,this]
   rw [hf]
   clear hf
   go_enter Tryz.func77,Tryz.ntmps77
   go_wp2
   go_ret
   exact ⟨rfl,rfl⟩
 have hz:decide ((s.size:Int)<1)=false:=by simp;omega
 have hd:decide ((40:Int)<(s.size:Int))=false:=by simp;omega
 have hlt0:0<s.size:=by omega
 have hN:Hid (nameB s=allTo (good s) s.size):=by
  show _=_
  have:decide (0<s.size∧s.size≤40)=true:=decide_eq_true (by omega)
  simp [nameB,this]
 have HB0:Hid (byt s 0=(s[0].toNat:Int)):=byt_eq s 0 hlt0
 by_cases hL0:letB (s[0].toNat:Int)=true
 · have hg0:Hid (allTo (good s) 1=true):=by show _=_;simp [allTo,good,HB0.out,hL0]
   go_enter Tryz.func77,Tryz.ntmps77
   go_wp2_with (go_at_call 94;refine (let_spec _ _).mono ?_;rintro e w' ⟨rfl,rfl⟩)
   go_loop [3] (fun i=>∃ k:Nat,1≤k∧k≤s.size∧i=.int .i64 k∧allTo (good s) k=true) (fun i=>s.size - (intOf i).toNat)
   case atStart=>exact ⟨1,by omega,by omega,rfl,hg0.out⟩
   case round =>
    obtain ⟨k,hk1,hk,rfl,ha⟩:=hrel
    have HA:Hid (allTo (good s) k=true):=ha
    clear ha
    by_cases hlt:k<s.size
    · have HB:Hid (byt s k=(s[k].toNat:Int)):=byt_eq s k hlt
      by_cases hL:letB (s[k].toNat:Int)=true
      · have hg:Hid (good s k=true):=by show _=_;simp [good,HB.out,hL]
        go_wp2_with (first|(go_at_call 94;refine (let_spec _ _).mono ?_;rintro e w' ⟨rfl,rfl⟩)|(go_at_call 95;refine (dig_spec _ _).mono ?_;rintro e w' ⟨rfl,rfl⟩))
        go_round
        case rel=>exact ⟨k+1,by omega,by omega,by go_num,by simp [allTo,HA.out,hg.out]⟩
        case measure=>simp [intOf];omega
      · have hL':letB (s[k].toNat:Int)=false:=by simpa using hL
        clear hL
        by_cases hD:digB (s[k].toNat:Int)=true
        · have hg:Hid (good s k=true):=by show _=_;simp [good,HB.out,hD];omega
          go_wp2_with (first|(go_at_call 94;refine (let_spec _ _).mono ?_;rintro e w' ⟨rfl,rfl⟩)|(go_at_call 95;refine (dig_spec _ _).mono ?_;rintro e w' ⟨rfl,rfl⟩))
          go_round
          case rel=>exact ⟨k+1,by omega,by omega,by go_num,by simp [allTo,HA.out,hg.out]⟩
          case measure=>simp [intOf];omega
        · have hD':digB (s[k].toNat:Int)=false:=by simpa using hD
          clear hD
          have hg:Hid (good s k=false):=by show _=_;simp [good,HB.out,hL',hD']
          go_wp2_with (first|(go_at_call 94;refine (let_spec _ _).mono ?_;rintro e w' ⟨rfl,rfl⟩)|(go_at_call 95;refine (dig_spec _ _).mono ?_;rintro e w' ⟨rfl,rfl⟩))
          go_ret
          exact ⟨ret_bool (by rw [hN.out,allTo_false hlt hg.out]),rfl⟩
    · have e:k=s.size:=by omega
      subst e
      go_wp2
      go_ret
      exact ⟨ret_bool (by rw [hN.out,HA.out]),rfl⟩
 · have hL':letB (s[0].toNat:Int)=false:=by simpa using hL0
   clear hL0
   have hg:Hid (good s 0=false):=by show _=_;simp [good,HB0.out,hL']
   go_enter Tryz.func77,Tryz.ntmps77
   go_wp2_with (go_at_call 94;refine (let_spec _ _).mono ?_;rintro e w' ⟨rfl,rfl⟩)
   go_ret
   exact ⟨ret_bool (by rw [hN.out,allTo_false hlt0 hg.out]),rfl⟩
set_option maxHeartbeats 400000 in
theorem name_spec (s:ByteArray) (w:World) (hs:s.size≤maxLen) :
  Calls Tryz.prog 45 #[.string s] w fun e w'=>e=.returned (.bool (nameB s))∧w' = w:=by
 go_enter Tryz.func45,Tryz.ntmps45
 go_wp2_with (go_at_call 77;refine (word_spec _ _ hs).mono ?_;rintro e w' ⟨rfl,rfl⟩)
 go_ret
 exact ⟨rfl,rfl⟩
end Go.Proofs.YthompjbplddkgaaGreatDoor.names
namespace Go.Proofs.YthompjbplddkgaaGreatDoor.netSem
open Go.RowKit Go.Deep base names
theorem bdn {W w1:World} (h:Below W.heap.size W w1) (n:Nat):Below W.heap.size W (w1.drewN n):=h.trans ((below_drewN w1 n).mono h.size)
abbrev R := Nat→Nat→Int
abbrev Ss := Nat→ByteArray
structure Row (m : Nat) (w : World) (a : Option Addr) (len : Nat) (g : R) : Prop where
 most:len≤maxLen
 cell:∀ i,i<len→∃ b off,a=some ⟨b,off,none⟩∧∀ j,j<m→w.cell? ⟨b,off+i*m+j,none⟩=some (.int .i64 (g i j))
theorem Row.kept {m:Nat} {W w1:World} {a:Option Addr} {len:Nat} {g:R} (h:Row m W a len g) (hk:∀ b o v,W.cell? ⟨b,o,none⟩=some v→w1.cell? ⟨b,o,none⟩=some v):Row m w1 a len g :=
 ⟨h.most,fun i hi=>by
  obtain ⟨b,off,e,h0⟩:=h.cell i hi
  exact ⟨b,off,e,fun j hj=>hk _ _ _ (h0 j hj)⟩⟩
theorem Row.below {m:Nat} {W w1:World} {a:Option Addr} {len:Nat} {g:R} (h:Row m W a len g) (hb:Below W.heap.size W w1):Row m w1 a len g:=h.kept fun b o v hv=>keep hb hv
theorem Row.front {m:Nat} {w:World} {a:Option Addr} {len k:Nat} {g:R} (h:Row m w a len g) (hk:k≤len):Row m w a k g :=
 ⟨Nat.le_trans hk h.most,fun i hi=>h.cell i (by omega)⟩
theorem Row.at3 {w:World} {a:Option Addr} {len i:Nat} {g:R} (h:Row 3 w a len g) (hi:i<len):∃ b off,a=some ⟨b,off,none⟩∧w.cell? ⟨b,off+i*3,none⟩=some (.int .i64 (g i 0))∧w.cell? ⟨b,off+i*3+1,none⟩=some (.int .i64 (g i 1))∧w.cell? ⟨b,off+i*3+2,none⟩=some (.int .i64 (g i 2)):=by
 obtain ⟨b,off,e,hc⟩:=h.cell i hi
 exact ⟨b,off,e,hc 0 (by omega),hc 1 (by omega),hc 2 (by omega)⟩
theorem Row.at4 {w:World} {a:Option Addr} {len i:Nat} {g:R} (h:Row 4 w a len g) (hi:i<len):∃ b off,a=some ⟨b,off,none⟩∧w.cell? ⟨b,off+i*4,none⟩=some (.int .i64 (g i 0))∧w.cell? ⟨b,off+i*4+1,none⟩=some (.int .i64 (g i 1))∧w.cell? ⟨b,off+i*4+2,none⟩=some (.int .i64 (g i 2))∧w.cell? ⟨b,off+i*4+3,none⟩=some (.int .i64 (g i 3)):=by
 obtain ⟨b,off,e,hc⟩:=h.cell i hi
 exact ⟨b,off,e,hc 0 (by omega),hc 1 (by omega),hc 2 (by omega),hc 3 (by omega)⟩
theorem Row.at5 {w:World} {a:Option Addr} {len i:Nat} {g:R} (h:Row 5 w a len g) (hi:i<len):∃ b off,a=some ⟨b,off,none⟩∧w.cell? ⟨b,off+i*5,none⟩=some (.int .i64 (g i 0))∧w.cell? ⟨b,off+i*5+1,none⟩=some (.int .i64 (g i 1))∧w.cell? ⟨b,off+i*5+2,none⟩=some (.int .i64 (g i 2))∧w.cell? ⟨b,off+i*5+3,none⟩=some (.int .i64 (g i 3))∧w.cell? ⟨b,off+i*5+4,none⟩=some (.int .i64 (g i 4)):=by
 obtain ⟨b,off,e,hc⟩:=h.cell i hi
 exact ⟨b,off,e,hc 0 (by omega),hc 1 (by omega),hc 2 (by omega),hc 3 (by omega),hc 4 (by omega)⟩
structure StrRow (w : World) (a : Option Addr) (len : Nat) (s : Ss) : Prop where
 most:len≤maxLen
 size:∀ i,i<len→(s i).size≤maxLen
 cell:∀ i,i<len→∃ b off,a=some ⟨b,off,none⟩∧w.cell? ⟨b,off+i,none⟩=some (.string (s i))
theorem StrRow.kept {W w1:World} {a:Option Addr} {len:Nat} {s:Ss} (h:StrRow W a len s) (hk:∀ b o v,W.cell? ⟨b,o,none⟩=some v→w1.cell? ⟨b,o,none⟩=some v):StrRow w1 a len s :=
 ⟨h.most,h.size,fun i hi=>by
  obtain ⟨b,off,e,h0⟩:=h.cell i hi
  exact ⟨b,off,e,hk _ _ _ h0⟩⟩
theorem StrRow.below {W w1:World} {a:Option Addr} {len:Nat} {s:Ss} (h:StrRow W a len s) (hb:Below W.heap.size W w1):StrRow w1 a len s:=h.kept fun b o v hv=>keep hb hv
theorem StrRow.front {w:World} {a:Option Addr} {len k:Nat} {s:Ss} (h:StrRow w a len s) (hk:k≤len):StrRow w a k s :=
 ⟨Nat.le_trans hk h.most,fun i hi=>h.size i (by omega),fun i hi=>h.cell i (by omega)⟩
def allN (p : Nat→Bool) (n : Nat) : Bool := (List.range n).all p
theorem allN_iff {p : Nat→Bool} {n : Nat} : allN p n=true ↔ ∀ i,i<n→p i=true := by simp [allN]
theorem allN_of {p:Nat→Bool} {n:Nat} (h:∀ i,i<n→p i=true):allN p n=true:=allN_iff.2 h
theorem allN_false {p:Nat→Bool} {n i:Nat} (hi:i<n) (h:p i=false):allN p n=false:=by
 cases e:allN p n with
 | false=>rfl
 | true=>rw [allN_iff.1 e i hi] at h;cases h
def firstAt (p : Nat→Bool) (n : Nat) : Int := match (List.range n).find? p with
 | some i=>(i:Int)
 | none=>-1
theorem firstAt_none {p:Nat→Bool} {n:Nat} (h:∀ i,i<n→p i=false):firstAt p n = -1:=by
 have:(List.range n).find? p=none:=by simp [List.find?_eq_none];exact h
 simp [firstAt,this]
theorem firstAt_hit {p:Nat→Bool} {n k:Nat} (hk:k<n) (h:p k=true) (h0:∀ i,i<k→p i=false):firstAt p n=k:=by
 have:(List.range n).find? p=some k:=by
  rw [List.find?_range_eq_some]
  exact ⟨h,List.mem_range.2 hk,fun j hj=>by simp [h0 j hj]⟩
 simp [firstAt,this]
theorem firstAt_bounds (p:Nat→Bool) (n:Nat) : -1≤firstAt p n∧firstAt p n<n:=by
 unfold firstAt
 cases e:(List.range n).find? p with
 | none=>exact ⟨by simp only [];omega,by simp only [];omega⟩
 | some i =>
  have:=List.mem_range.1 (List.mem_of_find?_eq_some e)
  exact ⟨by simp only [];omega,by simp only [];omega⟩
theorem firstAt_spec {p : Nat→Bool} {n : Nat} : 0≤firstAt p n ↔ ∃ i,i<n∧p i=true := by
 constructor
 · intro h
   apply Classical.byContradiction
   intro hn
   rw [firstAt_none (p:=p) (n:=n)] at h
   · omega
   · intro i hi
     cases e:p i with
     | false=>rfl
     | true=>exact absurd ⟨i,hi,e⟩ hn
 · rintro ⟨i,hi,hp⟩
   apply Classical.byContradiction
   intro h
   unfold firstAt at h
   cases e:(List.range n).find? p with
   | none=>rw [List.find?_eq_none] at e;exact absurd hp (by simpa using e i (List.mem_range.2 hi))
   | some k=>rw [e] at h;simp only [] at h;omega
def inB (n low high : Int) : Bool := decide (low≤n∧n≤high)
def hit (g : R) (a b : Int) (i : Nat) : Bool := decide (g i 0=a∧g i 1=b∨g i 0=b∧g i 1=a)
def linkAt (g : R) (n : Nat) (a b : Int) : Int := firstAt (hit g a b) n
def same (s : Ss) (t : ByteArray) (i : Nat) : Bool := decide ((s i).toList=t.toList)
def nameAt (s : Ss) (n : Nat) (t : ByteArray) : Int := firstAt (same s t) n
def routerB (s : Ss) (i : Nat) : Bool := nameB (s i) && decide (nameAt s i (s i)<0)
def linkB (g : R) (r : Nat) (i : Nat) : Bool := inB (g i 0) 0 (r - 1) && inB (g i 1) 0 (r - 1) && decide (g i 0≠g i 1) && inB (g i 2) 1 100 && decide (linkAt g i (g i 0) (g i 1)<0)
def zAt (z : List Int) (i : Nat) : Int := z[i]?.getD 0
def risesB (z : List Int) (r : Nat) (i : Nat) : Bool := inB (zAt z i) 0 (r - 1) && (decide (i=0) || decide (zAt z (i - 1)<zAt z i))
def deedB (wh d n : Int) : Bool := inB wh 0 2 && inB d 1 4 && inB n 0 (if d=2 then 1000 else 0)
def portsB (low high : Int) : Bool := decide (0≤low) && inB high low 15
def importB (g : R) (n : Nat) (x : R) (i : Nat) : Bool := decide (0≤linkAt g n (x i 0) (x i 1)) && deedB (x i 2) (x i 3) (x i 4)
def filterB (g : R) (n : Nat) (x : R) (i : Nat) : Bool := decide (0≤linkAt g n (x i 0) (x i 1)) && portsB (x i 2) (x i 3)
def routersB (s : Ss) (r : Nat) : Bool := inB r 1 4 && allN (routerB s) r
def linksB (g : R) (n r : Nat) : Bool := decide (n≤6) && allN (linkB g r) n
def risingB (z : List Int) (n r : Nat) : Bool := allN (risesB z r) n
def importsB (g : R) (n : Nat) (x : R) (m : Nat) : Bool := decide (m≤12) && allN (importB g n x) m
def filtersB (g : R) (n : Nat) (x : R) (m : Nat) : Bool := decide (m≤6) && allN (filterB g n x) m
structure NetIs (w : World) (p : Nat→Option Addr) (l : Nat→Nat) (s : Ss) (g : R) (o e : List Int) (x f : R) : Prop where
 routers:StrRow w (p 0) (l 0) s
 links:Row 3 w (p 1) (l 1) g
 origins:IntRow w (p 2) (l 2) o
 externals:IntRow w (p 3) (l 3) e
 imports:Row 5 w (p 4) (l 4) x
 filters:Row 4 w (p 5) (l 5) f
theorem NetIs.below {W w1:World} {p:Nat→Option Addr} {l:Nat→Nat} {s:Ss} {g x f:R} {o e:List Int} (h:NetIs W p l s g o e x f) (hb:Below W.heap.size W w1):NetIs w1 p l s g o e x f :=
 ⟨h.routers.below hb,h.links.below hb,h.origins.below hb,h.externals.below hb,h.imports.below hb,h.filters.below hb⟩
def netV (p : Nat→Option Addr) (l c : Nat→Nat) : Value := .agg #[.slice (p 0) (l 0) (c 0),.slice (p 1) (l 1) (c 1),.slice (p 2) (l 2) (c 2),.slice (p 3) (l 3) (c 3),.slice (p 4) (l 4) (c 4),.slice (p 5) (l 5) (c 5)]
def netB (l : Nat→Nat) (s : Ss) (g : R) (o e : List Int) (x f : R) : Bool :=
 routersB s (l 0) && linksB g (l 1) (l 0) && risingB o (l 2) (l 0) && risingB e (l 3) (l 0) && decide (l 3≤2) && importsB g (l 1) x (l 4) && filtersB g (l 1) f (l 5)
end Go.Proofs.YthompjbplddkgaaGreatDoor.netSem
namespace Go.Proofs.YthompjbplddkgaaGreatDoor.askSem
open Go.RowKit Go.Deep base names netSem numbers askWords
abbrev Wd := List UInt8
def wVerify : Wd := [118,101,114,105,102,121]
def wVia : Wd := [118,105,97]
def wPort : Wd := [112,111,114,116]
def wFail : Wd := [102,97,105,108]
def kS : Ss
 | 1=>⟨#[114,101,97,99,104]⟩
 | 2=>⟨#[110,101,118,101,114]⟩
 | 3=>⟨#[119,97,121]⟩
 | 4=>⟨#[111,119,110]⟩
 | _=>⟨#[]⟩
structure Ask where
 kind:Int
 frm:Int
 port:Int
 way:Int
 k:Int
 code:Int
def bad (c : Int) : Ask := ⟨0,0,0,0,0,c⟩
def askV (a : Ask) : Value := .tuple #[.agg #[.int .i64 a.kind,.int .i64 a.frm,.int .i64 a.port,.int .i64 a.way],.int .i64 a.k,.int .i64 a.code]
def fin2 (a : Ask) (R : List Wd) : Ask := if R.length=0 then a else bad 4
def fin1 (a : Ask) : List Wd→Ask
 | x::y::r=>if x=wFail then (if isNum (piece y) then (if inB (numS (piece y)) 0 2 then fin2 { a with k:=numS (piece y) } r else bad 5) else bad 4) else fin2 a (x::y::r)
 | R=>fin2 a R
def fin0 (a : Ask) : List Wd→Ask
 | x::y::r=>if x=wPort then (if isNum (piece y) then (if inB (numS (piece y)) 0 15 then fin1 { a with port:=numS (piece y) } r else bad 5) else bad 4) else fin1 a (x::y::r)
 | R=>fin1 a R
def viaA (nm : Wd→Int) (a : Ask) (R : List Wd) : Ask :=
 if a.kind=3 then match R with
  | x::y::r=>if x=wVia then (if nm y<0 then bad 9 else fin0 { a with way:=nm y } r) else bad 4
  | _=>bad 4
 else fin0 a R
def askA (nm : Wd→Int) : List Wd→Ask
 | x::y::z::R=>if x=wVerify then (if nameAt kS 5 (piece y)<1 then bad 4 else if nm z<0 then bad 9 else viaA nm ⟨nameAt kS 5 (piece y),nm z,-1,0,0,0⟩ R) else bad 4
 | _=>bad 4
structure TRow (A : Nat) (w : World) (a : Option Addr) (c : Nat) (R : List Wd) : Prop where
 cap:R.length≤c
 most:c≤maxLen
 small:∀ x∈R,x.length≤1048576
 full:∀ x∈R,x≠[]
 cell:∀ i x,R[i]? = some x→∃ g off,a=some ⟨g,off,none⟩∧g<A∧w.cell? ⟨g,off+i,none⟩=some (.string (piece x))
theorem TRow.under {A:Nat} {w w':World} {a:Option Addr} {c:Nat} {R:List Wd} (h:TRow A w a c R) (hb:Below A w w'):TRow A w' a c R :=
 ⟨h.cap,h.most,h.small,h.full,fun i x hx=>by
  obtain ⟨g,off,e,hg,hc⟩:=h.cell i x hx
  exact ⟨g,off,e,hg,by rw [World.cell?_of_block (w:=w) (a:=⟨g,off+i,none⟩) (hb.block g hg)];exact hc⟩⟩
theorem TRow.tail {A:Nat} {w:World} {g off c:Nat} {x:Wd} {R:List Wd} (h:TRow A w (some ⟨g,off,none⟩) c (x::R)):TRow A w (some ⟨g,off+1,none⟩) (c - 1) R :=
 ⟨by have:=h.cap;simp at this;omega,by have:=h.most;omega,fun y hy=>h.small y (by simp [hy]),fun y hy=>h.full y (by simp [hy]),fun i y hy=>by
  obtain ⟨g',off',e,hg,hc⟩:=h.cell (i+1) y (by simpa using hy)
  simp only [Option.some.injEq,Addr.mk.injEq,and_true] at e
  obtain ⟨rfl,rfl⟩:=e
  exact ⟨g,off+1,rfl,hg,by rw [show off+1+i=off+(i+1) by omega];exact hc⟩⟩
theorem TRow.head {A:Nat} {w:World} {a:Option Addr} {c:Nat} {x:Wd} {R:List Wd} (h:TRow A w a c (x::R)):∃ g off,a=some ⟨g,off,none⟩∧g<A∧w.cell? ⟨g,off,none⟩=some (.string (piece x)):=by
 obtain ⟨g,off,e,hg,hc⟩:=h.cell 0 x rfl
 exact ⟨g,off,e,hg,hc⟩
theorem TRow.nil {A:Nat} {w:World} {a:Option Addr} {c:Nat} (hc:c≤maxLen):TRow A w a c [] :=
 ⟨Nat.zero_le _,hc,fun x hx=>by simp at hx,fun x hx=>by simp at hx,fun i x hx=>by simp at hx⟩
theorem TRow.of_own {B A:Nat} {w:World} {v:Value} {R:List Wd} (h:OwnT B w v R) (hA:w.heap.size≤A) (hs:∀ x∈R,x.length≤1048576) (hf:∀ x∈R,x≠[]):∃ a c,v=.slice a R.length c∧TRow A w a c R:=by
 obtain ⟨h1,h2⟩:=h
 rcases h2 with ⟨rfl,h0⟩|⟨g,cap,cur,rfl,hb,hh,hc,hm,hz,ht⟩
 · have e0:R=[]:=List.length_eq_zero_iff.1 h0
   subst e0
   exact ⟨none,0,rfl,TRow.nil (by unfold maxLen;omega)⟩
 · refine ⟨_,cap,rfl,hc,hm,hs,hf,fun i x hx=>⟨g,0,rfl,Nat.lt_of_lt_of_le (Array.getElem?_eq_some_iff.1 hh).1 hA,?_⟩⟩
   have hi:i<R.length:=by
    rcases Nat.lt_or_ge i R.length with h|h
    · exact h
    · rw [List.getElem?_eq_none h] at hx;cases hx
   have h7:(strC R)[i]? = some (.string (piece x)):=by unfold strC;rw [List.getElem?_map,hx];rfl
   rw [← ht,List.getElem?_take_of_lt (by omega)] at h7
   rw [Nat.zero_add]
   simp only [World.cell?,hh]
   simpa using h7
theorem piece_ne {x y:Wd}:((piece x).toList == y)=decide (x=y):=by
 rw [toList_data]
 show (x == y)=_
 rw [Bool.eq_iff_iff]
 simp
theorem piece_size (x:Wd):(piece x).size=x.length:=by simp [piece,ByteArray.size]
end Go.Proofs.YthompjbplddkgaaGreatDoor.askSem
