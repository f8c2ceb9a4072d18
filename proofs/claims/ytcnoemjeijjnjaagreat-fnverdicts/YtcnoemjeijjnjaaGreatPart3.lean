import Derived.Test.YtcnoemjeijjnjaaGreatPart2
import Derived.Maps.AppendAt
set_option linter.unusedVariables false
namespace Go.Proofs.YtcnoemjeijjnjaaGreat.names
open Go.RowKit base
def letB (n : Int) : Bool := decide (97≤n∧n≤122∨65≤n∧n≤90∨n=95)
def digB (n : Int) : Bool := decide (48≤n∧n≤57)
set_option maxHeartbeats 400000 in
theorem let_impl (n:Int) (w:World) :
  Calls Tryz.prog 129 #[.int .u8 n] w fun e w'=>e=.returned (.bool (letB n))∧w' = w:=by
 go_enter Tryz.func129,Tryz.ntmps129;go_wp2
 all_goals
  go_ret;refine⟨ret_bool ?_,rfl⟩;rw[Bool.eq_iff_iff];simp[letB];try omega
set_option maxHeartbeats 400000 in
theorem let_spec (n:Int) (w:World) :
  Calls Tryz.prog 144 #[.int .u8 n] w fun e w'=>e=.returned (.bool (letB n))∧w' = w:=by
 go_enter Tryz.func144,Tryz.ntmps144;go_wp2
 all_goals
  go_ret;refine⟨ret_bool ?_,rfl⟩;rw[Bool.eq_iff_iff];simp[letB];try omega
set_option maxHeartbeats 400000 in
theorem dig_impl (n:Int) (w:World) :
  Calls Tryz.prog 130 #[.int .u8 n] w fun e w'=>e=.returned (.bool (digB n))∧w' = w:=by
 go_enter Tryz.func130,Tryz.ntmps130;go_wp2
 all_goals
  go_ret;refine⟨ret_bool ?_,rfl⟩;rw[Bool.eq_iff_iff];simp[digB];try omega
set_option maxHeartbeats 400000 in
theorem dig_spec (n:Int) (w:World) :
  Calls Tryz.prog 145 #[.int .u8 n] w fun e w'=>e=.returned (.bool (digB n))∧w' = w:=by
 go_enter Tryz.func145,Tryz.ntmps145;go_wp2
 all_goals
  go_ret;refine⟨ret_bool ?_,rfl⟩;rw[Bool.eq_iff_iff];simp[digB];try omega
def allTo (p : Nat→Bool) : Nat→Bool
 | 0=>true
 | k+1=>allTo p k&&p k
theorem allTo_false {p:Nat→Bool} {k n:Nat} (h:k<n) (hp:p k=false):allTo p n=false:=by
 induction n with
 | zero=>omega
 | succ n ih =>
  by_cases e:k=n
  · subst e;simp[allTo,hp]
  simp[allTo,ih Om]
def byt (s : ByteArray) (i : Nat) : Int := (s.data.toList.getD i 0).toNat
theorem byt_eq (s:ByteArray) (i:Nat) (h:i<s.size):byt s i=(s[i].toNat:Int):=by
 unfold byt;rw[List.getD_eq_getElem?_getD,List.getElem?_eq_getElem (by simpa using h)];rfl
def good (s : ByteArray) (i : Nat) : Bool := letB (byt s i)||(decide (0<i)&&digB (byt s i))
def nameB (s : ByteArray) : Bool := decide (0<s.size∧s.size≤40)&&allTo (good s) s.size
set_option maxHeartbeats 400000 in
theorem name_impl (s:ByteArray) (w:World) (hs:s.size≤maxLen) :
  Calls Tryz.prog 92 #[.string s] w fun e w'=>e=.returned (.bool (nameB s))∧w' = w:=by
 unfold maxLen at hs;by_cases h0:s.size=0
 · have hz:((s.size:Int)==0)=true:=by simp[h0]
   have hf:nameB s=false:=by simp[nameB,h0]
   rw[hf];clear hf;go_enter Tryz.func92,Tryz.ntmps92;go_wp2;go_ret;exact⟨rfl,rfl⟩
 by_cases h1:40<s.size
 · have hz:((s.size:Int)==0)=false:=beq_eq_false_iff_ne.2 Om
   have hf:nameB s=false:=by
    have:decide (0<s.size∧s.size≤40)=false:=decide_eq_false Om;simp[nameB,this]
   rw[hf];clear hf;go_enter Tryz.func92,Tryz.ntmps92;go_wp2;go_ret;exact⟨rfl,rfl⟩
 have hz:((s.size:Int)==0)=false:=beq_eq_false_iff_ne.2 Om;have hd:decide ((40:Int)<(s.size:Int))=false:=by simp;omega
 have hN:Hid (nameB s=allTo (good s) s.size):=by
  show _=_
  have:decide (0<s.size∧s.size≤40)=true:=decide_eq_true Om;simp[nameB,this]
 go_enter Tryz.func92,Tryz.ntmps92;go_wp2;go_loop [14] (fun i=>∃k:Nat,k≤s.size∧i=.int .i64 k∧allTo (good s) k=true) (fun i=>s.size - (intOf i).toNat)
 case atStart=>exact⟨0,Nat.zero_le _,rfl,rfl⟩
 obtain⟨k,hk,rfl,ha⟩:=hrel;have HA:Hid (allTo (good s) k=true):=ha;clear ha;by_cases hlt:k<s.size
 · have HB:Hid (byt s k=(s[k].toNat:Int)):=byt_eq s k hlt;by_cases hL:letB (s[k].toNat:Int)=true
   · have hg:Hid (good s k=true):=by show _=_;simp[good,HB.out,hL]
     go_wp2_with (first|(go_at_call 129;refine(let_impl _ _).mono ?_;rintro e w' ⟨rfl,rfl⟩)|(go_at_call 130;refine(dig_impl _ _).mono ?_;rintro e w' ⟨rfl,rfl⟩));go_round
     case rel=>exact⟨k+1,by omega,by go_num,by simp[allTo,HA.out,hg.out]⟩
     case measure=>simp[intOf];omega
   have hL':letB (s[k].toNat:Int)=false:=by simpa using hL
   clear hL;by_cases hk0:k=0
   · subst hk0;have hg:Hid (good s 0=false):=by show _=_;simp[good,HB.out,hL']
     go_wp2_with (first|(go_at_call 129;refine(let_impl _ _).mono ?_;rintro e w' ⟨rfl,rfl⟩)|(go_at_call 130;refine(dig_impl _ _).mono ?_;rintro e w' ⟨rfl,rfl⟩));go_ret;exact⟨ret_bool (by rw[hN.out,allTo_false hlt hg.out]),rfl⟩
   have hk1:((k:Int)==0)=false:=by simp;omega
   by_cases hD:digB (s[k].toNat:Int)=true
   · have hg:Hid (good s k=true):=by show _=_;simp[good,HB.out,hD];omega
     go_wp2_with (first|(go_at_call 129;refine(let_impl _ _).mono ?_;rintro e w' ⟨rfl,rfl⟩)|(go_at_call 130;refine(dig_impl _ _).mono ?_;rintro e w' ⟨rfl,rfl⟩));go_round
     case rel=>exact⟨k+1,by omega,by go_num,by simp[allTo,HA.out,hg.out]⟩
     case measure=>simp[intOf];omega
   have hD':digB (s[k].toNat:Int)=false:=by simpa using hD
   clear hD;have hg:Hid (good s k=false):=by show _=_;simp[good,HB.out,hL',hD']
   go_wp2_with (first|(go_at_call 129;refine(let_impl _ _).mono ?_;rintro e w' ⟨rfl,rfl⟩)|(go_at_call 130;refine(dig_impl _ _).mono ?_;rintro e w' ⟨rfl,rfl⟩));go_ret;exact⟨ret_bool (by rw[hN.out,allTo_false hlt hg.out]),rfl⟩
 have e:k=s.size:=by omega
 subst e;go_wp2;go_ret;exact⟨ret_bool (by rw[hN.out,HA.out]),rfl⟩
set_option maxHeartbeats 400000 in
theorem word_spec (s:ByteArray) (w:World) (hs:s.size≤maxLen) :
  Calls Tryz.prog 120 #[.string s] w fun e w'=>e=.returned (.bool (nameB s))∧w' = w:=by
 unfold maxLen at hs;by_cases h0:s.size=0
 · have hz:((s.size:Int)<1):=by omega
   have hf:nameB s=false:=by simp[nameB,h0]
   rw[hf];clear hf;go_enter Tryz.func120,Tryz.ntmps120;go_wp2;go_ret;exact⟨rfl,rfl⟩
 by_cases h1:40<s.size
 · have hz:¬((s.size:Int)<1):=by omega
   have hf:nameB s=false:=by
    have:decide (0<s.size∧s.size≤40)=false:=decide_eq_false Om;simp[nameB,this]
   rw[hf];clear hf;go_enter Tryz.func120,Tryz.ntmps120;go_wp2;go_ret;exact⟨rfl,rfl⟩
 have hz:decide ((s.size:Int)<1)=false:=by simp;omega
 have hd:decide ((40:Int)<(s.size:Int))=false:=by simp;omega
 have hlt0:0<s.size:=by omega
 have hN:Hid (nameB s=allTo (good s) s.size):=by
  show _=_
  have:decide (0<s.size∧s.size≤40)=true:=decide_eq_true Om;simp[nameB,this]
 have HB0:Hid (byt s 0=(s[0].toNat:Int)):=byt_eq s 0 hlt0;by_cases hL0:letB (s[0].toNat:Int)=true
 · have hg0:Hid (allTo (good s) 1=true):=by show _=_;simp[allTo,good,HB0.out,hL0]
   go_enter Tryz.func120,Tryz.ntmps120;go_wp2_with (go_at_call 144;refine(let_spec _ _).mono ?_;rintro e w' ⟨rfl,rfl⟩);go_loop [3] (fun i=>∃k:Nat,1≤k∧k≤s.size∧i=.int .i64 k∧allTo (good s) k=true) (fun i=>s.size - (intOf i).toNat)
   case atStart=>exact⟨1,by omega,by omega,rfl,hg0.out⟩
   obtain⟨k,hk1,hk,rfl,ha⟩:=hrel;have HA:Hid (allTo (good s) k=true):=ha;clear ha;by_cases hlt:k<s.size
   · have HB:Hid (byt s k=(s[k].toNat:Int)):=byt_eq s k hlt;by_cases hL:letB (s[k].toNat:Int)=true
     · have hg:Hid (good s k=true):=by show _=_;simp[good,HB.out,hL]
       go_wp2_with (first|(go_at_call 144;refine(let_spec _ _).mono ?_;rintro e w' ⟨rfl,rfl⟩)|(go_at_call 145;refine(dig_spec _ _).mono ?_;rintro e w' ⟨rfl,rfl⟩));go_round
       case rel=>exact⟨k+1,by omega,by omega,by go_num,by simp[allTo,HA.out,hg.out]⟩
       case measure=>simp[intOf];omega
     have hL':letB (s[k].toNat:Int)=false:=by simpa using hL
     clear hL;by_cases hD:digB (s[k].toNat:Int)=true
     · have hg:Hid (good s k=true):=by show _=_;simp[good,HB.out,hD];omega
       go_wp2_with (first|(go_at_call 144;refine(let_spec _ _).mono ?_;rintro e w' ⟨rfl,rfl⟩)|(go_at_call 145;refine(dig_spec _ _).mono ?_;rintro e w' ⟨rfl,rfl⟩));go_round
       case rel=>exact⟨k+1,by omega,by omega,by go_num,by simp[allTo,HA.out,hg.out]⟩
       case measure=>simp[intOf];omega
     have hD':digB (s[k].toNat:Int)=false:=by simpa using hD
     clear hD;have hg:Hid (good s k=false):=by show _=_;simp[good,HB.out,hL',hD']
     go_wp2_with (first|(go_at_call 144;refine(let_spec _ _).mono ?_;rintro e w' ⟨rfl,rfl⟩)|(go_at_call 145;refine(dig_spec _ _).mono ?_;rintro e w' ⟨rfl,rfl⟩));go_ret;exact⟨ret_bool (by rw[hN.out,allTo_false hlt hg.out]),rfl⟩
   have e:k=s.size:=by omega
   subst e;go_wp2;go_ret;exact⟨ret_bool (by rw[hN.out,HA.out]),rfl⟩
 have hL':letB (s[0].toNat:Int)=false:=by simpa using hL0
 clear hL0;have hg:Hid (good s 0=false):=by show _=_;simp[good,HB0.out,hL']
 go_enter Tryz.func120,Tryz.ntmps120;go_wp2_with (go_at_call 144;refine(let_spec _ _).mono ?_;rintro e w' ⟨rfl,rfl⟩);go_ret;exact⟨ret_bool (by rw[hN.out,allTo_false hlt0 hg.out]),rfl⟩
set_option maxHeartbeats 400000 in
theorem name_spec (s:ByteArray) (w:World) (hs:s.size≤maxLen) :
  Calls Tryz.prog 76 #[.string s] w fun e w'=>e=.returned (.bool (nameB s))∧w' = w:=by
 go_enter Tryz.func76,Tryz.ntmps76;go_wp2_with (go_at_call 120;refine(word_spec _ _ hs).mono ?_;rintro e w' ⟨rfl,rfl⟩);go_ret;exact⟨rfl,rfl⟩
end Go.Proofs.YtcnoemjeijjnjaaGreat.names
namespace Go.Proofs.YtcnoemjeijjnjaaGreat.netSem
open Go.RowKit Go.Deep base names
theorem bdn {W w1:World} (h:Below W.heap.size W w1) (n:Nat):Below W.heap.size W (w1.drewN n):=h.trans ((below_drewN w1 n).mono h.size)
abbrev R := Nat→Nat→Int
abbrev Ss := Nat→ByteArray
structure Row (m : Nat) (w : World) (a : Option Addr) (len : Nat) (g : R) : Prop where
 most:len≤maxLen
 cell:∀i,i<len→∃b off,a=some ⟨b,off,none⟩∧∀j,j<m→w.cell? ⟨b,off+i*m+j,none⟩=some (.int .i64 (g i j))
theorem Row.kept {m:Nat} {W w1:World} {a:Option Addr} {len:Nat} {g:R} (h:Row m W a len g) (hk:∀b o v,W.cell? ⟨b,o,none⟩=some v→w1.cell? ⟨b,o,none⟩=some v):Row m w1 a len g :=
 ⟨h.most,fun i hi=>by
  obtain⟨b,off,e,h0⟩:=h.cell i hi
  exact⟨b,off,e,fun j hj=>hk _ _ _ (h0 j hj)⟩⟩
theorem Row.below {m:Nat} {W w1:World} {a:Option Addr} {len:Nat} {g:R} (h:Row m W a len g) (hb:Below W.heap.size W w1):Row m w1 a len g:=h.kept fun b o v hv=>keep hb hv
theorem Row.front {m:Nat} {w:World} {a:Option Addr} {len k:Nat} {g:R} (h:Row m w a len g) (hk:k≤len):Row m w a k g :=
 ⟨Nat.le_trans hk h.most,fun i hi=>h.cell i Om⟩
theorem Row.at3 {w:World} {a:Option Addr} {len i:Nat} {g:R} (h:Row 3 w a len g) (hi:i<len):∃b off,a=some ⟨b,off,none⟩∧w.cell? ⟨b,off+i*3,none⟩=some (.int .i64 (g i 0))∧w.cell? ⟨b,off+i*3+1,none⟩=some (.int .i64 (g i 1))∧w.cell? ⟨b,off+i*3+2,none⟩=some (.int .i64 (g i 2)):=by
 obtain⟨b,off,e,hc⟩:=h.cell i hi;exact⟨b,off,e,hc 0 Om,hc 1 Om,hc 2 Om⟩
theorem Row.at4 {w:World} {a:Option Addr} {len i:Nat} {g:R} (h:Row 4 w a len g) (hi:i<len):∃b off,a=some ⟨b,off,none⟩∧w.cell? ⟨b,off+i*4,none⟩=some (.int .i64 (g i 0))∧w.cell? ⟨b,off+i*4+1,none⟩=some (.int .i64 (g i 1))∧w.cell? ⟨b,off+i*4+2,none⟩=some (.int .i64 (g i 2))∧w.cell? ⟨b,off+i*4+3,none⟩=some (.int .i64 (g i 3)):=by
 obtain⟨b,off,e,hc⟩:=h.cell i hi;exact⟨b,off,e,hc 0 Om,hc 1 Om,hc 2 Om,hc 3 Om⟩
theorem Row.at5 {w:World} {a:Option Addr} {len i:Nat} {g:R} (h:Row 5 w a len g) (hi:i<len):∃b off,a=some ⟨b,off,none⟩∧w.cell? ⟨b,off+i*5,none⟩=some (.int .i64 (g i 0))∧w.cell? ⟨b,off+i*5+1,none⟩=some (.int .i64 (g i 1))∧w.cell? ⟨b,off+i*5+2,none⟩=some (.int .i64 (g i 2))∧w.cell? ⟨b,off+i*5+3,none⟩=some (.int .i64 (g i 3))∧w.cell? ⟨b,off+i*5+4,none⟩=some (.int .i64 (g i 4)):=by
 obtain⟨b,off,e,hc⟩:=h.cell i hi;exact⟨b,off,e,hc 0 Om,hc 1 Om,hc 2 Om,hc 3 Om,hc 4 Om⟩
structure StrRow (w : World) (a : Option Addr) (len : Nat) (s : Ss) : Prop where
 most:len≤maxLen
 size:∀i,i<len→(s i).size≤maxLen
 cell:∀i,i<len→∃b off,a=some ⟨b,off,none⟩∧w.cell? ⟨b,off+i,none⟩=some (.string (s i))
theorem StrRow.kept {W w1:World} {a:Option Addr} {len:Nat} {s:Ss} (h:StrRow W a len s) (hk:∀b o v,W.cell? ⟨b,o,none⟩=some v→w1.cell? ⟨b,o,none⟩=some v):StrRow w1 a len s :=
 ⟨h.most,h.size,fun i hi=>by
  obtain⟨b,off,e,h0⟩:=h.cell i hi
  exact⟨b,off,e,hk _ _ _ h0⟩⟩
theorem StrRow.below {W w1:World} {a:Option Addr} {len:Nat} {s:Ss} (h:StrRow W a len s) (hb:Below W.heap.size W w1):StrRow w1 a len s:=h.kept fun b o v hv=>keep hb hv
theorem StrRow.front {w:World} {a:Option Addr} {len k:Nat} {s:Ss} (h:StrRow w a len s) (hk:k≤len):StrRow w a k s :=
 ⟨Nat.le_trans hk h.most,fun i hi=>h.size i Om,fun i hi=>h.cell i Om⟩
def allN (p : Nat→Bool) (n : Nat) : Bool := (List.range n).all p
theorem allN_iff {p : Nat→Bool} {n : Nat} : allN p n=true ↔ ∀i,i<n→p i=true := by simp[allN]
theorem allN_of {p:Nat→Bool} {n:Nat} (h:∀i,i<n→p i=true):allN p n=true:=allN_iff.2 h
theorem allN_false {p:Nat→Bool} {n i:Nat} (hi:i<n) (h:p i=false):allN p n=false:=by
 cases e:allN p n with
 | false=>rfl
 | true=>rw[allN_iff.1 e i hi]at h;cases h
def firstAt (p : Nat→Bool) (n : Nat) : Int := match (List.range n).find? p with
 | some i=>(i:Int)
 | none=>-1
theorem firstAt_none {p:Nat→Bool} {n:Nat} (h:∀i,i<n→p i=false):firstAt p n = -1:=by
 have:(List.range n).find? p=none:=by simp[List.find?_eq_none];exact h
 simp[firstAt,this]
theorem firstAt_hit {p:Nat→Bool} {n k:Nat} (hk:k<n) (h:p k=true) (h0:∀i,i<k→p i=false):firstAt p n=k:=by
 have:(List.range n).find? p=some k:=by
  rw[List.find?_range_eq_some];exact⟨h,List.mem_range.2 hk,fun j hj=>by simp[h0 j hj]⟩
 simp[firstAt,this]
theorem firstAt_bounds (p:Nat→Bool) (n:Nat) : -1≤firstAt p n∧firstAt p n<n:=by
 unfold firstAt
 cases e:(List.range n).find? p with
 | none=>exact⟨by simp only[];omega,by simp only[];omega⟩
 | some i =>
  have:=List.mem_range.1 (List.mem_of_find?_eq_some e);exact⟨by simp only[];omega,by simp only[];omega⟩
theorem firstAt_spec {p : Nat→Bool} {n : Nat} : 0≤firstAt p n ↔ ∃i,i<n∧p i=true := by
 constructor
 · intro h;apply Classical.byContradiction;intro hn;rw[firstAt_none (p:=p) (n:=n)]at h
   · omega
   intro i hi
   cases e:p i with
   | false=>rfl
   | true=>exact absurd ⟨i,hi,e⟩ hn
 rintro ⟨i,hi,hp⟩;apply Classical.byContradiction;intro h;unfold firstAt at h
 cases e:(List.range n).find? p with
 | none=>rw[List.find?_eq_none]at e;exact absurd hp (by simpa using e i (List.mem_range.2 hi))
 | some k=>rw[e]at h;simp only[]at h;omega
def inB (n low high : Int) : Bool := decide (low≤n∧n≤high)
def hit (g : R) (a b : Int) (i : Nat) : Bool := decide (g i 0=a∧g i 1=b∨g i 0=b∧g i 1=a)
def linkAt (g : R) (n : Nat) (a b : Int) : Int := firstAt (hit g a b) n
def same (s : Ss) (t : ByteArray) (i : Nat) : Bool := decide ((s i).toList=t.toList)
def nameAt (s : Ss) (n : Nat) (t : ByteArray) : Int := firstAt (same s t) n
def routerB (s : Ss) (i : Nat) : Bool := nameB (s i)&&decide (nameAt s i (s i)<0)
def linkB (g : R) (r : Nat) (i : Nat) : Bool := inB (g i 0) 0 (r - 1)&&inB (g i 1) 0 (r - 1)&&decide (g i 0≠g i 1)&&inB (g i 2) 1 100&&decide (linkAt g i (g i 0) (g i 1)<0)
def zAt (z : List Int) (i : Nat) : Int := z[i]?.getD 0
def risesB (z : List Int) (r : Nat) (i : Nat) : Bool := inB (zAt z i) 0 (r - 1)&&(decide (i=0)||decide (zAt z (i - 1)<zAt z i))
def deedB (wh d n : Int) : Bool := inB wh 0 2&&inB d 1 4&&inB n 0 (if d=2 then 1000 else 0)
def portsB (low high : Int) : Bool := decide (0≤low)&&inB high low 15
def importB (g : R) (n : Nat) (x : R) (i : Nat) : Bool := decide (0≤linkAt g n (x i 0) (x i 1))&&deedB (x i 2) (x i 3) (x i 4)
def filterB (g : R) (n : Nat) (x : R) (i : Nat) : Bool := decide (0≤linkAt g n (x i 0) (x i 1))&&portsB (x i 2) (x i 3)
def routersB (s : Ss) (r : Nat) : Bool := inB r 1 4&&allN (routerB s) r
def linksB (g : R) (n r : Nat) : Bool := decide (n≤6)&&allN (linkB g r) n
def risingB (z : List Int) (n r : Nat) : Bool := allN (risesB z r) n
def importsB (g : R) (n : Nat) (x : R) (m : Nat) : Bool := decide (m≤12)&&allN (importB g n x) m
def filtersB (g : R) (n : Nat) (x : R) (m : Nat) : Bool := decide (m≤6)&&allN (filterB g n x) m
structure NetIs (w : World) (p : Nat→Option Addr) (l : Nat→Nat) (s : Ss) (g : R) (o e : List Int) (x f : R) : Prop where
 routers:StrRow w (p 0) (l 0) s
 links:Row 3 w (p 1) (l 1) g
 origins:IntRow w (p 2) (l 2) o
 externals:IntRow w (p 3) (l 3) e
 imports:Row 5 w (p 4) (l 4) x
 filters:Row 4 w (p 5) (l 5) f
theorem NetIs.below {W w1:World} {p:Nat→Option Addr} {l:Nat→Nat} {s:Ss} {g x f:R} {o e:List Int} (h:NetIs W p l s g o e x f) (hb:Below W.heap.size W w1):NetIs w1 p l s g o e x f :=
 ⟨h.routers.below hb,h.links.below hb,h.origins.below hb,h.externals.below hb,h.imports.below hb,h.filters.below hb⟩
def netV (p : Nat→Option Addr) (l c : Nat→Nat) : Value := .agg #[.slice (p 0) (l 0) (c 0),.slice (p 1) (l 1) (c 1),.slice (p 2) (l 2) (c 2),.slice (p 3) (l 3) (c 3),.slice (p 4) (l 4) (c 4),.slice (p 5) (l 5) (c 5)]
def netB (l : Nat→Nat) (s : Ss) (g : R) (o e : List Int) (x f : R) : Bool :=
 routersB s (l 0)&&linksB g (l 1) (l 0)&&risingB o (l 2) (l 0)&&risingB e (l 3) (l 0)&&decide (l 3≤2)&&importsB g (l 1) x (l 4)&&filtersB g (l 1) f (l 5)
end Go.Proofs.YtcnoemjeijjnjaaGreat.netSem
namespace Go.Proofs.YtcnoemjeijjnjaaGreat.netMath
open Go.RowKit Go.Deep Go base names netSem
def sN : Ss := fun i=>if i=0 then ⟨#[97]⟩ else if i=1 then ⟨#[98]⟩ else if i=2 then ⟨#[99]⟩ else ⟨#[100]⟩
def updR (g : R) (k : Nat) (f : Nat→Int) : R := fun i=>if i=k then f else g i
theorem updR_same (g:R) (k:Nat) (f:Nat→Int):updR g k f k=f:=if_pos rfl
theorem updR_ne (g:R) {k i:Nat} (f:Nat→Int) (h:i≠k):updR g k f i=g i:=if_neg h
def cellsR (m : Nat) (g : R) : Nat→List Value
 | 0=>[]
 | k+1=>cellsR m g k++(List.range m).map fun j=>.int .i64 (g k j)
theorem cellsR_len (m:Nat) (g:R):∀k,(cellsR m g k).length=k*m
 | 0=>by simp[cellsR]
 | k+1=>by rw[cellsR,List.length_append,cellsR_len m g k,List.length_map,List.length_range,Nat.succ_mul]
theorem cellsR_congr {m:Nat} {g g':R}:∀ {k:Nat},(∀i,i<k→g i=g' i)→cellsR m g k=cellsR m g' k
 | 0,_=>rfl
 | k+1,h=>by rw[cellsR,cellsR,cellsR_congr (fun i hi=>h i Om),h k Om]
theorem cellsR_upd (m:Nat) (g:R) (k:Nat) (f:Nat→Int):cellsR m (updR g k f) (k+1)=cellsR m g k++(List.range m).map fun j=>.int .i64 (f j):=by
 rw[cellsR,updR_same,cellsR_congr (g' := g) (fun i hi=>updR_ne g f Om)]
theorem cellsR_at (m:Nat) (g:R) {i j:Nat} (hj:j<m):∀ {k:Nat},i<k→(cellsR m g k)[i*m+j]? = some (.int .i64 (g i j))
 | 0,h=>by omega
 | k+1,h=>by
  rw[cellsR];by_cases e:i=k
  · subst e;rw[List.getElem?_append_right (by rw[cellsR_len];omega),cellsR_len,show i*m+j - i*m=j by omega,List.getElem?_map,List.getElem?_range hj];rfl
  have hlt:i*m+j<k*m:=by
   have:(i+1)*m≤k*m:=Nat.mul_le_mul_right _ Om;rw[Nat.succ_mul]at this;omega
  rw[List.getElem?_append_left (by rw[cellsR_len];exact hlt)];exact cellsR_at m g hj Om
theorem row_of {w:World} {B m k vc t:Nat} {va:Option Addr} {g:R} (hm:0<m) (h:w.ownsRow B t m (.slice va k vc) k (cellsR m g k)):Row m w va k g∧k≤vc:=by
 obtain⟨h1,h2⟩:=h;rcases h2 with ⟨h2,h0⟩|⟨gb,cap,cur,e,hb,hh,hc,hmx,hs,ht⟩
 · subst h0;exact⟨⟨Nat.zero_le _,fun i hi=>absurd hi (Nat.not_lt_zero _)⟩,Nat.zero_le _⟩
 have e1:va=some ⟨gb,0,none⟩:=by injection e
 have e2:vc=cap:=by injection e
 refine⟨⟨Nat.le_trans hc hmx,fun i hi=>⟨gb,0,e1,fun j hj=>?_⟩⟩,by rw[e2];exact hc⟩;have h7:=cellsR_at m g hj hi
 have hlt:i*m+j<k*m:=by
  have:(i+1)*m≤k*m:=Nat.mul_le_mul_right _ Om;rw[Nat.succ_mul]at this;omega
 rw[←ht,List.getElem?_take_of_lt hlt]at h7;rw[Nat.zero_add];simp only[World.cell?,hh];simpa using h7
theorem firstAt_congr {p q:Nat→Bool} {n:Nat} (h:∀i,i<n→p i=q i):firstAt p n=firstAt q n:=by
 unfold firstAt
 have:(List.range n).find? p=(List.range n).find? q:=by
  have key:∀L:List Nat,(∀i∈L,p i=q i)→L.find? p=L.find? q:=by
   intro L
   induction L with
   | nil=>intro _;rfl
   | cons a L ih =>
    intro hL;rw[List.find?_cons,List.find?_cons,hL a List.mem_cons_self,ih (fun i hi=>hL i (List.mem_cons_of_mem _ hi))]
  exact key _ fun i hi=>h i (List.mem_range.1 hi)
 rw[this]
theorem linkAt_upd (g:R) (k:Nat) (f:Nat→Int) (a b:Int) {i:Nat} (hi:i≤k):linkAt (updR g k f) i a b=linkAt g i a b:=by
 unfold linkAt;refine firstAt_congr fun j hj=>?_;unfold hit;rw[updR_ne g f Om]
theorem links_step {g:R} {k r:Nat} {f:Nat→Int} (h:linksB g k r=true) (hk:k<6) (h0:0≤f 0∧f 0<r) (h1:0≤f 1∧f 1<r) (h2:f 0≠f 1) (h3:1≤f 2∧f 2≤100) (h4:linkAt g k (f 0) (f 1)<0):linksB (updR g k f) (k+1) r=true:=by
 unfold linksB at h ⊢;rw[Bool.and_eq_true]at h ⊢;refine⟨decide_eq_true Om,allN_of fun i hi=>?_⟩;by_cases e:i=k
 · subst e;unfold linkB;rw[updR_same,linkAt_upd _ _ _ _ _ (Nat.le_refl _)];unfold inB;simp only[Bool.and_eq_true,decide_eq_true_eq];exact⟨⟨⟨⟨by omega,by omega⟩,h2⟩,h3⟩,h4⟩
 have:=allN_iff.1 h.2 i Om;unfold linkB at this ⊢;rw[updR_ne g f e,linkAt_upd _ _ _ _ _ Om];exact this
theorem link_hit (g:R) {n i:Nat} (hi:i<n):0≤linkAt g n (g i 0) (g i 1)∧0≤linkAt g n (g i 1) (g i 0) :=
 ⟨firstAt_spec.2 ⟨i,hi,by unfold hit;exact decide_eq_true (.inl ⟨rfl,rfl⟩)⟩,firstAt_spec.2 ⟨i,hi,by unfold hit;exact decide_eq_true (.inr ⟨rfl,rfl⟩)⟩⟩
theorem imports_step {g x:R} {n m:Nat} {f:Nat→Int} (h:importsB g n x m=true) (hm:m<12) (h0:0≤linkAt g n (f 0) (f 1)) (h1:deedB (f 2) (f 3) (f 4)=true):importsB g n (updR x m f) (m+1)=true:=by
 unfold importsB at h ⊢;rw[Bool.and_eq_true]at h ⊢;refine⟨decide_eq_true Om,allN_of fun i hi=>?_⟩;by_cases e:i=m
 · subst e;unfold importB;rw[updR_same,h1,decide_eq_true h0];rfl
 have:=allN_iff.1 h.2 i Om;unfold importB at this ⊢;rw[updR_ne x f e];exact this
theorem filters_step {g x:R} {n m:Nat} {f:Nat→Int} (h:filtersB g n x m=true) (hm:m<6) (h0:0≤linkAt g n (f 0) (f 1)) (h1:portsB (f 2) (f 3)=true):filtersB g n (updR x m f) (m+1)=true:=by
 unfold filtersB at h ⊢;rw[Bool.and_eq_true]at h ⊢;refine⟨decide_eq_true Om,allN_of fun i hi=>?_⟩;by_cases e:i=m
 · subst e;unfold filterB;rw[updR_same,h1,decide_eq_true h0];rfl
 have:=allN_iff.1 h.2 i Om;unfold filterB at this ⊢;rw[updR_ne x f e];exact this
theorem deed_of {a b c:Int} (h0:0≤a∧a≤2) (h1:1≤b∧b≤4) (h2:(b=2∧0≤c∧c≤1000)∨(b≠2∧c=0)):deedB a b c=true:=by
 unfold deedB inB;simp only[Bool.and_eq_true,decide_eq_true_eq];refine⟨⟨h0,h1⟩,?_⟩;rcases h2 with ⟨e,h⟩|⟨e,h⟩
 · rw[if_pos e];exact h
 rw[if_neg e];omega
theorem ports_of {a b:Int} (h0:0≤a) (h1:a≤b∧b≤15):portsB a b=true:=by
 unfold portsB inB;simp only[Bool.and_eq_true,decide_eq_true_eq];exact⟨h0,h1⟩
theorem routers_right : ∀ n,1≤n→n≤4→routersB sN n=true := by
 intro n h1 h4;rcases (show n=1∨n=2∨n=3∨n=4 by omega) with rfl|rfl|rfl|rfl<;>decide +kernel
def RisesL (zs : List Int) (r : Nat) : Prop := risingB zs zs.length r=true
theorem rises_nil (r:Nat):RisesL [] r:=rfl
theorem rises_one {r:Nat} {y:Int} (h:0≤y∧y<r):RisesL [y] r:=by
 unfold RisesL risingB;refine allN_of fun i hi=>?_;have e:i=0:=by simpa using hi
 subst e;unfold risesB inB zAt;simp;omega
theorem rises_two {r:Nat} {y z:Int} (h:0≤y∧y<r) (h':0≤z∧z<r) (hyz:y<z):RisesL [y,z] r:=by
 unfold RisesL risingB;refine allN_of fun i hi=>?_;have e:i=0∨i=1:=by simp at hi;omega
 unfold risesB inB zAt;rcases e with rfl|rfl<;>simp<;>omega
theorem rises_in {r:Nat} {zs:List Int} (h:RisesL zs r) {i:Nat} (hi:i<zs.length):0≤zAt zs i∧zAt zs i<r:=by
 have:=allN_iff.1 h i hi;unfold risesB inB at this;simp only[Bool.and_eq_true,decide_eq_true_eq]at this;omega
theorem rises_ins {r k:Nat} {zs:List Int} {n:Int} (h:RisesL zs r) (hl:zs.length≤1) (hn:0≤n∧n<r) (hk:k≤zs.length) (h1:∀j,j<k→zs[j]?.getD 0<n) (h2:k<zs.length→n<zs[k]?.getD 0):RisesL (zs.take k++[n]++zs.drop k) r:=by
 match zs,hl,h,hk,h1,h2 with
 | [],_,h,hk,h1,h2 =>
  simp;exact rises_one hn
 | [y],_,h,hk,h1,h2 =>
  have hy:=rises_in h (i:=0) (by simp);have hy0:0≤y∧y<r:=by simpa[zAt] using hy
  match k,hk,h1,h2 with
  | 0,_,h1,h2=>simpa using rises_two hn hy0 (by simpa using h2 (by simp))
  | 1,_,h1,h2=>simpa using rises_two hy0 hn (by simpa using h1 0 Om)
  | k+2,hk,_,_=>simp at hk
 | y::z::zs,hl,_,_,_,_=>simp at hl
theorem right_of {l:Nat→Nat} {g x f:R} {o e:List Int} (h0:1≤l 0∧l 0≤4) (h1:linksB g (l 1) (l 0)=true) (h2:RisesL o (l 0)) (e2:o.length=l 2) (h3:RisesL e (l 0)) (e3:e.length=l 3) (h3':e.length≤2) (h4:importsB g (l 1) x (l 4)=true) (h5:filtersB g (l 1) f (l 5)=true):netB l sN g o e x f=true:=by
 unfold netB;unfold RisesL at h2 h3;rw[e2]at h2;rw[e3]at h3 h3';rw[routers_right _ h0.1 h0.2,h1,h2,h3,decide_eq_true h3',h4,h5];rfl
end Go.Proofs.YtcnoemjeijjnjaaGreat.netMath
namespace Go.Proofs.YtcnoemjeijjnjaaGreat.netSpec
open Go.RowKit Go.Deep base names netSem
set_option maxHeartbeats 400000 in
theorem in_spec (n low high:Int) (w:World) :
  Calls Tryz.prog 22 #[.int .i64 n,.int .i64 low,.int .i64 high] w fun e w'=>e=.returned (.bool (inB n low high))∧w' = w:=by
 go_enter Tryz.func22,Tryz.ntmps22;go_wp2
 all_goals
  go_ret;refine⟨ret_bool ?_,rfl⟩;rw[Bool.eq_iff_iff];simp[inB, *];try omega
set_option maxHeartbeats 400000 in
theorem place_spec (a:Option Addr) (len cap:Nat) (s:Ss) (t:ByteArray) (w:World) (hr:StrRow w a len s) :
  Calls Tryz.prog 77 #[.slice a len cap,.string t] w fun e w'=>e=.returned (.int .i64 (nameAt s len t))∧w' = w:=by
 have hmost:=hr.most;unfold maxLen at hmost;have HC:=hid hr.cell;clear hr;go_enter Tryz.func77,Tryz.ntmps77;go_wp2;go_loop [5] (fun i=>∃k:Nat,k≤len∧i=.int .i64 k∧∀j,j<k→same s t j=false) (fun i=>len - (intOf i).toNat)
 case atStart=>exact⟨0,Nat.zero_le _,rfl,fun j hj=>absurd hj (Nat.not_lt_zero _)⟩
 obtain⟨k,hk,rfl,ha⟩:=hrel;have HA:=hid ha;clear ha;by_cases hlt:k<len
 · obtain⟨b,off,rfl,hc⟩:=HC.out k hlt;by_cases he:(s k).toList=t.toList
   · have hq:((s k).toList==t.toList)=true:=by simp[he]
     have HE:=hid (show same s t k=true from decide_eq_true he);clear he;go_wp2;go_ret;exact⟨ret_int (firstAt_hit hlt HE.out HA.out).symm,rfl⟩
   have hq:((s k).toList==t.toList)=false:=beq_eq_false_iff_ne.2 he;have HE:=hid (show same s t k=false from decide_eq_false he);clear he;go_wp2;go_round
   case rel =>
    refine⟨k+1,by omega,by go_num,fun j hj=>?_⟩;by_cases e:j=k
    · subst e;exact HE.out
    exact HA.out j Om
   case measure=>simp[intOf];omega
 have e:k=len:=by omega
 subst e;go_wp2;go_ret;exact⟨ret_int (firstAt_none HA.out).symm,rfl⟩
set_option maxHeartbeats 800000 in
theorem link_spec (p:Option Addr) (len cap:Nat) (g:R) (a b:Int) (w:World) (hr:Row 3 w p len g) :
  Calls Tryz.prog 41 #[.slice p len cap,.int .i64 a,.int .i64 b] w fun e w'=>e=.returned (.int .i64 (linkAt g len a b))∧w' = w:=by
 have hmost:=hr.most;unfold maxLen at hmost;have HR:=hid hr;clear hr;go_enter Tryz.func41,Tryz.ntmps41;go_wp2;go_loop [7] (fun i=>∃k:Nat,k≤len∧i=.int .i64 k∧∀j,j<k→hit g a b j=false) (fun i=>len - (intOf i).toNat)
 case atStart=>exact⟨0,Nat.zero_le _,rfl,fun j hj=>absurd hj (Nat.not_lt_zero _)⟩
 obtain⟨k,hk,rfl,ha⟩:=hrel;have HA:=hid ha;clear ha;by_cases hlt:k<len
 · obtain⟨b0,off,rfl,c0,c1,c2⟩:=HR.out.at3 hlt;obtain⟨D,hD⟩:∃D,hit g a b k=D:=⟨_,rfl⟩;have HQ:=hid hD;have hE:decide (g k 0=a∧g k 1=b∨g k 0=b∧g k 1=a)=D:=hD;clear hD;generalize g k 0=x at *;generalize g k 1=y at *;generalize g k 2=z at *;obtain⟨p1,e1⟩:∃p,(x==a)=p:=⟨_,rfl⟩;obtain⟨p2,e2⟩:∃p,(y==b)=p:=⟨_,rfl⟩;obtain⟨p3,e3⟩:∃p,(x==b)=p:=⟨_,rfl⟩;obtain⟨p4,e4⟩:∃p,(y==a)=p:=⟨_,rfl⟩
   have HD:D=(p1&&p2||p3&&p4):=by
    rw[←hE,←e1,←e2,←e3,←e4,Bool.eq_iff_iff];simp
   clear hE;cases p1<;>cases p2<;>cases p3<;>cases p4
   all_goals
    subst HD;go_wp2
    first
    | (go_ret;exact⟨ret_int (firstAt_hit hlt HQ.out HA.out).symm,rfl⟩)
    | (go_round
       case rel =>
        refine⟨k+1,by omega,by go_num,fun j hj=>?_⟩;by_cases e:j=k
        · subst e;exact HQ.out
        exact HA.out j Om
       case measure=>simp[intOf];omega)
 have e:k=len:=by omega
 subst e;go_wp2;go_ret;exact⟨ret_int (firstAt_none HA.out).symm,rfl⟩
set_option maxHeartbeats 800000 in
theorem rising_spec (a:Option Addr) (len cap:Nat) (zs:List Int) (r:Nat) (w:World) (hr:IntRow w a len zs) (hm:r≤maxLen) :
  Calls Tryz.prog 75 #[.slice a len cap,.int .i64 r] w fun e w'=>e=.returned (.bool (risingB zs len r))∧∃n,w' = w.drewN n:=by
 obtain⟨hlen,hmost,hcell⟩:=hr;unfold maxLen at hmost;have HC:=hid hcell;have HM:=hid hm;unfold maxLen at hm;clear hlen hcell;go_enter Tryz.func75,Tryz.ntmps75;go_wp2;go_loopw [5] (fun i wr=>∃k n:Nat,k≤len∧i=.int .i64 k∧(∀j,j<k→risesB zs r j=true)∧wr=w.drewN n) (fun i _=>len - (intOf i).toNat)
 case atStart=>exact⟨0,0,Nat.zero_le _,rfl,fun j hj=>absurd hj (Nat.not_lt_zero _),rfl⟩
 obtain⟨k,n,hk,rfl,ha,hw⟩:=hrel;have HA:=hid ha;have HW:=hid hw;clear ha;by_cases hlt:k<len
 · obtain⟨b,off,rfl,hc0⟩:=HC.out k hlt;have hc:wr.cell? ⟨b,off+k,none⟩=some (.int .i64 (zAt zs k)):=by rw[hw];simpa[zAt] using hc0
   have HQ:Hid (risesB zs r k=(inB (zAt zs k) 0 (r - 1)&&(decide (k=0)||decide (zAt zs (k - 1)<zAt zs k)))):=rfl;obtain⟨p1,e1⟩:∃p,inB (zAt zs k) 0 (r - 1)=p:=⟨_,rfl⟩;rw[e1]at HQ
   cases p1 with
   | false =>
    have HF:=hid (show risesB zs r k=false from HQ.out);clear hw hc0;generalize zAt zs k=z at *;go_wp2;go_quiet (first|(go_at_call 22;exact Calls.quiet_of_same (in_spec _ _ _ _)));go_wp2;go_ret;exact⟨ret_bool (allN_false hlt HF.out).symm,n+nq,by rw[HW.out,World.drewN_drewN]⟩
   | true =>
    by_cases hk0:k=0
    · have HF:=hid (show risesB zs r k=true by rw[HQ.out,decide_eq_true hk0];rfl);have ip3:decide ((0:Int)<(k:Int))=false:=decide_eq_false Om;have ip4:decide (0<k)=false:=decide_eq_false Om;clear hw hc0 hk0;generalize zAt zs k=z at *;go_wp2;go_quiet (first|(go_at_call 22;exact Calls.quiet_of_same (in_spec _ _ _ _)));go_wp2;go_roundw
      case rel =>
       refine⟨k+1,n+nq,by omega,by go_num,fun j hj=>?_,by rw[HW.out,World.drewN_drewN]⟩;by_cases e:j=k
       · subst e;exact HF.out
       exact HA.out j Om
      case measure=>simp[intOf];omega
    obtain⟨m,hm1⟩:∃m,k=m+1:=⟨k - 1,by omega⟩;obtain⟨b',off',hab,hd0⟩:=HC.out m Om;cases hab;have hd:wr.cell? ⟨b,off+m,none⟩=some (.int .i64 (zAt zs m)):=by rw[hw];simpa[zAt] using hd0
    have ek:k - 1=m:=by omega
    have ip:(k:Int) - 1=(m:Int):=by omega
    have ip1:(m:Int)<(len:Int):=by omega
    have ip2:(k:Int)<(len:Int):=by omega
    have ip3:decide ((0:Int)<(k:Int))=true:=decide_eq_true Om;have ip4:decide (0<k)=true:=decide_eq_true Om
    have HQ2:Hid (risesB zs r k=decide (zAt zs m<zAt zs k)):=by
     show _=_
     rw[HQ.out,ek,decide_eq_false hk0];rfl
    have HM1:=hid hm1;clear hw hc0 hd0 hm1 ek HQ;obtain⟨p2,e2⟩:∃p,decide (zAt zs k≤zAt zs m)=p:=⟨_,rfl⟩
    have HF:Hid (risesB zs r k = !p2):=by
     show _=_
     rw[HQ2.out,←e2,Bool.eq_iff_iff];simp
    clear HQ2;generalize zAt zs k=z at *;generalize zAt zs m=y at *
    cases p2 with
    | true =>
     go_wp2;go_quiet (first|(go_at_call 22;exact Calls.quiet_of_same (in_spec _ _ _ _)));go_wp2;go_ret;exact⟨ret_bool (allN_false hlt HF.out).symm,n+nq,by rw[HW.out,World.drewN_drewN]⟩
    | false =>
     go_wp2;go_quiet (first|(go_at_call 22;exact Calls.quiet_of_same (in_spec _ _ _ _)));go_wp2;go_roundw
     case rel =>
      refine⟨k+1,n+nq,by omega,by go_num,fun j hj=>?_,by rw[HW.out,World.drewN_drewN]⟩;by_cases e:j=k
      · subst e;exact HF.out
      exact HA.out j Om
     case measure=>simp[intOf];omega
 have e:k=len:=by omega
 subst e;go_wp2;go_ret;exact⟨ret_bool (allN_of HA.out).symm,n,by first|exact HW.out|rfl⟩
end Go.Proofs.YtcnoemjeijjnjaaGreat.netSpec
namespace Go.Proofs.YtcnoemjeijjnjaaGreat.stepAppend
open Go heldStore
theorem step_append_at {P:Program} (w:World) {ops:Array Oper} {o:Oper} {a:Act} {K:Act→World→Prop} {Q:Exit→Act→World→Prop} {E:Prop} (hgd:o.guard=none) (s x:Operand) (t:TypeId)
  (ho:o.op=.call { callee:=.builtin .append,args:=#[s,x],argTypes:=#[t,t] }) (dd:Option Tmp) (hd:o.dst=dd)
  (base:Nat) (e:TypeId) (i:TypeInfo) (z:Value) (size bytes:Nat) (ht:P.underlying t=some (.slice e)) (hi:P.info? e=some i) (hz:i.zero=some z)
  (hsize:i.size=size) (hby:i.bytes=bytes) (hzs:z.cells.size=size) (hsz:0<size)
  (v:Value) (n:Nat) (xs:List Value) (hs:a.eval s=v) (hown:w.ownsRow base e size v n xs)
  (ad:Addr) (m c:Nat) (news:List Value) (hx:a.eval x=.slice (some ad) m c) (hl:news.length=m*size) (hnews:∀j u,news[j]? = some u→w.cell? (ad.add j)=some u) (h1:∀u∈news,u.oneCell' = true)
  (h63:n+m≤maxLen) (hbytes:(n+m)*bytes≤140737488355328) (hbase:base≤w.heap.size)
  (h:∀v' w',w'.ownsRow base e size v' (n+m) (xs++news)→w.grownBy w' v.ownBlock→(v'.ownBlock=v.ownBlock∨v'.ownBlock=some w.heap.size)→K (a.put dd v') w') :
  if Region.wanted o (yielded ops a.tmps)=true then Oper.wp P o a w K Q else E:=by
 subst hd;have hw:Region.wanted o (yielded ops a.tmps)=true:=by simp[Region.wanted,hgd]
 rw[if_pos hw];obtain⟨v',w',hr,h2,h3,h4,h5⟩:=run_append_own_at (P:=P) w base t o.type e i z size bytes ht hi hz hsize hby hzs hsz v n xs hown ad m c news hl hnews h1 h63 hbytes hbase;have:=h v' w' h2 h3 h5;unfold Oper.wp execOp;simp only[ho,resolve,invoke,builtin,Sem.run_bind,Sem.run_pure,Result.andThen_ok,List.map_toArray,List.map_cons,List.map_nil,hs,hx,hr];exact this
end Go.Proofs.YtcnoemjeijjnjaaGreat.stepAppend
