import Derived.RangeFuncNested
import Derived.RangeFuncBound
import Derived.RangeFuncCalls
import Derived.RangeFuncLeaves
import Derived.Shelf.Abstract
import Derived.Test.YtajhklklbfnmpaaGreatRows
import Derived.WalkKit
import Derived.Below
import Derived.Deep.OwnRows
import Derived.Deep.QuietTactic
import Derived.BigQuiet
import Derived.Deep.RegionWith
set_option linter.unusedVariables false
namespace Go.Proofs.YtajhklklbfnmpaaGreat.rangeAt
open Go.RowKit Go.Shelf Go
theorem round_any {m m' l : Nat} {P : Program} {f : FuncId} {tmps : Array Value} {assign body : Code} {w : World} {R : Ending→World→Prop} (h : RoundIn Fence.wide m P l f tmps assign body w R) : RoundIn Fence.wide m' P l f tmps assign body w R :=
 ⟨h.1,fun c cs _=>h.2 c cs (room_wide _)⟩
theorem yield_any {m m' l : Nat} {P : Program} {args : Array Value} {W : World} {R : Ending→World→Prop} (h : YieldAt Fence.wide m P l args W R) : YieldAt Fence.wide m' P l args W R := by
 obtain ⟨fn,tmps,assign,body,hy,hr⟩:=h
 exact ⟨fn,tmps,assign,body,hy,round_any hr⟩
theorem calls_any {m m' : Nat} {P : Program} {f : FuncId} {args : Array Value} {w : World} {R : Ending→World→Prop} (h : CallsIn Fence.wide m P f args w R) : CallsIn Fence.wide m' P f args w R := callsIn_wide.2 (callsIn_wide.1 h)
end Go.Proofs.YtajhklklbfnmpaaGreat.rangeAt
namespace Go.Proofs.YtajhklklbfnmpaaGreat
theorem Bl {n : Nat} {v w : World} (h : Go.RowKit.Below n v w := by repeat (first | exact Go.RowKit.Below.refl _ _ | assumption | refine Go.RowKit.Below.drew ?_ | refine Go.RowKit.Below.alloc ?_ (by first | exact Nat.le_refl _ | omega | (simp;done) | (simp;omega)) _ | refine Go.RowKit.Below.setCell ?_ (by first | exact Nat.le_refl _ | omega | (simp;done) | (simp;omega)) _)) : Go.RowKit.Below n v w := h
end Go.Proofs.YtajhklklbfnmpaaGreat
namespace Go.Proofs.YtajhklklbfnmpaaGreat.base
open Go.RowKit Go.Deep
theorem ret_bool {a b : Bool} (h : a=b) : Ending.returned (.bool a)=.returned (.bool b) := by rw [h]
theorem ret_int {k : IntKind} {a b : Int} (h : a=b) : Ending.returned (.int k a)=.returned (.int k b) := by rw [h]
theorem hid {p : Prop} (h : p) : Hid p := h
theorem below_drewN (w : World) (n : Nat) : Below w.heap.size w (w.drewN n) := ⟨rfl,rfl,rfl,Nat.le_refl _,fun _ _=>rfl⟩
theorem bcell {W w1 : World} (hb : Below W.heap.size W w1) : (∀ b o,b < W.heap.size→w1.cell? ⟨b,o,none⟩=W.cell? ⟨b,o,none⟩)∧(∀ b o,b < W.heap.size→w1.frozen? ⟨b,o,none⟩=W.frozen? ⟨b,o,none⟩) :=
 ⟨fun b o h=>hb.cell (p:=⟨b,o,none⟩) h,fun b o h=>hb.frozen (p:=⟨b,o,none⟩) h⟩
theorem keep {W w1 : World} (hb : Below W.heap.size W w1) {b o : Nat} {v : Value} (h : W.cell? ⟨b,o,none⟩=some v) : w1.cell? ⟨b,o,none⟩=some v := by
 rw [hb.cell (p:=⟨b,o,none⟩) (World.block_lt_of_cell? _ _ h)];exact h
structure IntRow (w : World) (a : Option Addr) (len : Nat) (zs : List Int) : Prop where
 length:zs.length=len
 most:len≤maxLen
 cell:∀ i,i < len→∃ b off,a=some ⟨b,off,none⟩∧w.cell? ⟨b,off+i,none⟩=some (.int .i64 (zs[i]?.getD 0))
theorem IntRow.below {W w1 : World} {a : Option Addr} {len : Nat} {zs : List Int} (h : IntRow W a len zs) (hb : Below W.heap.size W w1) : IntRow w1 a len zs :=
 ⟨h.length,h.most,fun i hi=>by
  obtain ⟨b,off,e,hc⟩:=h.cell i hi
  exact ⟨b,off,e,keep hb hc⟩⟩
theorem IntRow.drewN {W : World} {a : Option Addr} {len : Nat} {zs : List Int} (h : IntRow W a len zs) (n : Nat) : IntRow (W.drewN n) a len zs := h.below (below_drewN _ _)
structure IntRows (w : World) (a : Option Addr) (len : Nat) (zss : List (List Int)) : Prop where
 length:zss.length=len
 most:len≤maxLen
 cell:∀ i,i < len→∃ b off,a=some ⟨b,off,none⟩∧∃ a' l' c',w.cell? ⟨b,off+i,none⟩=some (.slice a' l' c')∧IntRow w a' l' (zss[i]?.getD [])
theorem IntRows.below {W w1 : World} {a : Option Addr} {len : Nat} {zss : List (List Int)} (h : IntRows W a len zss) (hb : Below W.heap.size W w1) : IntRows w1 a len zss :=
 ⟨h.length,h.most,fun i hi=>by
  obtain ⟨b,off,e,a',l',c',hc,hr⟩:=h.cell i hi
  exact ⟨b,off,e,a',l',c',keep hb hc,hr.below hb⟩⟩
structure BoolRow (w : World) (a : Option Addr) (len : Nat) (zs : List Bool) : Prop where
 length:zs.length=len
 most:len≤maxLen
 cell:∀ i,i < len→∃ b off,a=some ⟨b,off,none⟩∧w.cell? ⟨b,off+i,none⟩=some (.bool (zs[i]?.getD false))
theorem BoolRow.below {W w1 : World} {a : Option Addr} {len : Nat} {zs : List Bool} (h : BoolRow W a len zs) (hb : Below W.heap.size W w1) : BoolRow w1 a len zs :=
 ⟨h.length,h.most,fun i hi=>by
  obtain ⟨b,off,e,hc⟩:=h.cell i hi
  exact ⟨b,off,e,keep hb hc⟩⟩
end Go.Proofs.YtajhklklbfnmpaaGreat.base
namespace Go.Proofs.YtajhklklbfnmpaaGreat.names
open Go.RowKit base
def letB (n : Int) : Bool := decide (97≤n∧n≤122 ∨ 65≤n∧n≤90 ∨ n=95)
def digB (n : Int) : Bool := decide (48≤n∧n≤57)
set_option maxHeartbeats 400000 in
theorem let_impl (n : Int) (w : World) :
  Calls Tryz.prog 134 #[.int .u8 n] w fun e w'=>e=.returned (.bool (letB n))∧w' = w:=by
 go_enter Tryz.func134,Tryz.ntmps134
 go_wp2
 all_goals
  go_ret
  refine ⟨ret_bool ?_,rfl⟩
  rw [Bool.eq_iff_iff];simp [letB];try omega
set_option maxHeartbeats 400000 in
theorem let_spec (n : Int) (w : World) :
  Calls Tryz.prog 128 #[.int .u8 n] w fun e w'=>e=.returned (.bool (letB n))∧w' = w:=by
 go_enter Tryz.func128,Tryz.ntmps128
 go_wp2
 all_goals
  go_ret
  refine ⟨ret_bool ?_,rfl⟩
  rw [Bool.eq_iff_iff];simp [letB];try omega
set_option maxHeartbeats 400000 in
theorem dig_impl (n : Int) (w : World) :
  Calls Tryz.prog 135 #[.int .u8 n] w fun e w'=>e=.returned (.bool (digB n))∧w' = w:=by
 go_enter Tryz.func135,Tryz.ntmps135
 go_wp2
 all_goals
  go_ret
  refine ⟨ret_bool ?_,rfl⟩
  rw [Bool.eq_iff_iff];simp [digB];try omega
set_option maxHeartbeats 400000 in
theorem dig_spec (n : Int) (w : World) :
  Calls Tryz.prog 129 #[.int .u8 n] w fun e w'=>e=.returned (.bool (digB n))∧w' = w:=by
 go_enter Tryz.func129,Tryz.ntmps129
 go_wp2
 all_goals
  go_ret
  refine ⟨ret_bool ?_,rfl⟩
  rw [Bool.eq_iff_iff];simp [digB];try omega
def allTo (p : Nat→Bool) : Nat→Bool
 | 0=>true
 | k+1=>allTo p k && p k
theorem allTo_false {p : Nat→Bool} {k n : Nat} (h : k < n) (hp : p k=false) : allTo p n=false := by
 induction n with
 | zero=>omega
 | succ n ih =>
  by_cases e:k=n
  · subst e;simp [allTo,hp]
  · simp [allTo,ih (by omega)]
def byt (s : ByteArray) (i : Nat) : Int := (s.data.toList.getD i 0).toNat
theorem byt_eq (s : ByteArray) (i : Nat) (h : i < s.size) : byt s i=(s[i].toNat : Int) := by
 unfold byt
 rw [List.getD_eq_getElem?_getD,List.getElem?_eq_getElem (by simpa using h)];rfl
def good (s : ByteArray) (i : Nat) : Bool := letB (byt s i) || (decide (0 < i) && digB (byt s i))
def nameB (s : ByteArray) : Bool := decide (0 < s.size∧s.size≤40) && allTo (good s) s.size
set_option maxHeartbeats 400000 in
theorem name_impl (s : ByteArray) (w : World) (hs : s.size≤maxLen) :
  Calls Tryz.prog 102 #[.string s] w fun e w'=>e=.returned (.bool (nameB s))∧w' = w:=by
 unfold maxLen at hs
 by_cases h0:s.size=0
 · have hz:((s.size:Int) == 0)=true:=by simp [h0]
   have hf:nameB s=false:=by simp [nameB,h0]
   rw [hf]
   clear hf
   go_enter Tryz.func102,Tryz.ntmps102
   go_wp2
   go_ret
   exact ⟨rfl,rfl⟩
 by_cases h1:40 < s.size
 · have hz:((s.size:Int) == 0)=false:=beq_eq_false_iff_ne.2 (by omega)
   have hf:nameB s=false:=by
    have:decide (0 < s.size∧s.size≤40)=false:=decide_eq_false (by omega)
    simp [nameB,this]
   rw [hf]
   clear hf
   go_enter Tryz.func102,Tryz.ntmps102
   go_wp2
   go_ret
   exact ⟨rfl,rfl⟩
 have hz:((s.size:Int) == 0)=false:=beq_eq_false_iff_ne.2 (by omega)
 have hd:decide ((40:Int) < (s.size:Int))=false:=by simp;omega
 have hN:Hid (nameB s=allTo (good s) s.size):=by
  show _=_
  have:decide (0 < s.size∧s.size≤40)=true:=decide_eq_true (by omega)
  simp [nameB,this]
 go_enter Tryz.func102,Tryz.ntmps102
 go_wp2
 go_loop [14] (fun i=>∃ k:Nat,k≤s.size∧i=.int .i64 k∧allTo (good s) k=true) (fun i=>s.size - (intOf i).toNat)
 case atStart=>exact ⟨0,Nat.zero_le _,rfl,rfl⟩
 case round =>
  obtain ⟨k,hk,rfl,ha⟩:=hrel
  have HA:Hid (allTo (good s) k=true):=ha
  clear ha
  by_cases hlt:k < s.size
  · have HB:Hid (byt s k=(s[k].toNat:Int)):=byt_eq s k hlt
    by_cases hL:letB (s[k].toNat:Int)=true
    · have hg:Hid (good s k=true):=by show _=_;simp [good,HB.out,hL]
      go_wp2_with (first | (go_at_call 134;refine (let_impl _ _).mono ?_;rintro e w' ⟨rfl,rfl⟩) | (go_at_call 135;refine (dig_impl _ _).mono ?_;rintro e w' ⟨rfl,rfl⟩))
      go_round
      case rel=>exact ⟨k+1,by omega,by go_num,by simp [allTo,HA.out,hg.out]⟩
      case measure=>simp [intOf];omega
    · have hL':letB (s[k].toNat:Int)=false:=by simpa using hL
      clear hL
      by_cases hk0:k=0
      · subst hk0
        have hg:Hid (good s 0=false):=by show _=_;simp [good,HB.out,hL']
        go_wp2_with (first | (go_at_call 134;refine (let_impl _ _).mono ?_;rintro e w' ⟨rfl,rfl⟩) | (go_at_call 135;refine (dig_impl _ _).mono ?_;rintro e w' ⟨rfl,rfl⟩))
        go_ret
        exact ⟨ret_bool (by rw [hN.out,allTo_false hlt hg.out]),rfl⟩
      · have hk1:((k:Int) == 0)=false:=by simp;omega
        by_cases hD:digB (s[k].toNat:Int)=true
        · have hg:Hid (good s k=true):=by show _=_;simp [good,HB.out,hD];omega
          go_wp2_with (first | (go_at_call 134;refine (let_impl _ _).mono ?_;rintro e w' ⟨rfl,rfl⟩) | (go_at_call 135;refine (dig_impl _ _).mono ?_;rintro e w' ⟨rfl,rfl⟩))
          go_round
          case rel=>exact ⟨k+1,by omega,by go_num,by simp [allTo,HA.out,hg.out]⟩
          case measure=>simp [intOf];omega
        · have hD':digB (s[k].toNat:Int)=false:=by simpa using hD
          clear hD
          have hg:Hid (good s k=false):=by show _=_;simp [good,HB.out,hL',hD']
          go_wp2_with (first | (go_at_call 134;refine (let_impl _ _).mono ?_;rintro e w' ⟨rfl,rfl⟩) | (go_at_call 135;refine (dig_impl _ _).mono ?_;rintro e w' ⟨rfl,rfl⟩))
          go_ret
          exact ⟨ret_bool (by rw [hN.out,allTo_false hlt hg.out]),rfl⟩
  · have e:k=s.size:=by omega
    subst e
    go_wp2
    go_ret
    exact ⟨ret_bool (by rw [hN.out,HA.out]),rfl⟩
set_option maxHeartbeats 400000 in
theorem word_spec (s : ByteArray) (w : World) (hs : s.size≤maxLen) :
  Calls Tryz.prog 95 #[.string s] w fun e w'=>e=.returned (.bool (nameB s))∧w' = w:=by
 unfold maxLen at hs
 by_cases h0:s.size=0
 · have hz:((s.size:Int) < 1):=by omega
   have hf:nameB s=false:=by simp [nameB,h0]
   rw [hf]
   clear hf
   go_enter Tryz.func95,Tryz.ntmps95
   go_wp2
   go_ret
   exact ⟨rfl,rfl⟩
 by_cases h1:40 < s.size
 · have hz:¬ ((s.size:Int) < 1):=by omega
   have hf:nameB s=false:=by
    have:decide (0 < s.size∧s.size≤40)=false:=decide_eq_false (by omega)
    simp [nameB,this]
   rw [hf]
   clear hf
   go_enter Tryz.func95,Tryz.ntmps95
   go_wp2
   go_ret
   exact ⟨rfl,rfl⟩
 have hz:decide ((s.size:Int) < 1)=false:=by simp;omega
 have hd:decide ((40:Int) < (s.size:Int))=false:=by simp;omega
 have hlt0:0 < s.size:=by omega
 have hN:Hid (nameB s=allTo (good s) s.size):=by
  show _=_
  have:decide (0 < s.size∧s.size≤40)=true:=decide_eq_true (by omega)
  simp [nameB,this]
 have HB0:Hid (byt s 0=(s[0].toNat:Int)):=byt_eq s 0 hlt0
 by_cases hL0:letB (s[0].toNat:Int)=true
 · have hg0:Hid (allTo (good s) 1=true):=by show _=_;simp [allTo,good,HB0.out,hL0]
   go_enter Tryz.func95,Tryz.ntmps95
   go_wp2_with (go_at_call 128;refine (let_spec _ _).mono ?_;rintro e w' ⟨rfl,rfl⟩)
   go_loop [3] (fun i=>∃ k:Nat,1≤k∧k≤s.size∧i=.int .i64 k∧allTo (good s) k=true) (fun i=>s.size - (intOf i).toNat)
   case atStart=>exact ⟨1,by omega,by omega,rfl,hg0.out⟩
   case round =>
    obtain ⟨k,hk1,hk,rfl,ha⟩:=hrel
    have HA:Hid (allTo (good s) k=true):=ha
    clear ha
    by_cases hlt:k < s.size
    · have HB:Hid (byt s k=(s[k].toNat:Int)):=byt_eq s k hlt
      by_cases hL:letB (s[k].toNat:Int)=true
      · have hg:Hid (good s k=true):=by show _=_;simp [good,HB.out,hL]
        go_wp2_with (first | (go_at_call 128;refine (let_spec _ _).mono ?_;rintro e w' ⟨rfl,rfl⟩) | (go_at_call 129;refine (dig_spec _ _).mono ?_;rintro e w' ⟨rfl,rfl⟩))
        go_round
        case rel=>exact ⟨k+1,by omega,by omega,by go_num,by simp [allTo,HA.out,hg.out]⟩
        case measure=>simp [intOf];omega
      · have hL':letB (s[k].toNat:Int)=false:=by simpa using hL
        clear hL
        by_cases hD:digB (s[k].toNat:Int)=true
        · have hg:Hid (good s k=true):=by show _=_;simp [good,HB.out,hD];omega
          go_wp2_with (first | (go_at_call 128;refine (let_spec _ _).mono ?_;rintro e w' ⟨rfl,rfl⟩) | (go_at_call 129;refine (dig_spec _ _).mono ?_;rintro e w' ⟨rfl,rfl⟩))
          go_round
          case rel=>exact ⟨k+1,by omega,by omega,by go_num,by simp [allTo,HA.out,hg.out]⟩
          case measure=>simp [intOf];omega
        · have hD':digB (s[k].toNat:Int)=false:=by simpa using hD
          clear hD
          have hg:Hid (good s k=false):=by show _=_;simp [good,HB.out,hL',hD']
          go_wp2_with (first | (go_at_call 128;refine (let_spec _ _).mono ?_;rintro e w' ⟨rfl,rfl⟩) | (go_at_call 129;refine (dig_spec _ _).mono ?_;rintro e w' ⟨rfl,rfl⟩))
          go_ret
          exact ⟨ret_bool (by rw [hN.out,allTo_false hlt hg.out]),rfl⟩
    · have e:k=s.size:=by omega
      subst e
      go_wp2
      go_ret
      exact ⟨ret_bool (by rw [hN.out,HA.out]),rfl⟩
 · have hL':letB (s[0].toNat:Int)=false:=by simpa using hL0
   clear hL0
   have hg:Hid (good s 0=false):=by show _=_;simp [good,HB0.out,hL']
   go_enter Tryz.func95,Tryz.ntmps95
   go_wp2_with (go_at_call 128;refine (let_spec _ _).mono ?_;rintro e w' ⟨rfl,rfl⟩)
   go_ret
   exact ⟨ret_bool (by rw [hN.out,allTo_false hlt0 hg.out]),rfl⟩
set_option maxHeartbeats 400000 in
theorem name_spec (s : ByteArray) (w : World) (hs : s.size≤maxLen) :
  Calls Tryz.prog 68 #[.string s] w fun e w'=>e=.returned (.bool (nameB s))∧w' = w:=by
 go_enter Tryz.func68,Tryz.ntmps68
 go_wp2_with (go_at_call 95;refine (word_spec _ _ hs).mono ?_;rintro e w' ⟨rfl,rfl⟩)
 go_ret
 exact ⟨rfl,rfl⟩
end Go.Proofs.YtajhklklbfnmpaaGreat.names
namespace Go.Proofs.YtajhklklbfnmpaaGreat.netSem
open Go.RowKit Go.Deep base names
theorem bdn {W w1 : World} (h : Below W.heap.size W w1) (n : Nat) : Below W.heap.size W (w1.drewN n) := h.trans ((below_drewN w1 n).mono h.size)
abbrev R := Nat→Nat→Int
abbrev Ss := Nat→ByteArray
structure Row (m : Nat) (w : World) (a : Option Addr) (len : Nat) (g : R) : Prop where
 most:len≤maxLen
 cell:∀ i,i < len→∃ b off,a=some ⟨b,off,none⟩∧∀ j,j < m→w.cell? ⟨b,off+i * m+j,none⟩=some (.int .i64 (g i j))
theorem Row.kept {m : Nat} {W w1 : World} {a : Option Addr} {len : Nat} {g : R} (h : Row m W a len g) (hk : ∀ b o v,W.cell? ⟨b,o,none⟩=some v→w1.cell? ⟨b,o,none⟩=some v) : Row m w1 a len g :=
 ⟨h.most,fun i hi=>by
  obtain ⟨b,off,e,h0⟩:=h.cell i hi
  exact ⟨b,off,e,fun j hj=>hk _ _ _ (h0 j hj)⟩⟩
theorem Row.below {m : Nat} {W w1 : World} {a : Option Addr} {len : Nat} {g : R} (h : Row m W a len g) (hb : Below W.heap.size W w1) : Row m w1 a len g := h.kept fun b o v hv=>keep hb hv
theorem Row.front {m : Nat} {w : World} {a : Option Addr} {len k : Nat} {g : R} (h : Row m w a len g) (hk : k≤len) : Row m w a k g :=
 ⟨Nat.le_trans hk h.most,fun i hi=>h.cell i (by omega)⟩
theorem Row.at3 {w : World} {a : Option Addr} {len i : Nat} {g : R} (h : Row 3 w a len g) (hi : i < len) : ∃ b off,a=some ⟨b,off,none⟩∧w.cell? ⟨b,off+i * 3,none⟩=some (.int .i64 (g i 0))∧w.cell? ⟨b,off+i * 3+1,none⟩=some (.int .i64 (g i 1))∧w.cell? ⟨b,off+i * 3+2,none⟩=some (.int .i64 (g i 2)) := by
 obtain ⟨b,off,e,hc⟩:=h.cell i hi
 exact ⟨b,off,e,hc 0 (by omega),hc 1 (by omega),hc 2 (by omega)⟩
theorem Row.at4 {w : World} {a : Option Addr} {len i : Nat} {g : R} (h : Row 4 w a len g) (hi : i < len) : ∃ b off,a=some ⟨b,off,none⟩∧w.cell? ⟨b,off+i * 4,none⟩=some (.int .i64 (g i 0))∧w.cell? ⟨b,off+i * 4+1,none⟩=some (.int .i64 (g i 1))∧w.cell? ⟨b,off+i * 4+2,none⟩=some (.int .i64 (g i 2))∧w.cell? ⟨b,off+i * 4+3,none⟩=some (.int .i64 (g i 3)) := by
 obtain ⟨b,off,e,hc⟩:=h.cell i hi
 exact ⟨b,off,e,hc 0 (by omega),hc 1 (by omega),hc 2 (by omega),hc 3 (by omega)⟩
theorem Row.at5 {w : World} {a : Option Addr} {len i : Nat} {g : R} (h : Row 5 w a len g) (hi : i < len) : ∃ b off,a=some ⟨b,off,none⟩∧w.cell? ⟨b,off+i * 5,none⟩=some (.int .i64 (g i 0))∧w.cell? ⟨b,off+i * 5+1,none⟩=some (.int .i64 (g i 1))∧w.cell? ⟨b,off+i * 5+2,none⟩=some (.int .i64 (g i 2))∧w.cell? ⟨b,off+i * 5+3,none⟩=some (.int .i64 (g i 3))∧w.cell? ⟨b,off+i * 5+4,none⟩=some (.int .i64 (g i 4)) := by
 obtain ⟨b,off,e,hc⟩:=h.cell i hi
 exact ⟨b,off,e,hc 0 (by omega),hc 1 (by omega),hc 2 (by omega),hc 3 (by omega),hc 4 (by omega)⟩
structure StrRow (w : World) (a : Option Addr) (len : Nat) (s : Ss) : Prop where
 most:len≤maxLen
 size:∀ i,i < len→(s i).size≤maxLen
 cell:∀ i,i < len→∃ b off,a=some ⟨b,off,none⟩∧w.cell? ⟨b,off+i,none⟩=some (.string (s i))
theorem StrRow.kept {W w1 : World} {a : Option Addr} {len : Nat} {s : Ss} (h : StrRow W a len s) (hk : ∀ b o v,W.cell? ⟨b,o,none⟩=some v→w1.cell? ⟨b,o,none⟩=some v) : StrRow w1 a len s :=
 ⟨h.most,h.size,fun i hi=>by
  obtain ⟨b,off,e,h0⟩:=h.cell i hi
  exact ⟨b,off,e,hk _ _ _ h0⟩⟩
theorem StrRow.below {W w1 : World} {a : Option Addr} {len : Nat} {s : Ss} (h : StrRow W a len s) (hb : Below W.heap.size W w1) : StrRow w1 a len s := h.kept fun b o v hv=>keep hb hv
theorem StrRow.front {w : World} {a : Option Addr} {len k : Nat} {s : Ss} (h : StrRow w a len s) (hk : k≤len) : StrRow w a k s :=
 ⟨Nat.le_trans hk h.most,fun i hi=>h.size i (by omega),fun i hi=>h.cell i (by omega)⟩
def allN (p : Nat→Bool) (n : Nat) : Bool := (List.range n).all p
theorem allN_iff {p : Nat→Bool} {n : Nat} : allN p n=true ↔ ∀ i,i < n→p i=true := by simp [allN]
theorem allN_of {p : Nat→Bool} {n : Nat} (h : ∀ i,i < n→p i=true) : allN p n=true := allN_iff.2 h
theorem allN_false {p : Nat→Bool} {n i : Nat} (hi : i < n) (h : p i=false) : allN p n=false := by
 cases e:allN p n with
 | false=>rfl
 | true=>rw [allN_iff.1 e i hi] at h;cases h
def firstAt (p : Nat→Bool) (n : Nat) : Int := match (List.range n).find? p with
 | some i=>(i:Int)
 | none=>-1
theorem firstAt_none {p : Nat→Bool} {n : Nat} (h : ∀ i,i < n→p i=false) : firstAt p n = -1 := by
 have:(List.range n).find? p=none:=by simp [List.find?_eq_none];exact h
 simp [firstAt,this]
theorem firstAt_hit {p : Nat→Bool} {n k : Nat} (hk : k < n) (h : p k=true) (h0 : ∀ i,i < k→p i=false) : firstAt p n=k := by
 have:(List.range n).find? p=some k:=by
  rw [List.find?_range_eq_some]
  exact ⟨h,List.mem_range.2 hk,fun j hj=>by simp [h0 j hj]⟩
 simp [firstAt,this]
theorem firstAt_bounds (p : Nat→Bool) (n : Nat) : -1≤firstAt p n∧firstAt p n < n := by
 unfold firstAt
 cases e:(List.range n).find? p with
 | none=>exact ⟨by simp only [];omega,by simp only [];omega⟩
 | some i =>
  have:=List.mem_range.1 (List.mem_of_find?_eq_some e)
  exact ⟨by simp only [];omega,by simp only [];omega⟩
theorem firstAt_spec {p : Nat→Bool} {n : Nat} : 0≤firstAt p n ↔ ∃ i,i < n∧p i=true := by
 constructor
 · intro h
   apply Classical.byContradiction
   intro hn
   rw [firstAt_none (p:=p) (n:=n)] at h
   · omega
   · intro i hi
     cases e:p i with
     | false=>rfl
     | true=>exact absurd ⟨i,hi,e⟩ hn
 · rintro ⟨i,hi,hp⟩
   apply Classical.byContradiction
   intro h
   unfold firstAt at h
   cases e:(List.range n).find? p with
   | none=>rw [List.find?_eq_none] at e;exact absurd hp (by simpa using e i (List.mem_range.2 hi))
   | some k=>rw [e] at h;simp only [] at h;omega
def inB (n low high : Int) : Bool := decide (low≤n∧n≤high)
def hit (g : R) (a b : Int) (i : Nat) : Bool := decide (g i 0=a∧g i 1=b ∨ g i 0=b∧g i 1=a)
def linkAt (g : R) (n : Nat) (a b : Int) : Int := firstAt (hit g a b) n
def same (s : Ss) (t : ByteArray) (i : Nat) : Bool := decide ((s i).toList=t.toList)
def nameAt (s : Ss) (n : Nat) (t : ByteArray) : Int := firstAt (same s t) n
def routerB (s : Ss) (i : Nat) : Bool := nameB (s i) && decide (nameAt s i (s i) < 0)
def linkB (g : R) (r : Nat) (i : Nat) : Bool := inB (g i 0) 0 (r - 1) && inB (g i 1) 0 (r - 1) && decide (g i 0 ≠ g i 1) && inB (g i 2) 1 100 && decide (linkAt g i (g i 0) (g i 1) < 0)
def zAt (z : List Int) (i : Nat) : Int := z[i]?.getD 0
def risesB (z : List Int) (r : Nat) (i : Nat) : Bool := inB (zAt z i) 0 (r - 1) && (decide (i=0) || decide (zAt z (i - 1) < zAt z i))
def deedB (wh d n : Int) : Bool := inB wh 0 2 && inB d 1 4 && inB n 0 (if d=2 then 1000 else 0)
def portsB (low high : Int) : Bool := decide (0≤low) && inB high low 15
def importB (g : R) (n : Nat) (x : R) (i : Nat) : Bool := decide (0≤linkAt g n (x i 0) (x i 1)) && deedB (x i 2) (x i 3) (x i 4)
def filterB (g : R) (n : Nat) (x : R) (i : Nat) : Bool := decide (0≤linkAt g n (x i 0) (x i 1)) && portsB (x i 2) (x i 3)
def routersB (s : Ss) (r : Nat) : Bool := inB r 1 4 && allN (routerB s) r
def linksB (g : R) (n r : Nat) : Bool := decide (n≤6) && allN (linkB g r) n
def risingB (z : List Int) (n r : Nat) : Bool := allN (risesB z r) n
def importsB (g : R) (n : Nat) (x : R) (m : Nat) : Bool := decide (m≤12) && allN (importB g n x) m
def filtersB (g : R) (n : Nat) (x : R) (m : Nat) : Bool := decide (m≤6) && allN (filterB g n x) m
structure NetIs (w : World) (p : Nat→Option Addr) (l : Nat→Nat) (s : Ss) (g : R) (o e : List Int) (x f : R) : Prop where
 routers:StrRow w (p 0) (l 0) s
 links:Row 3 w (p 1) (l 1) g
 origins:IntRow w (p 2) (l 2) o
 externals:IntRow w (p 3) (l 3) e
 imports:Row 5 w (p 4) (l 4) x
 filters:Row 4 w (p 5) (l 5) f
theorem NetIs.below {W w1 : World} {p : Nat→Option Addr} {l : Nat→Nat} {s : Ss} {g x f : R} {o e : List Int} (h : NetIs W p l s g o e x f) (hb : Below W.heap.size W w1) : NetIs w1 p l s g o e x f :=
 ⟨h.routers.below hb,h.links.below hb,h.origins.below hb,h.externals.below hb,h.imports.below hb,h.filters.below hb⟩
def netV (p : Nat→Option Addr) (l c : Nat→Nat) : Value := .agg #[.slice (p 0) (l 0) (c 0),.slice (p 1) (l 1) (c 1),.slice (p 2) (l 2) (c 2),.slice (p 3) (l 3) (c 3),.slice (p 4) (l 4) (c 4),.slice (p 5) (l 5) (c 5)]
def netB (l : Nat→Nat) (s : Ss) (g : R) (o e : List Int) (x f : R) : Bool :=
 routersB s (l 0) && linksB g (l 1) (l 0) && risingB o (l 2) (l 0) && risingB e (l 3) (l 0) && decide (l 3≤2) && importsB g (l 1) x (l 4) && filtersB g (l 1) f (l 5)
end Go.Proofs.YtajhklklbfnmpaaGreat.netSem
namespace Go.Proofs.YtajhklklbfnmpaaGreat.prodSem
open Go base netSem
def prod (A : Nat→List Int) : Nat→List (List Int)
 | 0=>[[]]
 | k+1=>(prod A k).flatMap fun c=>(A k).map fun v=>c ++ [v]
theorem prod_len {A : Nat→List Int} : ∀ {k : Nat} {c : List Int},c ∈ prod A k→c.length=k
 | 0,c,h=>by simp [prod] at h;rw [h];rfl
 | k+1,c,h=>by
  simp only [prod,List.mem_flatMap,List.mem_map] at h
  obtain ⟨c',hc',v,_,rfl⟩:=h
  simp [prod_len hc']
theorem prod_in {A : Nat→List Int} : ∀ {k : Nat} {c : List Int},c ∈ prod A k→∀ i,i < k→zAt c i ∈ A i
 | 0,c,h,i,hi=>absurd hi (Nat.not_lt_zero _)
 | k+1,c,h,i,hi=>by
  simp only [prod,List.mem_flatMap,List.mem_map] at h
  obtain ⟨c',hc',v,hv,rfl⟩:=h
  have hl:=prod_len hc'
  unfold zAt
  by_cases e:i=k
  · subst e
    rw [List.getElem?_append_right (by omega),hl,Nat.sub_self]
    exact hv
  · rw [List.getElem?_append_left (by omega)]
    exact prod_in hc' i (by omega)
theorem prod_size {A : Nat→List Int} {M : Nat} : ∀ k,(∀ i,i < k→(A i).length≤M)→(prod A k).length≤M ^ k
 | 0,_=>by simp [prod]
 | k+1,h=>by
  have ih:=prod_size k (fun i hi=>h i (by omega))
  have hk:=h k (by omega)
  simp only [prod]
  have key:∀ l:List (List Int),(l.flatMap fun c=>(A k).map fun v=>c ++ [v]).length=l.length * (A k).length:=by
   intro l
   induction l with
   | nil=>simp
   | cons c l ihl=>rw [List.flatMap_cons,List.length_append,ihl,List.length_map,List.length_cons,Nat.add_mul,Nat.one_mul,Nat.add_comm]
  rw [key,Nat.pow_succ]
  exact Nat.mul_le_mul ih hk
def allQ (q : Nat→Int→Bool) (c : List Int) : Bool := (List.range c.length).all fun i=>q i (zAt c i)
theorem allQ_snoc (q : Nat→Int→Bool) (c : List Int) (v : Int) : allQ q (c ++ [v])=(allQ q c && q c.length v) := by
 unfold allQ
 rw [List.length_append,List.length_singleton,List.range_succ,List.all_append]
 have h1:(List.range c.length).all (fun i=>q i (zAt (c ++ [v]) i))=(List.range c.length).all fun i=>q i (zAt c i):=by
  apply Bool.eq_iff_iff.2
  simp only [List.all_eq_true,List.mem_range]
  constructor
  · intro h i hi
    have:=h i hi
    unfold zAt at this ⊢
    rwa [List.getElem?_append_left hi] at this
  · intro h i hi
    have:=h i hi
    unfold zAt at this ⊢
    rwa [List.getElem?_append_left hi]
 rw [h1]
 congr 1
 simp [zAt]
theorem prod_filter (A : Nat→List Int) (q : Nat→Int→Bool) : ∀ k,prod (fun i=>(A i).filter (q i)) k=(prod A k).filter (allQ q)
 | 0=>rfl
 | k+1=>by
  show (prod (fun i=>(A i).filter (q i)) k).flatMap _=_
  rw [prod_filter A q k]
  have hl:∀ c ∈ (prod A k),c.length=k:=fun c hc=>prod_len hc
  have h1:(((prod A k).filter (allQ q)).flatMap fun c=>((A k).filter (q k)).map fun v=>c ++ [v])=((prod A k).flatMap fun c=>(A k).map fun v=>c ++ [v]).filter (fun c=>allQ q c):=by
   revert hl
   generalize prod A k=l
   intro hl
   induction l with
   | nil=>rfl
   | cons c l ih =>
    have ih:=ih (fun c' hc'=>hl c' (List.mem_cons_of_mem _ hc'))
    have hc:c.length=k:=hl c List.mem_cons_self
    rw [List.flatMap_cons,List.filter_append,List.filter_cons,List.filter_map]
    cases hq:allQ q c with
    | true =>
     rw [if_pos rfl,List.flatMap_cons,ih]
     congr 2
     congr 1
     funext v
     simp only [Function.comp,allQ_snoc,hq,hc,Bool.true_and]
    | false =>
     rw [if_neg (by decide),ih]
     have:(A k).filter ((fun c=>allQ q c) ∘ fun v=>c ++ [v])=[]:=List.filter_eq_nil_iff.2 fun v _=>by simp [Function.comp,allQ_snoc,hq]
     rw [this]
     rfl
  exact h1
end Go.Proofs.YtajhklklbfnmpaaGreat.prodSem
