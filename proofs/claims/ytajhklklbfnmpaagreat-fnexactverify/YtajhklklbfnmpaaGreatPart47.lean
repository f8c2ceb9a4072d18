import Derived.Test.YtajhklklbfnmpaaGreatNetWhole
import Derived.Laws.IdiomStrings
import Derived.ProofKit
import Derived.OpenShut
import Derived.ShutString
import Derived.ChangeOld
import Derived.Lib.SmallJoins
import Derived.Deep.Slices
set_option linter.unusedVariables false
namespace Go.Proofs.YtajhklklbfnmpaaGreat.netMark
open Go.RowKit Go.Deep base copy netSem netCopy netWhole intsOwn
theorem conv_byte (w : World) (H x : Nat) (z : Int) (hz : z=(x : Int)) (hx : x < 256) (hc : w.cell? ⟨H,0,none⟩=some (.int .u8 z)) :
  (convert 175 9 (.slice (some ⟨H,0,none⟩) 1 1)).run Tryz.prog w=.ok (.string ⟨#[UInt8.ofNat x]⟩) w:=by
 have h:=run_convert_bytes_back (P:=Tryz.prog) w 175 9 5 ⟨H,0,none⟩ 1 [UInt8.ofNat x] Tryz.underlying175 Tryz.underlying5 Tryz.underlying9 (fun j hj=>by
  have hj0:j=0:=by simpa using hj
  subst hj0
  have e:(⟨H,0,none⟩:Addr).add 0=⟨H,0,none⟩:=by simp [Addr.add]
  rw [e,hc,hz]
  simp [UInt8.toNat_ofNat',Nat.mod_eq_of_lt hx])
 exact h
set_option maxHeartbeats 800000 in
set_option maxRecDepth 8000 in
theorem mark_text (n : Nat) (w : World) (hn : n < 1000000000) :
  Calls Tryz.prog 66 #[.int .i64 n] w fun e w'=>∃ t,e=.returned (.string t)∧Below w.heap.size w w' := by
 by_cases h0:n=0
 · have d0:decide (n=0)=true:=decide_eq_true h0
   have d1:decide ((n:Int)≤0)=true:=decide_eq_true (by omega)
   go_enter Tryz.func66,Tryz.ntmps66
   go_wp2
   go_ret
   exact ⟨_,rfl,Below.refl _ _⟩
 · have d0:decide (n=0)=false:=decide_eq_false h0
   have d1:decide ((n:Int)≤0)=false:=decide_eq_false (by omega)
   go_enter Tryz.func66,Tryz.ntmps66
   go_wp2
   go_loopw [0,3] (fun k t wr=>∃ (m j:Nat) (s:ByteArray),k=.int .i64 m∧t=.string s∧m < 10 ^ j∧s.size+j≤20∧m < 1000000000∧Below w.heap.size w wr) (fun k _ _=>(intOf k).toNat)
   case atStart=>exact ⟨n,9,ByteArray.empty,rfl,rfl,by omega,by decide,hn,Below.refl _ _⟩
   case round =>
    obtain ⟨m,j,s,rfl,rfl,hj,hs,hm,hbel⟩:=hrel
    have HB:=hid hbel
    clear hbel
    by_cases hm0:m=0
    · have e0:decide (0 < m)=false:=decide_eq_false (by omega)
      have hls:¬ (9223372036854775807 < (⟨#[109]⟩:ByteArray).size+s.size):=by have:(⟨#[109]⟩:ByteArray).size=1:=rfl;omega
      clear hj hm0
      go_wp2
      go_ret
      exact ⟨_,rfl,HB.out⟩
    · have e0:decide (0 < m)=true:=decide_eq_true (by omega)
      obtain ⟨i,rfl⟩:∃ i,j=i+1:=⟨j - 1,by
       rcases Nat.eq_zero_or_pos j with h | h
       · subst h;simp at hj;omega
       · omega⟩
      have hmod:(0:Int)≤(m:Int) % 10∧(m:Int) % 10 < 10:=by omega
      have hconv:=conv_byte (wr.alloc (.cells #[.int .u8 (48+(m:Int) % 10)] 5)) wr.heap.size (48+m % 10) (48+(m:Int) % 10) (by omega) (by omega) (by simp [go_sem])
      obtain ⟨b,hb⟩:∃ b:ByteArray,⟨#[UInt8.ofNat (48+m % 10)]⟩=b:=⟨_,rfl⟩
      have hb1:b.size=1:=by rw [← hb];rfl
      rw [hb] at hconv
      have hls:¬ (9223372036854775807 < b.size+s.size):=by omega
      have HJ:=hid (show m / 10 < 10 ^ i by rw [Nat.pow_succ] at hj;omega)
      have HM:=hid (show m / 10 < m by omega)
      have HE:=hid (show ((m:Int) / 10)=((m / 10:Nat):Int) by omega)
      clear hb hj hm0
      go_wp2
      go_roundw
      case rel=>exact ⟨m / 10,i,b ++ s,by first | rfl | (rw [HE.out]) | (simp [HE.out]),rfl,HJ.out,by rw [ByteArray.size_append];omega,by have:=HM.out;omega,HB.out.trans ((show Below wr.heap.size wr _ from Bl).mono HB.out.size)⟩
      case measure =>
       have:=HM.out
       simp [intOf];omega
set_option maxHeartbeats 1600000 in
theorem mark_int (N len : Nat) (n : Int) (w : World) (h : ∃ f,w.rowIs N 3 (len * 1) f) (hn0 : 0≤n) (hn : n≤100000000) (hl : len≤1048576) :
  Calls Tryz.prog 38 #[.slice (some ⟨N,0,none⟩) len len,.int .i64 n] w fun e w'=>e=.returned (.int .i64 (n+1 * len))∧w.grownBy w' (some N):=by
 rw [Nat.mul_one] at h
 have HO:=hid h
 clear h
 go_enter Tryz.func38,Tryz.ntmps38
 go_wp2
 go_loopw [5,1] (fun i t wr=>∃ k:Nat,k≤len∧i=.int .i64 k∧t=.int .i64 (n+1 * k)∧w.grownBy wr (some N)∧∃ f,wr.rowIs N 3 (len) f) (fun i _ _=>len - (intOf i).toNat)
 case atStart=>exact ⟨0,Nat.zero_le _,rfl,by simp,grown_refl _ _,HO.out⟩
 case round =>
  obtain ⟨k,hk,rfl,rfl,hot,f,hf⟩:=hrel
  have HT:=hid hot
  have HF:=hid hf
  clear hot
  by_cases hlt:k < len
  · skip
    have g0:=hf.cell (i:=k) (by omega)
    have z0:=hf.frozen k
    clear hf
    go_wp2
    go_roundw
    case rel=>exact ⟨k+1,by omega,by go_num,by congr 1;omega,grown_set (HT.out),_,(HF.out.set (k) _)⟩
    case measure=>simp [intOf];omega
  · have e:k=len:=by omega
    subst e
    clear hf
    go_wp2
    go_ret
    exact ⟨rfl,HT.out⟩
set_option maxHeartbeats 1600000 in
theorem mark_link (N len : Nat) (n : Int) (w : World) (h : ∃ f,w.rowIs N 110 (len * 3) f) (hn0 : 0≤n) (hn : n≤100000000) (hl : len≤1048576) :
  Calls Tryz.prog 37 #[.slice (some ⟨N,0,none⟩) len len,.int .i64 n] w fun e w'=>e=.returned (.int .i64 (n+3 * len))∧w.grownBy w' (some N):=by
 have HO:=hid h
 clear h
 go_enter Tryz.func37,Tryz.ntmps37
 go_wp2
 go_loopw [5,1] (fun i t wr=>∃ k:Nat,k≤len∧i=.int .i64 k∧t=.int .i64 (n+3 * k)∧w.grownBy wr (some N)∧∃ f,wr.rowIs N 110 (len * 3) f) (fun i _ _=>len - (intOf i).toNat)
 case atStart=>exact ⟨0,Nat.zero_le _,rfl,by simp,grown_refl _ _,HO.out⟩
 case round =>
  obtain ⟨k,hk,rfl,rfl,hot,f,hf⟩:=hrel
  have HT:=hid hot
  have HF:=hid hf
  clear hot
  by_cases hlt:k < len
  · skip
    have g0:=hf.cell (i:=k * 3) (by omega)
    have z0:=hf.frozen (k * 3)
    have g1:=hf.cell (i:=k * 3+1) (by omega)
    have z1:=hf.frozen (k * 3+1)
    have g2:=hf.cell (i:=k * 3+2) (by omega)
    have z2:=hf.frozen (k * 3+2)
    clear hf
    go_wp2
    go_roundw
    case rel=>exact ⟨k+1,by omega,by go_num,by congr 1;omega,grown_set (grown_set (grown_set (HT.out))),_,(((HF.out.set (k * 3) _).set (k * 3+1) _).set (k * 3+2) _)⟩
    case measure=>simp [intOf];omega
  · have e:k=len:=by omega
    subst e
    clear hf
    go_wp2
    go_ret
    exact ⟨rfl,HT.out⟩
set_option maxHeartbeats 1600000 in
theorem mark_import (N len : Nat) (n : Int) (w : World) (h : ∃ f,w.rowIs N 114 (len * 5) f) (hn0 : 0≤n) (hn : n≤100000000) (hl : len≤1048576) :
  Calls Tryz.prog 39 #[.slice (some ⟨N,0,none⟩) len len,.int .i64 n] w fun e w'=>e=.returned (.int .i64 (n+5 * len))∧w.grownBy w' (some N):=by
 have HO:=hid h
 clear h
 go_enter Tryz.func39,Tryz.ntmps39
 go_wp2
 go_loopw [5,1] (fun i t wr=>∃ k:Nat,k≤len∧i=.int .i64 k∧t=.int .i64 (n+5 * k)∧w.grownBy wr (some N)∧∃ f,wr.rowIs N 114 (len * 5) f) (fun i _ _=>len - (intOf i).toNat)
 case atStart=>exact ⟨0,Nat.zero_le _,rfl,by simp,grown_refl _ _,HO.out⟩
 case round =>
  obtain ⟨k,hk,rfl,rfl,hot,f,hf⟩:=hrel
  have HT:=hid hot
  have HF:=hid hf
  clear hot
  by_cases hlt:k < len
  · skip
    have g0:=hf.cell (i:=k * 5) (by omega)
    have z0:=hf.frozen (k * 5)
    have g1:=hf.cell (i:=k * 5+1) (by omega)
    have z1:=hf.frozen (k * 5+1)
    have g2:=hf.cell (i:=k * 5+2) (by omega)
    have z2:=hf.frozen (k * 5+2)
    have g3:=hf.cell (i:=k * 5+3) (by omega)
    have z3:=hf.frozen (k * 5+3)
    have g4:=hf.cell (i:=k * 5+4) (by omega)
    have z4:=hf.frozen (k * 5+4)
    clear hf
    go_wp2
    go_roundw
    case rel=>exact ⟨k+1,by omega,by go_num,by congr 1;omega,grown_set (grown_set (grown_set (grown_set (grown_set (HT.out))))),_,(((((HF.out.set (k * 5) _).set (k * 5+1) _).set (k * 5+2) _).set (k * 5+3) _).set (k * 5+4) _)⟩
    case measure=>simp [intOf];omega
  · have e:k=len:=by omega
    subst e
    clear hf
    go_wp2
    go_ret
    exact ⟨rfl,HT.out⟩
set_option maxHeartbeats 1600000 in
theorem mark_filter (N len : Nat) (n : Int) (w : World) (h : ∃ f,w.rowIs N 118 (len * 4) f) (hn0 : 0≤n) (hn : n≤100000000) (hl : len≤1048576) :
  Calls Tryz.prog 40 #[.slice (some ⟨N,0,none⟩) len len,.int .i64 n] w fun e w'=>e=.returned (.int .i64 (n+4 * len))∧w.grownBy w' (some N):=by
 have HO:=hid h
 clear h
 go_enter Tryz.func40,Tryz.ntmps40
 go_wp2
 go_loopw [5,1] (fun i t wr=>∃ k:Nat,k≤len∧i=.int .i64 k∧t=.int .i64 (n+4 * k)∧w.grownBy wr (some N)∧∃ f,wr.rowIs N 118 (len * 4) f) (fun i _ _=>len - (intOf i).toNat)
 case atStart=>exact ⟨0,Nat.zero_le _,rfl,by simp,grown_refl _ _,HO.out⟩
 case round =>
  obtain ⟨k,hk,rfl,rfl,hot,f,hf⟩:=hrel
  have HT:=hid hot
  have HF:=hid hf
  clear hot
  by_cases hlt:k < len
  · skip
    have g0:=hf.cell (i:=k * 4) (by omega)
    have z0:=hf.frozen (k * 4)
    have g1:=hf.cell (i:=k * 4+1) (by omega)
    have z1:=hf.frozen (k * 4+1)
    have g2:=hf.cell (i:=k * 4+2) (by omega)
    have z2:=hf.frozen (k * 4+2)
    have g3:=hf.cell (i:=k * 4+3) (by omega)
    have z3:=hf.frozen (k * 4+3)
    clear hf
    go_wp2
    go_roundw
    case rel=>exact ⟨k+1,by omega,by go_num,by congr 1;omega,grown_set (grown_set (grown_set (grown_set (HT.out)))),_,((((HF.out.set (k * 4) _).set (k * 4+1) _).set (k * 4+2) _).set (k * 4+3) _)⟩
    case measure=>simp [intOf];omega
  · have e:k=len:=by omega
    subst e
    clear hf
    go_wp2
    go_ret
    exact ⟨rfl,HT.out⟩
set_option maxHeartbeats 1600000 in
theorem mark_str (N len : Nat) (n : Int) (w : World) (h : ∃ f,w.rowIs N 9 len f) (hn0 : 0≤n) (hn : n≤100000000) (hl : len≤1048576) :
  Calls Tryz.prog 36 #[.slice (some ⟨N,0,none⟩) len len,.int .i64 n] w fun e w'=>e=.returned (.int .i64 (n+len))∧w.grownBy w' (some N):=by
 have HO:=hid h
 clear h
 go_enter Tryz.func36,Tryz.ntmps36
 go_wp2
 go_loopw [5,1] (fun i t wr=>∃ k:Nat,k≤len∧i=.int .i64 k∧t=.int .i64 (n+k)∧w.grownBy wr (some N)∧∃ f,wr.rowIs N 9 len f) (fun i _ _=>len - (intOf i).toNat)
 case atStart=>exact ⟨0,Nat.zero_le _,rfl,by simp,grown_refl _ _,HO.out⟩
 case round =>
  obtain ⟨k,hk,rfl,rfl,hot,f,hf⟩:=hrel
  have HT:=hid hot
  have HF:=hid hf
  clear hot hf
  by_cases hlt:k < len
  · obtain ⟨q,hq⟩:∃ q:Nat,n+(k:Int)=(q:Int):=⟨(n+k).toNat,by omega⟩
    have HQ:=hid hq
    rw [hq]
    clear hq
    go_wp2_with fail
    refine (mark_text q _ (by have:=HQ.out;omega)).mono ?_
    rintro e w1 ⟨t,rfl,hb1⟩
    have hf1:=HF.out.of_block (hb1.block _ HF.out.lt)
    have g0:=hf1.cell (i:=k) (by omega)
    have z0:=hf1.frozen k
    have HF1:=hid hf1
    have HT1:Hid (w.grownBy w1 (some N)):=⟨hb1.os.trans HT.out.os,hb1.tape.trans HT.out.tape,hb1.output.trans HT.out.output,Nat.le_trans HT.out.size hb1.size,fun j hj hne=>(hb1.block j (Nat.lt_of_lt_of_le hj HT.out.size)).trans (HT.out.block j hj hne)⟩
    have hq2:(q:Int)≤200000000:=by have:=HQ.out;omega
    clear hb1 hf1
    go_wp2
    go_roundw
    case rel=>exact ⟨k+1,by omega,by go_num,by congr 1;have:=HQ.out;omega,grown_set HT1.out,_,HF1.out.set k _⟩
    case measure=>simp [intOf];omega
  · have e:k=len:=by omega
    subst e
    go_wp2
    go_ret
    exact ⟨rfl,HT.out⟩
structure Ch (Q : Nat→Prop) (w w' : World) : Prop where
 os:w'.os=w.os
 tape:w'.tape=w.tape
 output:w'.output=w.output
 size:w.heap.size≤w'.heap.size
 block:∀ k,k < w.heap.size→¬ Q k→w'.heap[k]? = w.heap[k]?
theorem Ch.trans {Q : Nat→Prop} {x y z : World} (h : Ch Q x y) (k : Ch Q y z) : Ch Q x z :=
 ⟨k.os.trans h.os,k.tape.trans h.tape,k.output.trans h.output,Nat.le_trans h.size k.size,fun i hi hn=>(k.block i (Nat.lt_of_lt_of_le hi h.size) hn).trans (h.block i hi hn)⟩
theorem Ch.of_grown {Q : Nat→Prop} {w w' : World} {g : Nat} (h : w.grownBy w' (some g)) (hg : Q g) : Ch Q w w' := ⟨h.os,h.tape,h.output,h.size,fun k hk hn=>h.block k hk (fun e=>hn (by injection e with e;rw [e];exact hg))⟩
theorem Ch.of_below {Q : Nat→Prop} {w w' : World} (h : Below w.heap.size w w') : Ch Q w w' := ⟨h.os,h.tape,h.output,h.size,fun k hk _=>h.block k hk⟩
theorem Ch.below {Q : Nat→Prop} {w x y : World} (h : Below w.heap.size w x) (k : Ch Q x y) (hQ : ∀ b,Q b→w.heap.size≤b) : Below w.heap.size w y :=
 ⟨k.os.trans h.os,k.tape.trans h.tape,k.output.trans h.output,Nat.le_trans h.size k.size,fun i hi=>(k.block i (Nat.lt_of_lt_of_le hi h.size) (fun hq=>by have:=hQ i hq;omega)).trans (h.block i hi)⟩
theorem Ch.cell {Q : Nat→Prop} {w w' : World} (h : Ch Q w w') {b o : Nat} {v : Value} (hc : w.cell? ⟨b,o,none⟩=some v) (hb : ¬ Q b) : w'.cell? ⟨b,o,none⟩=some v := by
 rw [World.cell?_of_block (a:=⟨b,o,none⟩) (h.block b (World.block_lt_of_cell? _ _ hc) hb)];exact hc
def Ns (N : Nat→Nat) (b : Nat) : Prop := ∃ i,i < 6∧b=N i
end Go.Proofs.YtajhklklbfnmpaaGreat.netMark
namespace Go.Proofs.YtajhklklbfnmpaaGreat.netMark
open Go.RowKit Go.Deep base copy netSem netCopy netWhole intsOwn
set_option maxHeartbeats 1600000 in
theorem mark_net (B : Nat) (N l : Nat→Nat) (s : Ss) (g : R) (o e : List Int) (x f : R) (w : World) (h : Copied B w N l s g o e x f) (hl : ∀ i,i < 6→l i≤1048576) :
  Calls Tryz.prog 11 #[netV (fun i=>some ⟨N i,0,none⟩) l l,.int .i64 1] w fun e' w'=>∃ r:Int,e' = .returned (.int .i64 r)∧1≤r∧r≤20000000∧Ch (Ns N) w w' := by
 have l0:=hl 0 (by decide)
 have l1:=hl 1 (by decide)
 have l2:=hl 2 (by decide)
 have l3:=hl 3 (by decide)
 have l4:=hl 4 (by decide)
 have l5:=hl 5 (by decide)
 obtain ⟨u0,u1,u2,u3,u4⟩:=h.up
 have u5:=h.lt
 have U:=hid (And.intro u0 (And.intro u1 (And.intro u2 (And.intro u3 (And.intro u4 u5)))))
 clear u0 u1 u2 u3 u4 u5
 have HN:=hid h
 clear h hl
 have BW:Hid (Below w.heap.size w (w.alloc (.cells #[.slice (some ⟨N 0,0,none⟩) (l 0) (l 0),.slice (some ⟨N 1,0,none⟩) (l 1) (l 1),.slice (some ⟨N 2,0,none⟩) (l 2) (l 2),.slice (some ⟨N 3,0,none⟩) (l 3) (l 3),.slice (some ⟨N 4,0,none⟩) (l 4) (l 4),.slice (some ⟨N 5,0,none⟩) (l 5) (l 5)] 41))):=Bl
 have CW:Hid (Ch (Ns N) w (w.alloc (.cells #[.slice (some ⟨N 0,0,none⟩) (l 0) (l 0),.slice (some ⟨N 1,0,none⟩) (l 1) (l 1),.slice (some ⟨N 2,0,none⟩) (l 2) (l 2),.slice (some ⟨N 3,0,none⟩) (l 3) (l 3),.slice (some ⟨N 4,0,none⟩) (l 4) (l 4),.slice (some ⟨N 5,0,none⟩) (l 5) (l 5)] 41))):=Ch.of_below BW.out
 have hnw:¬ Ns N w.heap.size:=by rintro ⟨i,hi,e⟩;have:=U.out;match i,hi with
  | 0,_=>omega
  | 1,_=>omega
  | 2,_=>omega
  | 3,_=>omega
  | 4,_=>omega
  | 5,_=>omega
  | i+6,hi=>omega
 have HNW:=hid hnw
 clear hnw
 have X0:Hid (∃ f,(w.alloc (.cells #[.slice (some ⟨N 0,0,none⟩) (l 0) (l 0),.slice (some ⟨N 1,0,none⟩) (l 1) (l 1),.slice (some ⟨N 2,0,none⟩) (l 2) (l 2),.slice (some ⟨N 3,0,none⟩) (l 3) (l 3),.slice (some ⟨N 4,0,none⟩) (l 4) (l 4),.slice (some ⟨N 5,0,none⟩) (l 5) (l 5)] 41)).rowIs (N 0) 9 (l 0) f):=by
  obtain ⟨f,hf,-⟩:=(HN.out.routers.below BW.out).row
  exact ⟨f,hf⟩
 have X1:Hid (∃ f,(w.alloc (.cells #[.slice (some ⟨N 0,0,none⟩) (l 0) (l 0),.slice (some ⟨N 1,0,none⟩) (l 1) (l 1),.slice (some ⟨N 2,0,none⟩) (l 2) (l 2),.slice (some ⟨N 3,0,none⟩) (l 3) (l 3),.slice (some ⟨N 4,0,none⟩) (l 4) (l 4),.slice (some ⟨N 5,0,none⟩) (l 5) (l 5)] 41)).rowIs (N 1) 110 (l 1 * 3) f):=by
  obtain ⟨f,hf,-⟩:=(HN.out.links.below BW.out).row
  exact ⟨f,hf⟩
 have X2:Hid (∃ f,(w.alloc (.cells #[.slice (some ⟨N 0,0,none⟩) (l 0) (l 0),.slice (some ⟨N 1,0,none⟩) (l 1) (l 1),.slice (some ⟨N 2,0,none⟩) (l 2) (l 2),.slice (some ⟨N 3,0,none⟩) (l 3) (l 3),.slice (some ⟨N 4,0,none⟩) (l 4) (l 4),.slice (some ⟨N 5,0,none⟩) (l 5) (l 5)] 41)).rowIs (N 2) 3 (l 2 * 1) f):=by
  show ∃ f,_
  rw [Nat.mul_one]
  exact ⟨_,HN.out.origins.of_block (BW.out.block _ HN.out.origins.lt)⟩
 have X3:Hid (∃ f,(w.alloc (.cells #[.slice (some ⟨N 0,0,none⟩) (l 0) (l 0),.slice (some ⟨N 1,0,none⟩) (l 1) (l 1),.slice (some ⟨N 2,0,none⟩) (l 2) (l 2),.slice (some ⟨N 3,0,none⟩) (l 3) (l 3),.slice (some ⟨N 4,0,none⟩) (l 4) (l 4),.slice (some ⟨N 5,0,none⟩) (l 5) (l 5)] 41)).rowIs (N 3) 3 (l 3 * 1) f):=by
  show ∃ f,_
  rw [Nat.mul_one]
  exact ⟨_,HN.out.externals.of_block (BW.out.block _ HN.out.externals.lt)⟩
 have X4:Hid (∃ f,(w.alloc (.cells #[.slice (some ⟨N 0,0,none⟩) (l 0) (l 0),.slice (some ⟨N 1,0,none⟩) (l 1) (l 1),.slice (some ⟨N 2,0,none⟩) (l 2) (l 2),.slice (some ⟨N 3,0,none⟩) (l 3) (l 3),.slice (some ⟨N 4,0,none⟩) (l 4) (l 4),.slice (some ⟨N 5,0,none⟩) (l 5) (l 5)] 41)).rowIs (N 4) 114 (l 4 * 5) f):=by
  obtain ⟨f,hf,-⟩:=(HN.out.imports.below BW.out).row
  exact ⟨f,hf⟩
 have X5:Hid (∃ f,(w.alloc (.cells #[.slice (some ⟨N 0,0,none⟩) (l 0) (l 0),.slice (some ⟨N 1,0,none⟩) (l 1) (l 1),.slice (some ⟨N 2,0,none⟩) (l 2) (l 2),.slice (some ⟨N 3,0,none⟩) (l 3) (l 3),.slice (some ⟨N 4,0,none⟩) (l 4) (l 4),.slice (some ⟨N 5,0,none⟩) (l 5) (l 5)] 41)).rowIs (N 5) 118 (l 5 * 4) f):=by
  obtain ⟨f,hf,-⟩:=(HN.out.filters.below BW.out).row
  exact ⟨f,hf⟩
 rw [show netV (fun i=>some ⟨N i,0,none⟩) l l=.agg #[.slice (some ⟨N 0,0,none⟩) (l 0) (l 0),.slice (some ⟨N 1,0,none⟩) (l 1) (l 1),.slice (some ⟨N 2,0,none⟩) (l 2) (l 2),.slice (some ⟨N 3,0,none⟩) (l 3) (l 3),.slice (some ⟨N 4,0,none⟩) (l 4) (l 4),.slice (some ⟨N 5,0,none⟩) (l 5) (l 5)] from rfl]
 go_enter Tryz.func11,Tryz.ntmps11
 go_wp2_with fail
 refine (mark_str (N 0) (l 0) ((1:Int)) _ X0.out (by omega) (by omega) l0).mono ?_
 rintro e' w1 ⟨rfl,hg⟩
 have CW:=hid (CW.out.trans (Ch.of_grown (Q:=Ns N) hg ⟨0,by decide,rfl⟩))
 have X1:Hid (∃ f,w1.rowIs (N 1) 110 (l 1 * 3) f):=by
  obtain ⟨f,hf⟩:=X1.out
  exact ⟨f,hf.of_block (hg.block _ hf.lt (by have:=U.out;intro e;injection e with e;omega))⟩
 have X2:Hid (∃ f,w1.rowIs (N 2) 3 (l 2 * 1) f):=by
  obtain ⟨f,hf⟩:=X2.out
  exact ⟨f,hf.of_block (hg.block _ hf.lt (by have:=U.out;intro e;injection e with e;omega))⟩
 have X3:Hid (∃ f,w1.rowIs (N 3) 3 (l 3 * 1) f):=by
  obtain ⟨f,hf⟩:=X3.out
  exact ⟨f,hf.of_block (hg.block _ hf.lt (by have:=U.out;intro e;injection e with e;omega))⟩
 have X4:Hid (∃ f,w1.rowIs (N 4) 114 (l 4 * 5) f):=by
  obtain ⟨f,hf⟩:=X4.out
  exact ⟨f,hf.of_block (hg.block _ hf.lt (by have:=U.out;intro e;injection e with e;omega))⟩
 have X5:Hid (∃ f,w1.rowIs (N 5) 118 (l 5 * 4) f):=by
  obtain ⟨f,hf⟩:=X5.out
  exact ⟨f,hf.of_block (hg.block _ hf.lt (by have:=U.out;intro e;injection e with e;omega))⟩
 have CB:Hid (Ch (Ns N) (w.alloc (.cells #[.slice (some ⟨N 0,0,none⟩) (l 0) (l 0),.slice (some ⟨N 1,0,none⟩) (l 1) (l 1),.slice (some ⟨N 2,0,none⟩) (l 2) (l 2),.slice (some ⟨N 3,0,none⟩) (l 3) (l 3),.slice (some ⟨N 4,0,none⟩) (l 4) (l 4),.slice (some ⟨N 5,0,none⟩) (l 5) (l 5)] 41)) w1):=Ch.of_grown (Q:=Ns N) hg ⟨0,by decide,rfl⟩
 have fb:w1.cell? ⟨w.heap.size,1,none⟩=some (.slice (some ⟨N 1,0,none⟩) (l 1) (l 1)):=CB.out.cell (by simp [go_sem]) HNW.out
 clear hg
 go_wp2_with fail
 refine (mark_link (N 1) (l 1) ((1:Int)+(l 0:Int)) _ X1.out (by omega) (by omega) l1).mono ?_
 rintro e' w2 ⟨rfl,hg⟩
 have CW:=hid (CW.out.trans (Ch.of_grown (Q:=Ns N) hg ⟨1,by decide,rfl⟩))
 have X2:Hid (∃ f,w2.rowIs (N 2) 3 (l 2 * 1) f):=by
  obtain ⟨f,hf⟩:=X2.out
  exact ⟨f,hf.of_block (hg.block _ hf.lt (by have:=U.out;intro e;injection e with e;omega))⟩
 have X3:Hid (∃ f,w2.rowIs (N 3) 3 (l 3 * 1) f):=by
  obtain ⟨f,hf⟩:=X3.out
  exact ⟨f,hf.of_block (hg.block _ hf.lt (by have:=U.out;intro e;injection e with e;omega))⟩
 have X4:Hid (∃ f,w2.rowIs (N 4) 114 (l 4 * 5) f):=by
  obtain ⟨f,hf⟩:=X4.out
  exact ⟨f,hf.of_block (hg.block _ hf.lt (by have:=U.out;intro e;injection e with e;omega))⟩
 have X5:Hid (∃ f,w2.rowIs (N 5) 118 (l 5 * 4) f):=by
  obtain ⟨f,hf⟩:=X5.out
  exact ⟨f,hf.of_block (hg.block _ hf.lt (by have:=U.out;intro e;injection e with e;omega))⟩
 have CB:=hid (CB.out.trans (Ch.of_grown (Q:=Ns N) hg ⟨1,by decide,rfl⟩))
 clear fb
 have fb:w2.cell? ⟨w.heap.size,2,none⟩=some (.slice (some ⟨N 2,0,none⟩) (l 2) (l 2)):=CB.out.cell (by simp [go_sem]) HNW.out
 clear hg
 go_wp2_with fail
 refine (mark_int (N 2) (l 2) ((1:Int)+(l 0:Int)+3 * (l 1:Int)) _ X2.out (by omega) (by omega) l2).mono ?_
 rintro e' w3 ⟨rfl,hg⟩
 have CW:=hid (CW.out.trans (Ch.of_grown (Q:=Ns N) hg ⟨2,by decide,rfl⟩))
 have X3:Hid (∃ f,w3.rowIs (N 3) 3 (l 3 * 1) f):=by
  obtain ⟨f,hf⟩:=X3.out
  exact ⟨f,hf.of_block (hg.block _ hf.lt (by have:=U.out;intro e;injection e with e;omega))⟩
 have X4:Hid (∃ f,w3.rowIs (N 4) 114 (l 4 * 5) f):=by
  obtain ⟨f,hf⟩:=X4.out
  exact ⟨f,hf.of_block (hg.block _ hf.lt (by have:=U.out;intro e;injection e with e;omega))⟩
 have X5:Hid (∃ f,w3.rowIs (N 5) 118 (l 5 * 4) f):=by
  obtain ⟨f,hf⟩:=X5.out
  exact ⟨f,hf.of_block (hg.block _ hf.lt (by have:=U.out;intro e;injection e with e;omega))⟩
 have CB:=hid (CB.out.trans (Ch.of_grown (Q:=Ns N) hg ⟨2,by decide,rfl⟩))
 clear fb
 have fb:w3.cell? ⟨w.heap.size,3,none⟩=some (.slice (some ⟨N 3,0,none⟩) (l 3) (l 3)):=CB.out.cell (by simp [go_sem]) HNW.out
 clear hg
 go_wp2_with fail
 refine (mark_int (N 3) (l 3) ((1:Int)+(l 0:Int)+3 * (l 1:Int)+(l 2:Int)) _ X3.out (by omega) (by omega) l3).mono ?_
 rintro e' w4 ⟨rfl,hg⟩
 have CW:=hid (CW.out.trans (Ch.of_grown (Q:=Ns N) hg ⟨3,by decide,rfl⟩))
 have X4:Hid (∃ f,w4.rowIs (N 4) 114 (l 4 * 5) f):=by
  obtain ⟨f,hf⟩:=X4.out
  exact ⟨f,hf.of_block (hg.block _ hf.lt (by have:=U.out;intro e;injection e with e;omega))⟩
 have X5:Hid (∃ f,w4.rowIs (N 5) 118 (l 5 * 4) f):=by
  obtain ⟨f,hf⟩:=X5.out
  exact ⟨f,hf.of_block (hg.block _ hf.lt (by have:=U.out;intro e;injection e with e;omega))⟩
 have CB:=hid (CB.out.trans (Ch.of_grown (Q:=Ns N) hg ⟨3,by decide,rfl⟩))
 clear fb
 have fb:w4.cell? ⟨w.heap.size,4,none⟩=some (.slice (some ⟨N 4,0,none⟩) (l 4) (l 4)):=CB.out.cell (by simp [go_sem]) HNW.out
 clear hg
 go_wp2_with fail
 refine (mark_import (N 4) (l 4) ((1:Int)+(l 0:Int)+3 * (l 1:Int)+(l 2:Int)+(l 3:Int)) _ X4.out (by omega) (by omega) l4).mono ?_
 rintro e' w5 ⟨rfl,hg⟩
 have CW:=hid (CW.out.trans (Ch.of_grown (Q:=Ns N) hg ⟨4,by decide,rfl⟩))
 have X5:Hid (∃ f,w5.rowIs (N 5) 118 (l 5 * 4) f):=by
  obtain ⟨f,hf⟩:=X5.out
  exact ⟨f,hf.of_block (hg.block _ hf.lt (by have:=U.out;intro e;injection e with e;omega))⟩
 have CB:=hid (CB.out.trans (Ch.of_grown (Q:=Ns N) hg ⟨4,by decide,rfl⟩))
 clear fb
 have fb:w5.cell? ⟨w.heap.size,5,none⟩=some (.slice (some ⟨N 5,0,none⟩) (l 5) (l 5)):=CB.out.cell (by simp [go_sem]) HNW.out
 clear hg
 go_wp2_with fail
 refine (mark_filter (N 5) (l 5) ((1:Int)+(l 0:Int)+3 * (l 1:Int)+(l 2:Int)+(l 3:Int)+5 * (l 4:Int)) _ X5.out (by omega) (by omega) l5).mono ?_
 rintro e' w6 ⟨rfl,hg⟩
 have CW:=hid (CW.out.trans (Ch.of_grown (Q:=Ns N) hg ⟨5,by decide,rfl⟩))
 have CB:=hid (CB.out.trans (Ch.of_grown (Q:=Ns N) hg ⟨5,by decide,rfl⟩))
 clear hg
 go_wp2
 go_ret
 exact ⟨_,rfl,by omega,by omega,CW.out⟩
end Go.Proofs.YtajhklklbfnmpaaGreat.netMark
namespace Go.Proofs.YtajhklklbfnmpaaGreat.args
open Go.ChangeShapes Go.WideShapes Go.ChangeAt Go.RowKit Go.Deep Go.Joins base
variable {H : Type} {enc : TypeId × Value→H} {P : Program} {w : World} {base : Nat} {held : Bool}
theorem getD_take {α : Type} {zs : List α} {d : α} {n i : Nat} (h : i < n) : (zs.take n)[i]?.getD d=zs[i]?.getD d := by
 rw [List.getElem?_take,if_pos h]
theorem at_none {x : Addr} {i : Nat} {v v0 : Value} (h0 : w.cell? (x.add 0)=some v0) (h : w.cell? (x.add i)=some v) : x=⟨x.block,x.off,none⟩∧w.cell? ⟨x.block,x.off+i,none⟩=some v := by
 have hs:=World.cell?_spot h0
 obtain ⟨b,o,s⟩:=x
 have hs':s=none:=by simpa [Addr.add] using hs
 subst hs'
 refine ⟨rfl,?_⟩
 by_cases e:i=0
 · subst e;simpa [Addr.add] using h
 · simpa [Addr.add,e] using h
theorem int_of_trod {e : TypeId} {k : IntKind} {fuel : Nat} {v : Value} {x : DataW H × List MemPlace} (he : P.underlying e=some (.int k)) (h : DataW.trod enc P w base (fun _=>true) held fuel e [v]=some x) :
  ∃ n,v=.int k n∧(Lit.int k n).wf=true:=by
 obtain ⟨n,e0,_,hw⟩:=DataW.trod_int he h
 exact ⟨n,by simpa using e0,hw⟩
theorem row_of_trod {t e : TypeId} {fuel : Nat} {v : Value} {x : DataW H × List MemPlace} (ht : P.underlying t=some (.slice e)) (he : P.underlying e=some (.int .i64)) (ce : P.cellsOf e=1)
  (h:DataW.trod enc P w base (fun _=>true) held fuel t [v]=some x):∃ a len cap zs,v=.slice a len cap∧IntRow w a len zs∧∀ n ∈ zs,(Lit.int .i64 n).wf=true:=by
 rcases open_ints ht he ce h with ⟨hcs,_⟩ | ⟨x,l,c,zs,hcs,_,hl,hm,hz,_,hcell,hwz⟩
 · exact ⟨none,0,0,[],by simpa using hcs,⟨rfl,Nat.zero_le _,fun i hi=>absurd hi (Nat.not_lt_zero _)⟩,by simp⟩
 · simp only [if_true] at hz
   refine ⟨some x,l,c,zs.take l,by simpa using hcs,⟨by simp [hz,hl],Nat.le_trans hl hm,fun i hi=>?_⟩,fun n hn=>hwz n (List.mem_of_mem_take hn)⟩
   obtain ⟨e1,e2⟩:=at_none (hcell 0 (by omega)) (hcell i (by omega))
   exact ⟨x.block,x.off,by rw [← e1],by rw [e2,getD_take hi,List.getD_eq_getElem?_getD]⟩
end Go.Proofs.YtajhklklbfnmpaaGreat.args
