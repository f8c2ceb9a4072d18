import Derived.Test.YthompjbplddkgaaGreatDoorPart9
import Derived.Lib.ItoaNum
import Derived.Laws.IdiomStrings
namespace Go.Proofs.YthompjbplddkgaaGreatDoor.digits
open Go.RowKit Go.Deep base heldStore
theorem ret_str {a b:ByteArray} (h:a=b):Ending.returned (.string a)=.returned (.string b):=by rw [h]
theorem dec_small {u:Nat} (h:u<10):Lib.decDigits u=[UInt8.ofNat (48+u)]:=by rw [Lib.decDigits,dif_pos h]
theorem dec_more {u:Nat} (h:¬ u<10):Lib.decDigits u=Lib.decDigits (u / 10) ++ [UInt8.ofNat (48+u % 10)]:=by rw [Lib.decDigits,dif_neg h]
theorem dec_len : ∀ u : Nat,(Lib.decDigits u).length≤u+1:=by
 intro u
 induction u using Nat.strongRecOn with
 | _ u ih =>
  by_cases h:u<10
  · rw [dec_small h]
    simp
  · rw [dec_more h,List.length_append]
    have:=ih (u / 10) (by omega)
    simp
    omega
theorem conv_byte (w:World) (H x:Nat) (z:Int) (hz:z=(x:Int)) (hx:x<256) (hc:w.cell? ⟨H,0,none⟩=some (.int .u8 z)) :
  (convert 22 9 (.slice (some ⟨H,0,none⟩) 1 1)).run Tryz.prog w=.ok (.string ⟨#[UInt8.ofNat x]⟩) w:=by
 have h:=run_convert_bytes_back (P:=Tryz.prog) w 22 9 5 ⟨H,0,none⟩ 1 [UInt8.ofNat x] Tryz.underlying22 Tryz.underlying5 Tryz.underlying9 (fun j hj=>by
  have hj0:j=0:=by simpa using hj
  subst hj0
  have e:(⟨H,0,none⟩:Addr).add 0=⟨H,0,none⟩:=by simp [Addr.add]
  rw [e,hc,hz]
  simp [UInt8.toNat_ofNat',Nat.mod_eq_of_lt hx])
 exact h
theorem step_conv {w:World} {ops:Array Oper} {o:Oper} {a:Act} {K:Act→World→Prop} {Q:Exit→Act→World→Prop} {E:Prop} (hgd:o.guard=none) (x:Operand) (ho:o.op=.convert 22 9 x) (d:Option Tmp) (hd:o.dst=d)
  (H y:Nat) (z:Int) (hz:z=(y:Int)) (hy:y<256) (hx:a.eval x=.slice (some ⟨H,0,none⟩) 1 1) (hc:w.cell? ⟨H,0,none⟩=some (.int .u8 z)) (h:K (a.put d (.string ⟨#[UInt8.ofNat y]⟩)) w) :
  if Region.wanted o (yielded ops a.tmps)=true then Oper.wp Tryz.prog o a w K Q else E:=by
 subst hd
 have hw:Region.wanted o (yielded ops a.tmps)=true:=by simp [Region.wanted,hgd]
 rw [if_pos hw]
 unfold Oper.wp execOp
 simp only [ho,hx,Sem.run_bind,conv_byte w H y z hz hy hc,Result.andThen_ok,Sem.run_pure]
 exact h
set_option maxHeartbeats 800000 in
set_option maxRecDepth 8000 in
theorem digits_one (u:Nat) (h:u<10) (w:World) :
  Calls Tryz.prog 33 #[.int .i64 u] w fun e w'=>e=.returned (.string ⟨(Lib.decDigits u).toArray⟩)∧Below w.heap.size w w' := by
 rw [dec_small h]
 have hq:((u:Int) == -9223372036854775808)=false:=by simp
 have hconv:=conv_byte (w.alloc (.cells #[.int .u8 (48+(u:Int))] 5)) w.heap.size (48+u) (48+(u:Int)) (by omega) (by omega) (by simp [go_sem])
 obtain ⟨s,hs⟩:∃ s:ByteArray,⟨#[UInt8.ofNat (48+u)]⟩=s:=⟨_,rfl⟩
 rw [show (⟨[UInt8.ofNat (48+u)].toArray⟩:ByteArray)=s from hs]
 rw [hs] at hconv
 clear hs
 go_enter Tryz.func33,Tryz.ntmps33
 go_wp2
 go_ret
 exact ⟨rfl,Bl⟩
set_option maxHeartbeats 1600000 in
set_option maxRecDepth 8000 in
theorem digits_nat : ∀ (u:Nat) (w:World),u≤1000000000 →
  Calls Tryz.prog 33 #[.int .i64 u] w fun e w'=>e=.returned (.string ⟨(Lib.decDigits u).toArray⟩)∧Below w.heap.size w w' := by
 intro u
 induction u using Nat.strongRecOn with
 | _ u ih =>
  intro w hu
  by_cases h:u<10
  · exact digits_one u h w
  · have hq:((u:Int) == -9223372036854775808)=false:=by simp
    have IH:Hid (∀ w:World,u / 10≤1000000000→Calls Tryz.prog 33 #[.int .i64 ((u:Int) / 10)] w fun e w'=>e=.returned (.string ⟨(Lib.decDigits (u / 10)).toArray⟩)∧Below w.heap.size w w'):=fun w hw=>by
     have h1:=ih (u / 10) (by omega) w hw
     rw [show (((u / 10:Nat)):Int)=(u:Int) / 10 by omega] at h1
     exact h1
    have hm0:(0:Int)≤(u:Int) % 10:=by omega
    have hm1:(u:Int) % 10<10:=by omega
    have hu0:(0:Int)≤(u:Int):=by omega
    have HW1:Hid (IntKind.i64.wrap ((u:Int) / 10)=(u:Int) / 10):=by show _=_;rw [IntKind.wrap_i64];omega
    have HT1:Hid ((u:Int).tmod 10=(u:Int) % 10):=by show _=_;rw [Int.tmod_eq_emod_of_nonneg hu0]
    have HW2:Hid (IntKind.i64.wrap (48+(u:Int) % 10)=48+(u:Int) % 10):=by show _=_;rw [IntKind.wrap_i64];omega
    have HW3:Hid (IntKind.u8.wrap (48+(u:Int) % 10)=48+(u:Int) % 10):=by show _=_;rw [show IntKind.u8.wrap (48+(u:Int) % 10)=(48+(u:Int) % 10) % 256 by simp [IntKind.wrap,IntKind.signed,IntKind.bits]];omega
    rw [dec_more h]
    clear ih
    obtain ⟨s,hs⟩:∃ s:ByteArray,⟨#[UInt8.ofNat (48+u % 10)]⟩=s:=⟨_,rfl⟩
    have HS:=hid hs
    obtain ⟨t,ht⟩:∃ t:List UInt8,Lib.decDigits (u / 10)=t:=⟨_,rfl⟩
    have hl:t.length≤1000000001:=by rw [← ht];have:=dec_len (u / 10);omega
    have hs1:s.size=1:=by rw [← hs];rfl
    have hls:¬ (9223372036854775807<t.length+s.size):=by omega
    rw [ht] at IH ⊢
    clear hs ht hs1
    go_enter Tryz.func33,Tryz.ntmps33
    go_wp2
    refine region_goes 10 11 (fun _=>True) (by kernel_rfl) (by rfl) ⟨by kernel_rfl,by kernel_rfl,by kernel_rfl,by decide⟩ trivial (fun hE inv hHeld=>?_)
    refine Goes.take (i:=0) (v:=?v0u4) (some 18) hE rfl rfl inv (by kernel_rfl) (by kernel_rfl) (by decide) (fun _ _ _ h=>h) (Or.inl ⟨by rfl,?y0u4⟩) (by assumption) (fun inv=>?r0u4)
    case y0u4=>(intro w' hSw;(try dsimp only at hSw);go_simp;(try with_reducible rfl))
    simp only [Act.put,List.setIfInBounds_toArray,List.set_cons_zero,List.set_cons_succ]
    refine Goes.take (i:=1) (v:=?v1u5) (some 19) hE rfl rfl inv (by kernel_rfl) (by kernel_rfl) (by decide) (fun _ _ _ h=>h) (Or.inl ⟨by rfl,?y1u5⟩) (by assumption) (fun inv=>?r1u5)
    case y1u5=>(intro w' hSw;(try dsimp only at hSw);go_simp;(try with_reducible rfl))
    simp only [Act.put,List.setIfInBounds_toArray,List.set_cons_zero,List.set_cons_succ]
    refine Goes.take (i:=3) (v:=?v3u6) (some 21) hE rfl rfl inv (by kernel_rfl) (by kernel_rfl) (by decide) (fun _ _ _ h=>h) (Or.inl ⟨by rfl,?y3u6⟩) (by assumption) (fun inv=>?r3u6)
    case y3u6=>(intro w' hSw;(try dsimp only at hSw);go_simp;(try with_reducible rfl))
    simp only [Act.put,List.setIfInBounds_toArray,List.set_cons_zero,List.set_cons_succ]
    refine Goes.take (i:=4) (v:=?v4u7) (some 22) hE rfl rfl inv (by kernel_rfl) (by kernel_rfl) (by decide) (fun _ _ _ h=>h) (Or.inl ⟨by rfl,?y4u7⟩) (by assumption) (fun inv=>?r4u7)
    case y4u7=>(intro w' hSw;(try dsimp only at hSw);go_simp;(try with_reducible rfl))
    simp only [Act.put,List.setIfInBounds_toArray,List.set_cons_zero,List.set_cons_succ]
    refine Goes.take (i:=5) (v:=?v5u8) (some 23) hE rfl rfl inv (by kernel_rfl) (by kernel_rfl) (by decide) (fun _ _ _ h=>h) (Or.inl ⟨by rfl,?y5u8⟩) (by assumption) (fun inv=>?r5u8)
    case y5u8=>(intro w' hSw;(try dsimp only at hSw);go_simp;(try with_reducible rfl))
    simp only [Act.put,List.setIfInBounds_toArray,List.set_cons_zero,List.set_cons_succ]
    refine Goes.take (i:=6) (v:=?v6u9) (some 24) hE rfl rfl inv (by kernel_rfl) (by kernel_rfl) (by decide) (fun _ _ _ h=>h) (Or.inl ⟨by rfl,?y6u9⟩) (by assumption) (fun inv=>?r6u9)
    case y6u9=>(intro w' hSw;(try dsimp only at hSw);go_simp;(try with_reducible rfl))
    simp only [Act.put,List.setIfInBounds_toArray,List.set_cons_zero,List.set_cons_succ]
    simp only [HT1.out,HW1.out,HW2.out,HW3.out]
    refine Goes.two (i:=2) (j:=7) inv (by kernel_rfl) (by decide) (by decide) rfl rfl (fun inv K' hK=>?_) (fun inv K' hK=>?_)
    · go_simp
      refine (IH.out _ (by omega)).mono ?_
      rintro e w1 ⟨rfl,hb1⟩
      (try go_wp2_with fail)
      refine hK.out _ _ trivial (fun hHeld=>?_)
      clear hK K'
      refine Goes.one (i:=7) inv (by kernel_rfl) (by decide) rfl (fun inv K' hK=>?_)
      go_simp
      refine hK.out _ _ trivial (fun hHeld=>?_)
      clear hK K'
      refine Goes.one (i:=8) inv (by kernel_rfl) (by decide) rfl (fun inv K' hK=>?_)
      refine step_conv (by rfl) _ (by rfl) (some 26) (by rfl) w1.heap.size (48+u % 10) (48+(u:Int) % 10) (by omega) (by omega) (by rfl) (by simp [go_sem]) ?_
      rw [HS.out]
      refine hK.out _ _ trivial (fun hHeld=>?_)
      clear hK K'
      simp only [Act.put,List.setIfInBounds_toArray,List.set_cons_zero,List.set_cons_succ]
      refine Goes.take (i:=9) (v:=?v9u1) (some 27) hE rfl rfl inv (by kernel_rfl) (by kernel_rfl) (by decide) (fun _ _ _ h=>h) (Or.inl ⟨by rfl,?y9u1⟩) (by assumption) (fun inv=>?r9u1)
      case y9u1=>(intro w' hSw;(try dsimp only at hSw);go_simp;(try with_reducible rfl))
      simp only [Act.put,List.setIfInBounds_toArray,List.set_cons_zero,List.set_cons_succ]
      refine Goes.last (by kernel_rfl) (by kernel_rfl) rfl (fun K' hK=>?_)
      go_simp
      refine hK.out _ _ ?_
      clear hK K'
      (try simp only [Exit.then])
      go_wp2
      go_ret
      exact ⟨ret_str (by rw [← HS.out];apply ByteArray.ext;simp),((show Below w.heap.size w _ from Bl).trans (hb1.mono (by simp))).alloc (by have h9:=hb1.size;simp at h9;omega) _⟩
    · go_simp
      refine hK.out _ _ trivial (fun hHeld=>?_)
      clear hK K'
      refine Goes.two (i:=2) (j:=8) inv (by kernel_rfl) (by decide) (by decide) rfl rfl (fun inv K' hK=>?_) (fun inv K' hK=>?_)
      · go_simp
        refine (IH.out _ (by omega)).mono ?_
        rintro e w1 ⟨rfl,hb1⟩
        (try go_wp2_with fail)
        refine hK.out _ _ trivial (fun hHeld=>?_)
        clear hK K'
        refine Goes.one (i:=8) inv (by kernel_rfl) (by decide) rfl (fun inv K' hK=>?_)
        refine step_conv (by rfl) _ (by rfl) (some 26) (by rfl) w.heap.size (48+u % 10) (48+(u:Int) % 10) (by omega) (by omega) (by rfl) (keep hb1 (by simp [go_sem])) ?_
        rw [HS.out]
        refine hK.out _ _ trivial (fun hHeld=>?_)
        clear hK K'
        simp only [Act.put,List.setIfInBounds_toArray,List.set_cons_zero,List.set_cons_succ]
        refine Goes.take (i:=9) (v:=?v9u2) (some 27) hE rfl rfl inv (by kernel_rfl) (by kernel_rfl) (by decide) (fun _ _ _ h=>h) (Or.inl ⟨by rfl,?y9u2⟩) (by assumption) (fun inv=>?r9u2)
        case y9u2=>(intro w' hSw;(try dsimp only at hSw);go_simp;(try with_reducible rfl))
        simp only [Act.put,List.setIfInBounds_toArray,List.set_cons_zero,List.set_cons_succ]
        refine Goes.last (by kernel_rfl) (by kernel_rfl) rfl (fun K' hK=>?_)
        go_simp
        refine hK.out _ _ ?_
        clear hK K'
        (try simp only [Exit.then])
        go_wp2
        go_ret
        exact ⟨ret_str (by rw [← HS.out];apply ByteArray.ext;simp),(show Below w.heap.size w _ from Bl).trans (hb1.mono (by simp))⟩
      · refine step_conv (by rfl) _ (by rfl) (some 26) (by rfl) w.heap.size (48+u % 10) (48+(u:Int) % 10) (by omega) (by omega) (by rfl) (by simp [go_sem]) ?_
        rw [HS.out]
        refine hK.out _ _ trivial (fun hHeld=>?_)
        clear hK K'
        simp only [Act.put,List.setIfInBounds_toArray,List.set_cons_zero,List.set_cons_succ]
        refine Goes.one (i:=2) inv (by kernel_rfl) (by decide) rfl (fun inv K' hK=>?_)
        go_simp
        refine (IH.out _ (by omega)).mono ?_
        rintro e w1 ⟨rfl,hb1⟩
        (try go_wp2_with fail)
        refine hK.out _ _ trivial (fun hHeld=>?_)
        clear hK K'
        refine Goes.take (i:=9) (v:=?v9u3) (some 27) hE rfl rfl inv (by kernel_rfl) (by kernel_rfl) (by decide) (fun _ _ _ h=>h) (Or.inl ⟨by rfl,?y9u3⟩) (by assumption) (fun inv=>?r9u3)
        case y9u3=>(intro w' hSw;(try dsimp only at hSw);go_simp;(try with_reducible rfl))
        simp only [Act.put,List.setIfInBounds_toArray,List.set_cons_zero,List.set_cons_succ]
        refine Goes.last (by kernel_rfl) (by kernel_rfl) rfl (fun K' hK=>?_)
        go_simp
        refine hK.out _ _ ?_
        clear hK K'
        (try simp only [Exit.then])
        go_wp2
        go_ret
        exact ⟨ret_str (by rw [← HS.out];apply ByteArray.ext;simp),(show Below w.heap.size w _ from Bl).trans (hb1.mono (by simp))⟩
set_option maxHeartbeats 800000 in
set_option maxRecDepth 8000 in
theorem digits_spec (n:Int) (w:World) (h0 : -1000000000≤n) (h1:n≤1000000000) :
  Calls Tryz.prog 33 #[.int .i64 n] w fun e w'=>e=.returned (.string ⟨(Lib.itoa n).toArray⟩)∧Below w.heap.size w w' := by
 by_cases hn:n<0
 · obtain ⟨u,hu⟩:=Int.eq_ofNat_of_zero_le (show 0≤-n by omega)
   have he:Lib.itoa n=45::Lib.decDigits u:=by
    unfold Lib.itoa
    rw [if_pos hn]
    congr 2
    omega
   rw [he]
   obtain ⟨t,ht⟩:∃ t:List UInt8,Lib.decDigits u=t:=⟨_,rfl⟩
   have hl:t.length≤1000000001:=by rw [← ht];have:=dec_len u;omega
   have IH:=hid (fun w=>digits_nat u w (by omega))
   rw [ht] at IH ⊢
   have hq:(n == -9223372036854775808)=false:=by simp;omega
   clear ht he
   go_enter Tryz.func33,Tryz.ntmps33
   go_wp2_with fail
   refine (IH.out _).mono ?_
   rintro e w1 ⟨rfl,hb1⟩
   go_wp2
   go_ret
   exact ⟨ret_str (by apply ByteArray.ext;simp),hb1⟩
 · obtain ⟨u,rfl⟩:=Int.eq_ofNat_of_zero_le (show 0≤n by omega)
   have he:Lib.itoa (u:Int)=Lib.decDigits u:=by
    unfold Lib.itoa
    rw [if_neg hn]
    rfl
   rw [he]
   exact digits_nat u w (by omega)
end Go.Proofs.YthompjbplddkgaaGreatDoor.digits
