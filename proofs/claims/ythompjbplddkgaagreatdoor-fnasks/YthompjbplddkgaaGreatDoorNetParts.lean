import Derived.Test.YthompjbplddkgaaGreatDoorNetImpl
import Derived.Test.YthompjbplddkgaaGreatDoorPart9
set_option linter.unusedVariables false
namespace Go.Proofs.YthompjbplddkgaaGreatDoor.netParts
open Go.RowKit Go.Deep Go base names netSem netImpl heldStore drawn
set_option maxHeartbeats 1600000 in
theorem links_impl (a:Option Addr) (len cap:Nat) (g:R) (r:Nat) (w:World) (hr:Row 3 w a len g) (hcap:len≤cap) (hm:r≤maxLen) :
  Calls Tryz.prog 35 #[.slice a len cap,.int .i64 r] w fun e w'=>e=.returned (.bool (linksB g len r))∧Below w.heap.size w w' := by
 have hmost:=hr.most
 unfold maxLen at hmost
 have HR:=hid hr
 have HM:=hid hm
 unfold maxLen at hm
 clear hr
 by_cases hin:len≤6
 · have hd : Hid (linksB g len r = allN (linkB g r) len) := by
    show _=_
    unfold linksB;rw [decide_eq_true hin,Bool.true_and]
   have hlen:decide ((6:Int)<(len:Int))=false:=decide_eq_false (by omega)
   go_enter Tryz.func35,Tryz.ntmps35
   go_wp2
   go_loopw [12] (fun i wr=>∃ k:Nat,k≤len∧i=.int .i64 k∧(∀ j,j<k→linkB g r j=true)∧Below w.heap.size w wr) (fun i _=>len - (intOf i).toNat)
   case atStart=>exact ⟨0,Nat.zero_le _,rfl,fun j hj=>absurd hj (Nat.not_lt_zero _),Below.refl _ _⟩
   case round =>
    obtain ⟨k,hk,rfl,ha,hbel⟩:=hrel
    have HA:=hid ha
    have HB:=hid hbel
    clear ha
    by_cases hlt:k<len
    · obtain ⟨b0,off,rfl,c0,c1,c2⟩:=HR.out.at3 hlt
      replace c0:=keep hbel c0
      replace c1:=keep hbel c1
      replace c2:=keep hbel c2
      have hkc:(k:Int)≤(cap:Int):=by omega
      have HR2:=hid ((HR.out.front (show k≤len by omega)).below hbel)
      have HQ:Hid (linkB g r k=(inB (g k 0) 0 (r - 1) && inB (g k 1) 0 (r - 1) && decide (g k 0≠g k 1) && inB (g k 2) 1 100 && decide (linkAt g k (g k 0) (g k 1)<0))):=rfl
      clear hbel
      generalize g k 0=x at *
      generalize g k 1=y at *
      generalize g k 2=z at *
      obtain ⟨L,hL⟩:∃ L,linkAt g k x y=L:=⟨_,rfl⟩
      rw [hL] at HQ
      have HL:=hid hL
      clear hL
      obtain ⟨p1,e1⟩:∃ p,inB x 0 (r - 1)=p:=⟨_,rfl⟩
      obtain ⟨p2,e2⟩:∃ p,inB y 0 (r - 1)=p:=⟨_,rfl⟩
      obtain ⟨p3,e3⟩:∃ p,(x == y)=p:=⟨_,rfl⟩
      obtain ⟨p4,e4⟩:∃ p,inB z 1 100=p:=⟨_,rfl⟩
      obtain ⟨p5,e5⟩:∃ p,decide (0≤L)=p:=⟨_,rfl⟩
      have HF:Hid (linkB g r k=(p1 && p2 && !p3 && p4 && !p5)):=by
       show _=_
       rw [HQ.out,e1,e2,e4,← e3,← e5]
       congr 1
       · congr 1
         congr 1
         rw [Bool.eq_iff_iff];simp
       · rw [Bool.eq_iff_iff];simp
      clear HQ
      cases p1 with
      | false =>
       go_wp2_with (go_at_call 63;refine (router_impl _ _ _ HM.out).mono ?_;rintro e w' ⟨rfl,rfl⟩)
       go_ret
       exact ⟨ret_bool (by rw [hd.out];exact (allN_false hlt HF.out).symm),HB.out.trans ((show Below wr.heap.size wr _ from Bl).mono HB.out.size)⟩
      | true =>
      cases p2 with
      | false =>
       go_wp2_with (go_at_call 63;refine (router_impl _ _ _ HM.out).mono ?_;rintro e w' ⟨rfl,rfl⟩)
       go_ret
       exact ⟨ret_bool (by rw [hd.out];exact (allN_false hlt HF.out).symm),HB.out.trans ((show Below wr.heap.size wr _ from Bl).mono HB.out.size)⟩
      | true =>
      cases p3 with
      | true =>
       go_wp2_with (go_at_call 63;refine (router_impl _ _ _ HM.out).mono ?_;rintro e w' ⟨rfl,rfl⟩)
       go_ret
       exact ⟨ret_bool (by rw [hd.out];exact (allN_false hlt HF.out).symm),HB.out.trans ((show Below wr.heap.size wr _ from Bl).mono HB.out.size)⟩
      | false =>
      cases p4 with
      | false =>
       go_wp2_with (go_at_call 63;refine (router_impl _ _ _ HM.out).mono ?_;rintro e w' ⟨rfl,rfl⟩)
       go_quiet (first|(go_at_call 57;exact Calls.quiet_of_same (within_impl _ _ _ _)))
       go_wp2
       go_ret
       exact ⟨ret_bool (by rw [hd.out];exact (allN_false hlt HF.out).symm),HB.out.trans (((show Below wr.heap.size wr _ from Bl).trans ((below_drewN _ _).mono (by simp))).mono HB.out.size)⟩
      | true =>
       go_wp2_with (go_at_call 63;refine (router_impl _ _ _ HM.out).mono ?_;rintro e w' ⟨rfl,rfl⟩)
       -- BEGIN region 8
       refine region_below (fun u=>⟨#[.slice (some ⟨b0,off,none⟩) len cap,.int .i64 r,undef,undef,u4,.int .i64 k,.pointer (some ⟨wr.heap.size,0,none⟩),.slice (some ⟨b0,off,none⟩) len cap,.int .i64 len,.bool false,.slice (some ⟨b0,off,none⟩) len cap,.int .i64 len,.int .i64 k,.bool true,.int .i64 k,.pointer (some ⟨b0,off+k*3,none⟩),.agg #[.int .i64 x,.int .i64 y,.int .i64 z],.pointer (some ⟨wr.heap.size,0,none⟩),.int .i64 x,.int .i64 r,.bool true,.bool false,.bool false,.pointer (some ⟨wr.heap.size,1,none⟩),.int .i64 y,.int .i64 r,.bool true,.bool false,.bool false,.bool false,.pointer (some ⟨wr.heap.size,0,none⟩),.int .i64 x,.pointer (some ⟨wr.heap.size,1,none⟩),.int .i64 y,.bool false,.bool false,u 36,u 37,u 38,u 39,u 40,u 41,u 42,u 43,u 44,u 45,u 46,u 47,u 48,u49,u50],[]⟩) (fun i=>[36,37,38,39,40,41,42,43,44,45,46,47,48].getD i 0) (fun i v w8=>match i with|0=>v=.pointer (some ⟨wr.heap.size,2,none⟩)|1=>v=.int .i64 z|2=>v=.bool true|3=>v=.bool false|4=>v=.bool false|5=>v=.slice (some ⟨b0,off,none⟩) len cap|6=>v=.int .i64 k|7=>v=.slice (some ⟨b0,off,none⟩) k cap|8=>v=.pointer (some ⟨wr.heap.size,0,none⟩)|9=>v=.int .i64 x|10=>v=.pointer (some ⟨wr.heap.size,1,none⟩)|11=>v=.int .i64 y|12=>v=.bool p5|_=>True) _ 13 (fun k=>match k with|36=>u36|37=>u37|38=>u38|39=>u39|40=>u40|41=>u41|42=>u42|43=>u43|44=>u44|45=>u45|46=>u46|47=>u47|48=>u48|_=>undef) (by rfl) (by kernel_rfl) (by rfl) ⟨by kernel_rfl,by kernel_rfl,by kernel_rfl,by decide⟩ (by kernel_rfl) (Below.refl _ _) ?hput ?hinj ?stable ?step ?last
       case hput =>
        intro i hi u v
        match i,hi with
        | 0,_=>rfl
        | 1,_=>rfl
        | 2,_=>rfl
        | 3,_=>rfl
        | 4,_=>rfl
        | 5,_=>rfl
        | 6,_=>rfl
        | 7,_=>rfl
        | 8,_=>rfl
        | 9,_=>rfl
        | 10,_=>rfl
        | 11,_=>rfl
        | 12,_=>rfl
        | i+13,hi=>exact absurd hi (by omega)
       case hinj =>
        intro i j hi hj h
        exact slots_inj [36,37,38,39,40,41,42,43,44,45,46,47,48] (by decide) hi hj h
       case stable =>
        intro i v w8 w9 hb h
        match i,h with
        | 0,h=>exact h
        | 1,h=>exact h
        | 2,h=>exact h
        | 3,h=>exact h
        | 4,h=>exact h
        | 5,h=>exact h
        | 6,h=>exact h
        | 7,h=>exact h
        | 8,h=>exact h
        | 9,h=>exact h
        | 10,h=>exact h
        | 11,h=>exact h
        | 12,h=>exact h
        | _+13,h=>trivial
       case step =>
        intro i hi u w8 S8 hdep
        match i,hi with
        | 0,_ =>
         clear hdep
         refine ⟨_,rfl,fun K' hK=>?_⟩
         go_simp
         exact hK.out _ _ (Below.refl _ _) rfl
        | 1,_ =>
         have h0:(u 36)=.pointer (some ⟨wr.heap.size,2,none⟩):=hdep 0 (by kernel_rfl)
         clear hdep
         refine ⟨_,rfl,fun K' hK=>?_⟩
         have hc:w8.cell? ⟨wr.heap.size,2,none⟩=some (.int .i64 z):=keep S8 (by simp [go_sem])
         simp only [h0] at hK ⊢
         go_simp
         exact hK.out _ _ (Below.refl _ _) rfl
        | 2,_ =>
         have h1:(u 37)=.int .i64 z:=hdep 1 (by kernel_rfl)
         clear hdep
         refine ⟨_,rfl,fun K' hK=>?_⟩
         simp only [h1] at hK ⊢
         go_simp
         refine (within_impl z 1 100 _).mono ?_
         rintro e w9 ⟨rfl,rfl⟩
         exact hK.out _ _ (Below.refl _ _) (by rw [e4])
        | 3,_ =>
         have h2:(u 38)=.bool true:=hdep 2 (by kernel_rfl)
         clear hdep
         refine ⟨_,rfl,fun K' hK=>?_⟩
         simp only [h2] at hK ⊢
         go_simp
         exact hK.out _ _ (Below.refl _ _) rfl
        | 4,_ =>
         have h3:(u 39)=.bool false:=hdep 3 (by kernel_rfl)
         clear hdep
         refine ⟨_,rfl,fun K' hK=>?_⟩
         simp only [h3] at hK ⊢
         go_simp
         exact hK.out _ _ (Below.refl _ _) rfl
        | 5,_ =>
         have h4:(u 40)=.bool false:=hdep 4 (by kernel_rfl)
         clear hdep
         refine ⟨_,rfl,fun K' hK=>?_⟩
         simp only [h4] at hK ⊢
         go_simp
         exact hK.out _ _ (Below.refl _ _) rfl
        | 6,_ =>
         have h4:(u 40)=.bool false:=hdep 4 (by kernel_rfl)
         clear hdep
         refine ⟨_,rfl,fun K' hK=>?_⟩
         simp only [h4] at hK ⊢
         go_simp
         exact hK.out _ _ (Below.refl _ _) rfl
        | 7,_ =>
         have h4:(u 40)=.bool false:=hdep 4 (by kernel_rfl)
         have h5:(u 41)=.slice (some ⟨b0,off,none⟩) len cap:=hdep 5 (by kernel_rfl)
         have h6:(u 42)=.int .i64 k:=hdep 6 (by kernel_rfl)
         clear hdep
         refine ⟨_,rfl,fun K' hK=>?_⟩
         simp only [h4,h5,h6] at hK ⊢
         go_simp
         exact hK.out _ _ (Below.refl _ _) rfl
        | 8,_ =>
         have h4:(u 40)=.bool false:=hdep 4 (by kernel_rfl)
         clear hdep
         refine ⟨_,rfl,fun K' hK=>?_⟩
         simp only [h4] at hK ⊢
         go_simp
         exact hK.out _ _ (Below.refl _ _) rfl
        | 9,_ =>
         have h4:(u 40)=.bool false:=hdep 4 (by kernel_rfl)
         have h8:(u 44)=.pointer (some ⟨wr.heap.size,0,none⟩):=hdep 8 (by kernel_rfl)
         clear hdep
         refine ⟨_,rfl,fun K' hK=>?_⟩
         have hc:w8.cell? ⟨wr.heap.size,0,none⟩=some (.int .i64 x):=keep S8 (by simp [go_sem])
         simp only [h4,h8] at hK ⊢
         go_simp
         exact hK.out _ _ (Below.refl _ _) rfl
        | 10,_ =>
         have h4:(u 40)=.bool false:=hdep 4 (by kernel_rfl)
         clear hdep
         refine ⟨_,rfl,fun K' hK=>?_⟩
         simp only [h4] at hK ⊢
         go_simp
         exact hK.out _ _ (Below.refl _ _) rfl
        | 11,_ =>
         have h4:(u 40)=.bool false:=hdep 4 (by kernel_rfl)
         have h10:(u 46)=.pointer (some ⟨wr.heap.size,1,none⟩):=hdep 10 (by kernel_rfl)
         clear hdep
         refine ⟨_,rfl,fun K' hK=>?_⟩
         have hc:w8.cell? ⟨wr.heap.size,1,none⟩=some (.int .i64 y):=keep S8 (by simp [go_sem])
         simp only [h4,h10] at hK ⊢
         go_simp
         exact hK.out _ _ (Below.refl _ _) rfl
        | 12,_ =>
         have h4:(u 40)=.bool false:=hdep 4 (by kernel_rfl)
         have h7:(u 43)=.slice (some ⟨b0,off,none⟩) k cap:=hdep 7 (by kernel_rfl)
         have h9:(u 45)=.int .i64 x:=hdep 9 (by kernel_rfl)
         have h11:(u 47)=.int .i64 y:=hdep 11 (by kernel_rfl)
         clear hdep
         refine ⟨_,rfl,fun K' hK=>?_⟩
         simp only [h4,h7,h9,h11] at hK ⊢
         go_simp
         refine (joined_impl (some ⟨b0,off,none⟩) k cap g x y _ ((HR2.out.below Bl).below S8)).mono ?_
         rintro e w9 ⟨rfl,hb9⟩
         exact hK.out _ _ hb9 (by rw [HL.out,e5])
        | i+13,hi=>exact absurd hi (by omega)
       case last =>
        intro u w8 S8 hall
        have h4:(u 40)=.bool false:=hall 4 (by decide)
        have h12:(u 48)=.bool p5:=hall 12 (by decide)
        clear hall
        refine ⟨_,rfl,fun K' hK=>?_⟩
        simp only [h4,h12] at hK ⊢
        go_simp
        refine hK.out _ _ ?_
        have HB9:=hid (HB.out.trans (((show Below wr.heap.size wr _ from Bl).trans (S8.mono (by simp))).mono HB.out.size))
        clear S8
        generalize hu:u=u9 at *
        clear hu
        clear hK K' h4 h12
        (try simp only [Exit.then])
        cases p5 with
        | true =>
         go_wp2
         go_ret
         exact ⟨ret_bool (by rw [hd.out];exact (allN_false hlt HF.out).symm),HB9.out⟩
        | false =>
         go_wp2
         go_roundw
         case rel =>
          refine ⟨k+1,by omega,by go_num,fun j hj=>?_,HB9.out⟩
          by_cases e:j=k
          · subst e;exact HF.out
          · exact HA.out j (by omega)
         case measure=>simp [intOf];omega
       -- END region 8
    · have e:k=len:=by omega
      subst e
      go_wp2
      go_ret
      exact ⟨ret_bool (by rw [hd.out];exact (allN_of HA.out).symm),HB.out⟩
 · have hf:linksB g len r=false:=by unfold linksB;rw [decide_eq_false hin];rfl
   have hlen:decide ((6:Int)<(len:Int))=true:=decide_eq_true (by omega)
   rw [hf]
   clear hf hin
   go_enter Tryz.func35,Tryz.ntmps35
   go_wp2
   go_ret
   exact ⟨rfl,Below.refl _ _⟩
end Go.Proofs.YthompjbplddkgaaGreatDoor.netParts
