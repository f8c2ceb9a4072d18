import Derived.Test.YtajhklklbfnmpaaGreatPart23
import Derived.BigRegion
import Derived.Deep.RegionWith
set_option linter.unusedVariables false
namespace Go.Proofs.YtajhklklbfnmpaaGreat.picksSeq
open Go.RowKit Go.Deep Go.Shelf Go base copy netSem intsOwn prodSem rangeAt pick
theorem RInt.below {B : Nat} {A A' : World} (h : Below A.heap.size A A') : RInt B A A' := ⟨h.os,h.tape,h.output,h.size,fun q hq _=>h.block q hq⟩
theorem picks_impl (a : Option Addr) (len cap : Nat) (w : World) :
  Calls Tryz.prog 115 #[.slice a len cap] w fun e w'=>e=.returned (.func (.func 141) #[] #[.pointer (some ⟨w.heap.size,0,none⟩)])∧w' = w.alloc (.cells #[.slice a len cap] 102):=by
 go_enter Tryz.func115,Tryz.ntmps115
 go_wp2
 go_ret
 exact ⟨rfl,rfl⟩
end Go.Proofs.YtajhklklbfnmpaaGreat.picksSeq
namespace Go.Proofs.YtajhklklbfnmpaaGreat.stabImpl
open Go.RowKit Go.Deep Go base netSem routeRow nbSem candSem candImp hopSem intsOwn hopMake hopBetween sceneSem sceneOpen sceneBy candSpec sceneCand noRts rtsRow bestFace bestAll
def eqR (a b : Rt) : Bool := a.via == b.via && a.pref == b.pref && a.len == b.len && a.mark == b.mark
theorem eqR_iff {a b : Rt} : eqR a b=true ↔ a=b := by
 cases a;cases b
 simp [eqR,and_assoc]
theorem eqR_no {a b : Rt} (h : a ≠ b) : eqR a b=false := by
 cases e:eqR a b with
 | false=>rfl
 | true=>exact absurd (eqR_iff.1 e) h
def sameTo (g g' : Rs) (n : Nat) : Bool := allN (fun i=>eqR (g i) (g' i)) n
theorem same_yes {g g' : Rs} {n : Nat} (h : ∀ i,i < n→g i=g' i) : sameTo g g' n=true := allN_iff.2 fun i hi=>eqR_iff.2 (h i hi)
theorem same_no {g g' : Rs} {n k : Nat} (hk : k < n) (h : g k ≠ g' k) : sameTo g g' n=false := allN_false hk (eqR_no h)
set_option maxHeartbeats 1600000 in
set_option maxRecDepth 8000 in
theorem equal_rts (a a' : Option Addr) (n c c' : Nat) (g g' : Rs) (w : World) (hr : RtRow w a n g) (hr' : RtRow w a' n g') :
  Calls Tryz.prog 122 #[.slice a n c,.slice a' n c'] w fun e w'=>e=.returned (.bool (sameTo g g' n))∧Below w.heap.size w w' := by
 have HR:=hid hr
 have HR' := hid hr'
 have hm:=hr.most
 unfold maxLen at hm
 clear hr hr'
 have hnn:((n:Int) != (n:Int))=false:=by simp
 go_enter Tryz.func122,Tryz.ntmps122
 go_wp2
 go_loopw [13] (fun i wr=>∃ k:Nat,k≤n∧i=.int .i64 k∧(∀ j,j < k→g j=g' j)∧Below w.heap.size w wr) (fun i _=>n - (intOf i).toNat)
 case atStart=>exact ⟨0,Nat.zero_le _,rfl,fun j hj=>absurd hj (Nat.not_lt_zero _),Bl⟩
 case round =>
  obtain ⟨k,hk,rfl,ha,hbel⟩:=hrel
  have HA:=hid ha
  have HB:=hid hbel
  clear ha
  by_cases hlt:k < n
  · obtain ⟨b,off,rfl,c0,c1,c2,c3⟩:=(HR.out.below hbel).at4 hlt
    obtain ⟨b',off',rfl,d0,d1,d2,d3⟩:=(HR'.out.below hbel).at4 hlt
    clear hbel
    have HQ:Hid ((g k).via=(g' k).via→(g k).pref=(g' k).pref→(g k).len=(g' k).len→(g k).mark=(g' k).mark→g k=g' k):=fun h1 h2 h3 h4=>by
     revert h1 h2 h3 h4
     cases g k;cases g' k
     simp
     intros
     simp_all
    have HN:Hid (∀ r r',g k=r→g' k=r'→r ≠ r'→sameTo g g' n=false):=fun r r' e1 e2 h=>same_no hlt (by rw [e1,e2];exact h)
    obtain ⟨x,hx⟩:∃ r,g k=r:=⟨_,rfl⟩
    obtain ⟨y,hy⟩:∃ r,g' k=r:=⟨_,rfl⟩
    have HX:=hid hx
    have HY:=hid hy
    rw [hx] at c0 c1 c2 c3
    rw [hy] at d0 d1 d2 d3
    clear hx hy HQ
    obtain ⟨x0,x1,x2,x3⟩:=x
    obtain ⟨y0,y1,y2,y3⟩:=y
    dsimp only at c0 c1 c2 c3 d0 d1 d2 d3
    by_cases e0:x0=y0
    · subst e0
      by_cases e1:x1=y1
      · subst e1
        by_cases e2:x2=y2
        · subst e2
          by_cases e3:x3=y3
          · subst e3
            go_wp2
            go_region
            all_goals
             go_wp2
             go_roundw
             case rel =>
              refine ⟨k+1,by omega,by go_num,fun j hj=>?_,HB.out.drew⟩
              by_cases e:j=k
              · subst e;rw [HX.out,HY.out]
              · exact HA.out j (by omega)
             case measure=>simp [intOf];omega
          · have f:(x3 == y3)=false:=by simp [e3]
            have HF:Hid (sameTo g g' n=false):=HN.out _ _ HX.out HY.out (fun h=>e3 (by injection h))
            clear e3
            go_wp2
            go_region
            all_goals
             go_wp2
             go_ret
             exact ⟨ret_bool HF.out.symm,HB.out.drew⟩
        · have f:(x2 == y2)=false:=by simp [e2]
          have HF:Hid (sameTo g g' n=false):=HN.out _ _ HX.out HY.out (fun h=>e2 (by injection h))
          clear e2
          go_wp2
          go_region
          all_goals
           go_wp2
           go_ret
           exact ⟨ret_bool HF.out.symm,HB.out.drew⟩
      · have f:(x1 == y1)=false:=by simp [e1]
        have HF:Hid (sameTo g g' n=false):=HN.out _ _ HX.out HY.out (fun h=>e1 (by injection h))
        clear e1
        go_wp2
        go_region
        all_goals
         go_wp2
         go_ret
         exact ⟨ret_bool HF.out.symm,HB.out.drew⟩
    · have f:(x0 == y0)=false:=by simp [e0]
      have HF:Hid (sameTo g g' n=false):=HN.out _ _ HX.out HY.out (fun h=>e0 (by injection h))
      clear e0
      go_wp2
      go_region
      all_goals
       go_wp2
       go_ret
       exact ⟨ret_bool HF.out.symm,HB.out.drew⟩
  · have e:k=n:=by omega
    subst e
    clear hbel
    go_wp2
    go_ret
    exact ⟨ret_bool (same_yes HA.out).symm,HB.out⟩
set_option maxHeartbeats 1600000 in
theorem stable_impl {sb b B : Nat} {F : Nat→Value} {p : Nat→Option Addr} {l c : Nat→Nat} {g : R} {o e : List Int} {x : R} {ea da : Option Addr} {el ec dl dc : Nat} {env : List Int} {ds : List Bool} {w : World} (ra : Option Addr) (n cr : Nat) (rs : Rs) (h : Sc sb b B F p l c g o e x ea da el ec dl dc env ds w) (hgd : sceneBy.Good n l g x rs) (hrt : RtRow w ra n rs) (hna : ∀ a o,ra=some ⟨a,o,none⟩→a ≠ b) (hn1 : 1≤n) :
  Calls Tryz.prog 87 #[.pointer (some ⟨sb,0,none⟩),.slice ra n cr] w fun e' w'=>e' = .returned (.bool (sameTo (bests g (l 1) o e x (l 4) env ds rs n) rs n))∧Sc sb b B F p l c g o e x ea da el ec dl dc env ds w'∧w.grownBy w' (some b):=by
 have HBest:=hid (best_all ra n cr rs h hgd hrt hna hn1)
 have HT:=hid hrt
 have HNa:=hid hna
 have hm:=hrt.most
 have HM:=hid hm
 have HRt:Hid (∀ W:World,w.grownBy W (some b)→RtRow W ra n rs):=hid (fun W hg=>⟨HT.out.most,fun i hi=>by
  obtain ⟨q,off,e,hc⟩:=HT.out.cell i hi
  exact ⟨q,off,e,fun j hj=>grown_cell hg q _ _ (HNa.out q off e) (hc j hj)⟩⟩)
 clear h hgd hrt hna hm HT
 generalize bests g (l 1) o e x (l 4) env ds rs n=bs at *
 go_enter Tryz.func87,Tryz.ntmps87
 go_wp2_with fail
 refine HBest.out.mono ?_
 rintro e' w1 ⟨N,rfl,hN,hl,hs,hg⟩
 have HL:=hid hl
 have HS:=hid hs
 have HG:=hid hg
 clear hl hs hg
 go_wp2_with fail
 refine (equal_rts _ ra n n cr bs rs _ (HL.out.is HM.out) (HRt.out _ HG.out)).mono ?_
 rintro e' w2 ⟨rfl,hb2⟩
 have HS2:=hid (HS.out.below hb2)
 have HG2:=hid (gtrans HG.out (grown_of_below hb2 _))
 clear hb2
 go_wp2
 go_ret
 exact ⟨rfl,HS2.out,HG2.out⟩
end Go.Proofs.YtajhklklbfnmpaaGreat.stabImpl
namespace Go.Proofs.YtajhklklbfnmpaaGreat.netParts
open Go.RowKit Go.Deep Go base names netSem netImpl heldStore drawn
set_option maxHeartbeats 1600000 in
theorem links_impl (a : Option Addr) (len cap : Nat) (g : R) (r : Nat) (w : World) (hr : Row 3 w a len g) (hcap : len≤cap) (hm : r≤maxLen) :
  Calls Tryz.prog 77 #[.slice a len cap,.int .i64 r] w fun e w'=>e=.returned (.bool (linksB g len r))∧Below w.heap.size w w' := by
 have hmost:=hr.most
 unfold maxLen at hmost
 have HR:=hid hr
 have HM:=hid hm
 unfold maxLen at hm
 clear hr
 by_cases hin:len≤6
 · have hd : Hid (linksB g len r = allN (linkB g r) len) := by
    show _=_
    unfold linksB;rw [decide_eq_true hin,Bool.true_and]
   have hlen:decide ((6:Int) < (len:Int))=false:=decide_eq_false (by omega)
   go_enter Tryz.func77,Tryz.ntmps77
   go_wp2
   go_loopw [12] (fun i wr=>∃ k:Nat,k≤len∧i=.int .i64 k∧(∀ j,j < k→linkB g r j=true)∧Below w.heap.size w wr) (fun i _=>len - (intOf i).toNat)
   case atStart=>exact ⟨0,Nat.zero_le _,rfl,fun j hj=>absurd hj (Nat.not_lt_zero _),Below.refl _ _⟩
   case round =>
    obtain ⟨k,hk,rfl,ha,hbel⟩:=hrel
    have HA:=hid ha
    have HB:=hid hbel
    clear ha
    by_cases hlt:k < len
    · obtain ⟨b0,off,rfl,c0,c1,c2⟩:=HR.out.at3 hlt
      replace c0:=keep hbel c0
      replace c1:=keep hbel c1
      replace c2:=keep hbel c2
      have hkc:(k:Int)≤(cap:Int):=by omega
      have HR2:=hid ((HR.out.front (show k≤len by omega)).below hbel)
      have HQ:Hid (linkB g r k=(inB (g k 0) 0 (r - 1) && inB (g k 1) 0 (r - 1) && decide (g k 0 ≠ g k 1) && inB (g k 2) 1 100 && decide (linkAt g k (g k 0) (g k 1) < 0))):=rfl
      clear hbel
      generalize g k 0=x at *
      generalize g k 1=y at *
      generalize g k 2=z at *
      obtain ⟨L,hL⟩:∃ L,linkAt g k x y=L:=⟨_,rfl⟩
      rw [hL] at HQ
      have HL:=hid hL
      clear hL
      obtain ⟨p1,e1⟩:∃ p,inB x 0 (r - 1)=p:=⟨_,rfl⟩
      obtain ⟨p2,e2⟩:∃ p,inB y 0 (r - 1)=p:=⟨_,rfl⟩
      obtain ⟨p3,e3⟩:∃ p,(x == y)=p:=⟨_,rfl⟩
      obtain ⟨p4,e4⟩:∃ p,inB z 1 100=p:=⟨_,rfl⟩
      obtain ⟨p5,e5⟩:∃ p,decide (0≤L)=p:=⟨_,rfl⟩
      have HF:Hid (linkB g r k=(p1 && p2 && !p3 && p4 && !p5)):=by
       show _=_
       rw [HQ.out,e1,e2,e4,← e3,← e5]
       congr 1
       · congr 1
         congr 1
         rw [Bool.eq_iff_iff];simp
       · rw [Bool.eq_iff_iff];simp
      clear HQ
      cases p1 with
      | false =>
       go_wp2_with (go_at_call 54;refine (router_impl _ _ _ HM.out).mono ?_;rintro e w' ⟨rfl,rfl⟩)
       go_ret
       exact ⟨ret_bool (by rw [hd.out];exact (allN_false hlt HF.out).symm),HB.out.trans ((show Below wr.heap.size wr _ from Bl).mono HB.out.size)⟩
      | true =>
      cases p2 with
      | false =>
       go_wp2_with (go_at_call 54;refine (router_impl _ _ _ HM.out).mono ?_;rintro e w' ⟨rfl,rfl⟩)
       go_ret
       exact ⟨ret_bool (by rw [hd.out];exact (allN_false hlt HF.out).symm),HB.out.trans ((show Below wr.heap.size wr _ from Bl).mono HB.out.size)⟩
      | true =>
      cases p3 with
      | true =>
       go_wp2_with (go_at_call 54;refine (router_impl _ _ _ HM.out).mono ?_;rintro e w' ⟨rfl,rfl⟩)
       go_ret
       exact ⟨ret_bool (by rw [hd.out];exact (allN_false hlt HF.out).symm),HB.out.trans ((show Below wr.heap.size wr _ from Bl).mono HB.out.size)⟩
      | false =>
      cases p4 with
      | false =>
       go_wp2_with (go_at_call 54;refine (router_impl _ _ _ HM.out).mono ?_;rintro e w' ⟨rfl,rfl⟩)
       go_quiet (first | (go_at_call 28;exact Calls.quiet_of_same (within_impl _ _ _ _)))
       go_wp2
       go_ret
       exact ⟨ret_bool (by rw [hd.out];exact (allN_false hlt HF.out).symm),HB.out.trans (((show Below wr.heap.size wr _ from Bl).trans ((below_drewN _ _).mono (by simp))).mono HB.out.size)⟩
      | true =>
       go_wp2_with (go_at_call 54;refine (router_impl _ _ _ HM.out).mono ?_;rintro e w' ⟨rfl,rfl⟩)
       -- BEGIN region 8
       refine region_below (fun u=>⟨#[.slice (some ⟨b0,off,none⟩) len cap,.int .i64 r,undef,undef,u4,.int .i64 k,.pointer (some ⟨wr.heap.size,0,none⟩),.slice (some ⟨b0,off,none⟩) len cap,.int .i64 len,.bool false,.slice (some ⟨b0,off,none⟩) len cap,.int .i64 len,.int .i64 k,.bool true,.int .i64 k,.pointer (some ⟨b0,off+k * 3,none⟩),.agg #[.int .i64 x,.int .i64 y,.int .i64 z],.pointer (some ⟨wr.heap.size,0,none⟩),.int .i64 x,.int .i64 r,.bool true,.bool false,.bool false,.pointer (some ⟨wr.heap.size,1,none⟩),.int .i64 y,.int .i64 r,.bool true,.bool false,.bool false,.bool false,.pointer (some ⟨wr.heap.size,0,none⟩),.int .i64 x,.pointer (some ⟨wr.heap.size,1,none⟩),.int .i64 y,.bool false,.bool false,u 36,u 37,u 38,u 39,u 40,u 41,u 42,u 43,u 44,u 45,u 46,u 47,u 48,u49,u50],[]⟩) (fun i=>[36,37,38,39,40,41,42,43,44,45,46,47,48].getD i 0) (fun i v w8=>match i with | 0=>v=.pointer (some ⟨wr.heap.size,2,none⟩) | 1=>v=.int .i64 z | 2=>v=.bool true | 3=>v=.bool false | 4=>v=.bool false | 5=>v=.slice (some ⟨b0,off,none⟩) len cap | 6=>v=.int .i64 k | 7=>v=.slice (some ⟨b0,off,none⟩) k cap | 8=>v=.pointer (some ⟨wr.heap.size,0,none⟩) | 9=>v=.int .i64 x | 10=>v=.pointer (some ⟨wr.heap.size,1,none⟩) | 11=>v=.int .i64 y | 12=>v=.bool p5 | _=>True) _ 13 (fun k=>match k with | 36=>u36 | 37=>u37 | 38=>u38 | 39=>u39 | 40=>u40 | 41=>u41 | 42=>u42 | 43=>u43 | 44=>u44 | 45=>u45 | 46=>u46 | 47=>u47 | 48=>u48 | _=>undef) (by rfl) (by kernel_rfl) (by rfl) ⟨by kernel_rfl,by kernel_rfl,by kernel_rfl,by decide⟩ (by kernel_rfl) (Below.refl _ _) ?hput ?hinj ?stable ?step ?last
       case hput =>
        intro i hi u v
        match i,hi with
        | 0,_=>rfl
        | 1,_=>rfl
        | 2,_=>rfl
        | 3,_=>rfl
        | 4,_=>rfl
        | 5,_=>rfl
        | 6,_=>rfl
        | 7,_=>rfl
        | 8,_=>rfl
        | 9,_=>rfl
        | 10,_=>rfl
        | 11,_=>rfl
        | 12,_=>rfl
        | i+13,hi=>exact absurd hi (by omega)
       case hinj =>
        intro i j hi hj h
        exact slots_inj [36,37,38,39,40,41,42,43,44,45,46,47,48] (by decide) hi hj h
       case stable =>
        intro i v w8 w9 hb h
        match i,h with
        | 0,h=>exact h
        | 1,h=>exact h
        | 2,h=>exact h
        | 3,h=>exact h
        | 4,h=>exact h
        | 5,h=>exact h
        | 6,h=>exact h
        | 7,h=>exact h
        | 8,h=>exact h
        | 9,h=>exact h
        | 10,h=>exact h
        | 11,h=>exact h
        | 12,h=>exact h
        | _+13,h=>trivial
       case step =>
        intro i hi u w8 S8 hdep
        match i,hi with
        | 0,_ =>
         clear hdep
         refine ⟨_,rfl,fun K' hK=>?_⟩
         go_simp
         exact hK.out _ _ (Below.refl _ _) rfl
        | 1,_ =>
         have h0:(u 36)=.pointer (some ⟨wr.heap.size,2,none⟩):=hdep 0 (by kernel_rfl)
         clear hdep
         refine ⟨_,rfl,fun K' hK=>?_⟩
         have hc:w8.cell? ⟨wr.heap.size,2,none⟩=some (.int .i64 z):=keep S8 (by simp [go_sem])
         simp only [h0] at hK ⊢
         go_simp
         exact hK.out _ _ (Below.refl _ _) rfl
        | 2,_ =>
         have h1:(u 37)=.int .i64 z:=hdep 1 (by kernel_rfl)
         clear hdep
         refine ⟨_,rfl,fun K' hK=>?_⟩
         simp only [h1] at hK ⊢
         go_simp
         refine (within_impl z 1 100 _).mono ?_
         rintro e w9 ⟨rfl,rfl⟩
         exact hK.out _ _ (Below.refl _ _) (by rw [e4])
        | 3,_ =>
         have h2:(u 38)=.bool true:=hdep 2 (by kernel_rfl)
         clear hdep
         refine ⟨_,rfl,fun K' hK=>?_⟩
         simp only [h2] at hK ⊢
         go_simp
         exact hK.out _ _ (Below.refl _ _) rfl
        | 4,_ =>
         have h3:(u 39)=.bool false:=hdep 3 (by kernel_rfl)
         clear hdep
         refine ⟨_,rfl,fun K' hK=>?_⟩
         simp only [h3] at hK ⊢
         go_simp
         exact hK.out _ _ (Below.refl _ _) rfl
        | 5,_ =>
         have h4:(u 40)=.bool false:=hdep 4 (by kernel_rfl)
         clear hdep
         refine ⟨_,rfl,fun K' hK=>?_⟩
         simp only [h4] at hK ⊢
         go_simp
         exact hK.out _ _ (Below.refl _ _) rfl
        | 6,_ =>
         have h4:(u 40)=.bool false:=hdep 4 (by kernel_rfl)
         clear hdep
         refine ⟨_,rfl,fun K' hK=>?_⟩
         simp only [h4] at hK ⊢
         go_simp
         exact hK.out _ _ (Below.refl _ _) rfl
        | 7,_ =>
         have h4:(u 40)=.bool false:=hdep 4 (by kernel_rfl)
         have h5:(u 41)=.slice (some ⟨b0,off,none⟩) len cap:=hdep 5 (by kernel_rfl)
         have h6:(u 42)=.int .i64 k:=hdep 6 (by kernel_rfl)
         clear hdep
         refine ⟨_,rfl,fun K' hK=>?_⟩
         simp only [h4,h5,h6] at hK ⊢
         go_simp
         exact hK.out _ _ (Below.refl _ _) rfl
        | 8,_ =>
         have h4:(u 40)=.bool false:=hdep 4 (by kernel_rfl)
         clear hdep
         refine ⟨_,rfl,fun K' hK=>?_⟩
         simp only [h4] at hK ⊢
         go_simp
         exact hK.out _ _ (Below.refl _ _) rfl
        | 9,_ =>
         have h4:(u 40)=.bool false:=hdep 4 (by kernel_rfl)
         have h8:(u 44)=.pointer (some ⟨wr.heap.size,0,none⟩):=hdep 8 (by kernel_rfl)
         clear hdep
         refine ⟨_,rfl,fun K' hK=>?_⟩
         have hc:w8.cell? ⟨wr.heap.size,0,none⟩=some (.int .i64 x):=keep S8 (by simp [go_sem])
         simp only [h4,h8] at hK ⊢
         go_simp
         exact hK.out _ _ (Below.refl _ _) rfl
        | 10,_ =>
         have h4:(u 40)=.bool false:=hdep 4 (by kernel_rfl)
         clear hdep
         refine ⟨_,rfl,fun K' hK=>?_⟩
         simp only [h4] at hK ⊢
         go_simp
         exact hK.out _ _ (Below.refl _ _) rfl
        | 11,_ =>
         have h4:(u 40)=.bool false:=hdep 4 (by kernel_rfl)
         have h10:(u 46)=.pointer (some ⟨wr.heap.size,1,none⟩):=hdep 10 (by kernel_rfl)
         clear hdep
         refine ⟨_,rfl,fun K' hK=>?_⟩
         have hc:w8.cell? ⟨wr.heap.size,1,none⟩=some (.int .i64 y):=keep S8 (by simp [go_sem])
         simp only [h4,h10] at hK ⊢
         go_simp
         exact hK.out _ _ (Below.refl _ _) rfl
        | 12,_ =>
         have h4:(u 40)=.bool false:=hdep 4 (by kernel_rfl)
         have h7:(u 43)=.slice (some ⟨b0,off,none⟩) k cap:=hdep 7 (by kernel_rfl)
         have h9:(u 45)=.int .i64 x:=hdep 9 (by kernel_rfl)
         have h11:(u 47)=.int .i64 y:=hdep 11 (by kernel_rfl)
         clear hdep
         refine ⟨_,rfl,fun K' hK=>?_⟩
         simp only [h4,h7,h9,h11] at hK ⊢
         go_simp
         refine (joined_impl (some ⟨b0,off,none⟩) k cap g x y _ ((HR2.out.below Bl).below S8)).mono ?_
         rintro e w9 ⟨rfl,hb9⟩
         exact hK.out _ _ hb9 (by rw [HL.out,e5])
        | i+13,hi=>exact absurd hi (by omega)
       case last =>
        intro u w8 S8 hall
        have h4:(u 40)=.bool false:=hall 4 (by decide)
        have h12:(u 48)=.bool p5:=hall 12 (by decide)
        clear hall
        refine ⟨_,rfl,fun K' hK=>?_⟩
        simp only [h4,h12] at hK ⊢
        go_simp
        refine hK.out _ _ ?_
        have HB9:=hid (HB.out.trans (((show Below wr.heap.size wr _ from Bl).trans (S8.mono (by simp))).mono HB.out.size))
        clear S8
        generalize hu:u=u9 at *
        clear hu
        clear hK K' h4 h12
        (try simp only [Exit.then])
        cases p5 with
        | true =>
         go_wp2
         go_ret
         exact ⟨ret_bool (by rw [hd.out];exact (allN_false hlt HF.out).symm),HB9.out⟩
        | false =>
         go_wp2
         go_roundw
         case rel =>
          refine ⟨k+1,by omega,by go_num,fun j hj=>?_,HB9.out⟩
          by_cases e:j=k
          · subst e;exact HF.out
          · exact HA.out j (by omega)
         case measure=>simp [intOf];omega
       -- END region 8
    · have e:k=len:=by omega
      subst e
      go_wp2
      go_ret
      exact ⟨ret_bool (by rw [hd.out];exact (allN_of HA.out).symm),HB.out⟩
 · have hf:linksB g len r=false:=by unfold linksB;rw [decide_eq_false hin];rfl
   have hlen:decide ((6:Int) < (len:Int))=true:=decide_eq_true (by omega)
   rw [hf]
   clear hf hin
   go_enter Tryz.func77,Tryz.ntmps77
   go_wp2
   go_ret
   exact ⟨rfl,Below.refl _ _⟩
end Go.Proofs.YtajhklklbfnmpaaGreat.netParts
