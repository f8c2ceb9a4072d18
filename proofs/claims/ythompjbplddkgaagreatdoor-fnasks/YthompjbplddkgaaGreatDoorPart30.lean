import Derived.Test.YthompjbplddkgaaGreatDoorPart29
set_option linter.unusedVariables false
namespace Go.Proofs.YthompjbplddkgaaGreatDoor.stabLaw
open Go.RowKit Go.Deep Go base names netSem netSpec routeRow routesB routesSpec nbSem candSem candEnv candImp intsOwn candSpec candFace sceneFault sceneFace walkSem rtsRow bestRoute bestFace stabImpl stabFace stabSpec
theorem cand_via {g : R} {nl : Nat} {o e : List Int} {x : R} {nx : Nat} {env : List Int} {ds : List Bool} {rs : Rs} {n : Nat} {router : Int} : ∀ r∈candL g nl o e x nx env ds rs n router,r.via≠-3 := by
 intro r hr
 simp only [candL,List.mem_append,List.mem_flatMap] at hr
 rcases hr with (hr|hr)|⟨j,hj,hr⟩
 · unfold ownC at hr
   split at hr
   · simp only [List.mem_singleton] at hr;rw [hr];decide
   · cases hr
 · unfold extC at hr
   split at hr
   · simp only [List.mem_singleton] at hr;rw [hr];show (-1:Int)≠-3;decide
   · cases hr
 · have hj0 : 0 ≤ j := by
    unfold nbL at hj
    simp only [List.mem_map] at hj
    obtain ⟨k,_,rfl⟩:=hj
    omega
   unfold candOf at hr
   split at hr
   · cases hr
   · split at hr
     · cases hr
     · cases hi:impR g nl x nx router j (rs j.toNat) with
       | none=>rw [hi] at hr;cases hr
       | some q =>
        rw [hi] at hr
        simp only [List.mem_singleton] at hr
        subst hr
        have:=(impK_via (show impK x router j (startI j (g (linkAt g nl router j).toNat 2) (rs j.toNat)) nx=some r from hi)).1
        rw [this]
        show j≠-3
        omega
theorem rF_mem {zs:List Rt} {i:Nat} (h:i<zs.length):rF zs i∈zs:=by
 unfold rF
 rw [List.getElem?_eq_getElem h]
 exact List.getElem_mem h
set_option maxHeartbeats 3200000 in
set_option maxRecDepth 8000 in
theorem stable_spec (p:Nat→Option Addr) (l c:Nat→Nat) (s:Ss) (g:R) (o e:List Int) (x f:R) (ea da ra:Option Addr) (ec dc cr:Nat) (env:List Int) (ds:List Bool) (rs:Rs) (w:World) (h:NetIs w p l s g o e x f) (he:IntRow w ea (l 3) env) (hd:BoolRow w da (l 1) ds) (hr:RtRow w ra (l 0) rs) (hgd:sceneBy.Good (l 0) l g x rs) :
  Calls Tryz.prog 80 #[netV p l c,.slice ea (l 3) ec,.slice da (l 1) dc,.slice ra (l 0) cr] w fun e' w'=>e' = .returned (.bool (stabB g (l 1) o e x (l 4) env ds rs (l 0)))∧Below w.heap.size w w' := by
 have HN:=hid h
 have HE:=hid he
 have HD:=hid hd
 have HR:=hid hr
 have HGd:=hid hgd
 have h4:=hgd.few
 clear h he hd hr hgd
 have C1:∀ w8:World,Below ((w.alloc (.cells #[.slice (p 0) (l 0) (c 0),.slice (p 1) (l 1) (c 1),.slice (p 2) (l 2) (c 2),.slice (p 3) (l 3) (c 3),.slice (p 4) (l 4) (c 4),.slice (p 5) (l 5) (c 5)] 29))).heap.size (w.alloc (.cells #[.slice (p 0) (l 0) (c 0),.slice (p 1) (l 1) (c 1),.slice (p 2) (l 2) (c 2),.slice (p 3) (l 3) (c 3),.slice (p 4) (l 4) (c 4),.slice (p 5) (l 5) (c 5)] 29)) w8→(w8.cell? ⟨w.heap.size,0,none⟩=some (.slice (p 0) (l 0) (c 0))∧w8.cell? ⟨w.heap.size,1,none⟩=some (.slice (p 1) (l 1) (c 1))∧w8.cell? ⟨w.heap.size,2,none⟩=some (.slice (p 2) (l 2) (c 2))∧w8.cell? ⟨w.heap.size,3,none⟩=some (.slice (p 3) (l 3) (c 3))∧w8.cell? ⟨w.heap.size,4,none⟩=some (.slice (p 4) (l 4) (c 4))∧w8.cell? ⟨w.heap.size,5,none⟩=some (.slice (p 5) (l 5) (c 5)))∧Below w.heap.size w w8 :=
  fun w8 hb=>⟨⟨keep hb (by simp [go_sem]),keep hb (by simp [go_sem]),keep hb (by simp [go_sem]),keep hb (by simp [go_sem]),keep hb (by simp [go_sem]),keep hb (by simp [go_sem])⟩,(show Below w.heap.size w _ from Bl).trans (hb.mono (by simp))⟩
 have HC1:=hid C1
 clear C1
 have HCa:Hid (∀ (W:World) (k:Nat),Below w.heap.size w W→Calls Tryz.prog 98 #[netV p l c,.int .i64 (k:Int),.slice ea (l 3) ec,.slice da (l 1) dc,.slice ra (l 0) cr] W fun e' w'=>∃ v,e' = .returned v∧OwnRts W.heap.size w' v (candL g (l 1) o e x (l 4) env ds rs (l 0) (k:Int))∧Below W.heap.size W w') :=
  fun W k hb=>cand_spec p l c s g o e x f (k:Int) ea da ra ec dc cr env ds rs W (HN.out.below hb) (HE.out.below hb) (HD.out.below hb) (HR.out.below hb) HGd.out.few HGd.out.cost (fun i hi=>(HGd.out.via i hi).2) HGd.out.len
 have HYes:Hid ((∀ i,i<l 0→bst (candL g (l 1) o e x (l 4) env ds rs (l 0) (i:Int))=rs i)→stabB g (l 1) o e x (l 4) env ds rs (l 0)=true):=fun h=>by
  unfold stabB
  exact same_yes (fun i hi=>h i hi)
 have HNo:Hid (∀ k,k<l 0→bst (candL g (l 1) o e x (l 4) env ds rs (l 0) (k:Int))≠rs k→stabB g (l 1) o e x (l 4) env ds rs (l 0)=false):=fun k hk h=>by
  unfold stabB
  exact same_no (k:=k) hk h
 obtain ⟨S,hS⟩:∃ S,stabB g (l 1) o e x (l 4) env ds rs (l 0)=S:=⟨_,rfl⟩
 rw [hS] at HYes HNo ⊢
 clear hS
 unfold netV at HCa ⊢
 go_enter Tryz.func80,Tryz.ntmps80
 go_wp2
 go_loopw [9] (fun i wr=>∃ k:Nat,k≤l 0∧i=.int .i64 k∧(∀ j,j<k→bst (candL g (l 1) o e x (l 4) env ds rs (l 0) (j:Int))=rs j)∧Below (w.alloc (.cells #[.slice (p 0) (l 0) (c 0),.slice (p 1) (l 1) (c 1),.slice (p 2) (l 2) (c 2),.slice (p 3) (l 3) (c 3),.slice (p 4) (l 4) (c 4),.slice (p 5) (l 5) (c 5)] 29)).heap.size (w.alloc (.cells #[.slice (p 0) (l 0) (c 0),.slice (p 1) (l 1) (c 1),.slice (p 2) (l 2) (c 2),.slice (p 3) (l 3) (c 3),.slice (p 4) (l 4) (c 4),.slice (p 5) (l 5) (c 5)] 29)) wr) (fun i _=>l 0 - (intOf i).toNat)
 case atStart=>exact ⟨0,Nat.zero_le _,rfl,fun j hj=>absurd hj (Nat.not_lt_zero _),Below.refl _ _⟩
 case round =>
  obtain ⟨k,hk,rfl,ha,hbel⟩:=hrel
  have HA:=hid ha
  have HB:=hid hbel
  obtain ⟨⟨q0,q1,q2,q3,q4,q5⟩,hB⟩:=HC1.out wr hbel
  have BW:=hid hB
  have hz0:w.heap.size<wr.heap.size:=by have:=hbel.size;simp at this;omega
  clear ha hbel hB
  by_cases hlt:k<l 0
  · obtain ⟨b0,off,era,c0,c1,c2,c3⟩:=(HR.out.below BW.out).at4 hlt
    have hb0:=World.block_lt_of_cell? _ _ c0
    dsimp only at hb0
    have HCk:=hid (HCa.out)
    have HM:Hid (∀ r,bst (candL g (l 1) o e x (l 4) env ds rs (l 0) (k:Int))=r→r≠rs k→S=false):=fun r h1 h2=>(HNo.out k hlt (by rw [h1];exact h2)).symm ▸ rfl
    have HE1:Hid (∀ r,bst (candL g (l 1) o e x (l 4) env ds rs (l 0) (k:Int))=r→r=rs k→∀ j,j<k+1→bst (candL g (l 1) o e x (l 4) env ds rs (l 0) (j:Int))=rs j):=fun r h1 h2 j hj=>by
     by_cases ej:j=k
     · subst ej;rw [h1];exact h2
     · exact HA.out j (by omega)
    obtain ⟨zs,hzs⟩:∃ zs,candL g (l 1) o e x (l 4) env ds rs (l 0) (k:Int)=zs:=⟨_,rfl⟩
    have HV:Hid (∀ i,i<zs.length→(rF zs i).via≠-3):=fun i hi=>by
     have h1:=rF_mem hi
     rw [← hzs] at h1
     rw [← hzs]
     exact cand_via _ h1
    have HCk:Hid (∀ W:World,Below w.heap.size w W→Calls Tryz.prog 98 #[.agg #[.slice (p 0) (l 0) (c 0),.slice (p 1) (l 1) (c 1),.slice (p 2) (l 2) (c 2),.slice (p 3) (l 3) (c 3),.slice (p 4) (l 4) (c 4),.slice (p 5) (l 5) (c 5)],.int .i64 (k:Int),.slice ea (l 3) ec,.slice da (l 1) dc,.slice ra (l 0) cr] W fun e' w'=>∃ v,e' = .returned v∧OwnRts W.heap.size w' v zs∧Below W.heap.size W w'):=fun W hb=>by
     rw [← hzs]
     exact HCa.out W k hb
    rw [hzs] at HM HE1
    obtain ⟨r,hr⟩:∃ r,bst zs=r:=⟨_,rfl⟩
    have HBr:Hid (bstK (rF zs) zs.length=r):=hr
    rw [hr] at HM HE1
    obtain ⟨y,hy⟩:∃ y,rs k=y:=⟨_,rfl⟩
    have HM2:Hid (r≠y→S=false):=fun h=>HM.out r rfl (by rw [hy];exact h)
    have HE2:Hid (r=y→∀ j,j<k+1→bst (candL g (l 1) o e x (l 4) env ds rs (l 0) (j:Int))=rs j):=fun h=>HE1.out r rfl (by rw [hy];exact h)
    rw [hy] at c0 c1 c2 c3
    clear hzs hr hy HM HE1
    obtain ⟨y0,y1,y2,y3⟩:=y
    dsimp only at c0 c1 c2 c3
    have HK:Hid (∀ w8:World,Below wr.heap.size wr w8→w8.cell? ⟨w.heap.size,0,none⟩=some (.slice (p 0) (l 0) (c 0))∧w8.cell? ⟨w.heap.size,1,none⟩=some (.slice (p 1) (l 1) (c 1))∧w8.cell? ⟨w.heap.size,2,none⟩=some (.slice (p 2) (l 2) (c 2))∧w8.cell? ⟨w.heap.size,3,none⟩=some (.slice (p 3) (l 3) (c 3))∧w8.cell? ⟨w.heap.size,4,none⟩=some (.slice (p 4) (l 4) (c 4))∧w8.cell? ⟨w.heap.size,5,none⟩=some (.slice (p 5) (l 5) (c 5))∧w8.cell? ⟨b0,off+k*4,none⟩=some (.int .i64 y0)∧w8.cell? ⟨b0,off+k*4+1,none⟩=some (.int .i64 y1)∧w8.cell? ⟨b0,off+k*4+2,none⟩=some (.int .i64 y2)∧w8.cell? ⟨b0,off+k*4+3,none⟩=some (.bool y3)∧Below wr.heap.size wr w8):=fun w8 h=>⟨keep h q0,keep h q1,keep h q2,keep h q3,keep h q4,keep h q5,keep h c0,keep h c1,keep h c2,keep h c3,h⟩
    rw [era] at HCk ⊢
    clear q0 q1 q2 q3 q4 q5 c0 c1 c2 c3
    obtain ⟨r0,r1,r2,r3⟩:=r
    by_cases e0:r0=y0
    · have e0:=e0.symm
      subst e0
      by_cases e1:r1=y1
      · have e1:=e1.symm
        subst e1
        by_cases e2:r2=y2
        · have e2:=e2.symm
          subst e2
          by_cases e3:r3=y3
          · have e3:=e3.symm
            subst e3
            have HE3:=hid (HE2.out rfl)
            go_wp2_with fail
            go_region_held3 (fun w8=>w8.cell? ⟨w.heap.size,0,none⟩=some (.slice (p 0) (l 0) (c 0))∧w8.cell? ⟨w.heap.size,1,none⟩=some (.slice (p 1) (l 1) (c 1))∧w8.cell? ⟨w.heap.size,2,none⟩=some (.slice (p 2) (l 2) (c 2))∧w8.cell? ⟨w.heap.size,3,none⟩=some (.slice (p 3) (l 3) (c 3))∧w8.cell? ⟨w.heap.size,4,none⟩=some (.slice (p 4) (l 4) (c 4))∧w8.cell? ⟨w.heap.size,5,none⟩=some (.slice (p 5) (l 5) (c 5))∧w8.cell? ⟨b0,off+k*4,none⟩=some (.int .i64 y0)∧w8.cell? ⟨b0,off+k*4+1,none⟩=some (.int .i64 y1)∧w8.cell? ⟨b0,off+k*4+2,none⟩=some (.int .i64 y2)∧w8.cell? ⟨b0,off+k*4+3,none⟩=some (.bool y3)∧Below wr.heap.size wr w8)
             (refine HK.out _ (by first|assumption|exact (Below.refl _ wr).drew|exact hb6'|exact hb7'))
             (first
              | (go_at_call 99;refine (best_of av zs.length cv (rF zs) _ HRow.out HV.out).mono ?_;rintro e' w7 ⟨rfl,hb7⟩;have hb7':Below wr.heap.size wr w7:=hb6'.trans (hb7.mono hb6'.size);rw [HBr.out];clear hb7;simp only [rtV])
              | (go_at_call 98;refine (HCk.out _ BW.out.drew).mono ?_;rintro e' w6 ⟨v6,rfl,ho6,hb6⟩;have hb6':Below wr.heap.size wr w6:=((Below.refl _ wr).drew).trans hb6;obtain ⟨av,cv,rfl,hrow6⟩:=rts_form ho6;have HRow:=hid hrow6;clear hb6 ho6 hrow6))
            all_goals
             have HB7:=hid (HB.out.trans (hb7'.mono HB.out.size))
             clear hb7' hb6'
             go_wp2
             go_roundw
             case rel=>exact ⟨k+1,by omega,by go_num,HE3.out,HB7.out⟩
             case measure=>simp [intOf];omega
          · have f:(r3 == y3)=false:=by simp [e3]
            have HF:Hid (S=false):=HM2.out (fun h=>e3 (by injection h))
            clear e3
            go_wp2_with fail
            go_region_held3 (fun w8=>w8.cell? ⟨w.heap.size,0,none⟩=some (.slice (p 0) (l 0) (c 0))∧w8.cell? ⟨w.heap.size,1,none⟩=some (.slice (p 1) (l 1) (c 1))∧w8.cell? ⟨w.heap.size,2,none⟩=some (.slice (p 2) (l 2) (c 2))∧w8.cell? ⟨w.heap.size,3,none⟩=some (.slice (p 3) (l 3) (c 3))∧w8.cell? ⟨w.heap.size,4,none⟩=some (.slice (p 4) (l 4) (c 4))∧w8.cell? ⟨w.heap.size,5,none⟩=some (.slice (p 5) (l 5) (c 5))∧w8.cell? ⟨b0,off+k*4,none⟩=some (.int .i64 y0)∧w8.cell? ⟨b0,off+k*4+1,none⟩=some (.int .i64 y1)∧w8.cell? ⟨b0,off+k*4+2,none⟩=some (.int .i64 y2)∧w8.cell? ⟨b0,off+k*4+3,none⟩=some (.bool y3)∧Below wr.heap.size wr w8)
             (refine HK.out _ (by first|assumption|exact (Below.refl _ wr).drew|exact hb6'|exact hb7'))
             (first
              | (go_at_call 99;refine (best_of av zs.length cv (rF zs) _ HRow.out HV.out).mono ?_;rintro e' w7 ⟨rfl,hb7⟩;have hb7':Below wr.heap.size wr w7:=hb6'.trans (hb7.mono hb6'.size);rw [HBr.out];clear hb7;simp only [rtV])
              | (go_at_call 98;refine (HCk.out _ BW.out.drew).mono ?_;rintro e' w6 ⟨v6,rfl,ho6,hb6⟩;have hb6':Below wr.heap.size wr w6:=((Below.refl _ wr).drew).trans hb6;obtain ⟨av,cv,rfl,hrow6⟩:=rts_form ho6;have HRow:=hid hrow6;clear hb6 ho6 hrow6))
            all_goals
             have HB7:=hid (BW.out.trans (hb7'.mono BW.out.size))
             clear hb7' hb6'
             go_wp2
             go_ret
             exact ⟨ret_bool HF.out.symm,HB7.out⟩
        · have f:(r2 == y2)=false:=by simp [e2]
          have HF:Hid (S=false):=HM2.out (fun h=>e2 (by injection h))
          clear e2
          go_wp2_with fail
          go_region_held3 (fun w8=>w8.cell? ⟨w.heap.size,0,none⟩=some (.slice (p 0) (l 0) (c 0))∧w8.cell? ⟨w.heap.size,1,none⟩=some (.slice (p 1) (l 1) (c 1))∧w8.cell? ⟨w.heap.size,2,none⟩=some (.slice (p 2) (l 2) (c 2))∧w8.cell? ⟨w.heap.size,3,none⟩=some (.slice (p 3) (l 3) (c 3))∧w8.cell? ⟨w.heap.size,4,none⟩=some (.slice (p 4) (l 4) (c 4))∧w8.cell? ⟨w.heap.size,5,none⟩=some (.slice (p 5) (l 5) (c 5))∧w8.cell? ⟨b0,off+k*4,none⟩=some (.int .i64 y0)∧w8.cell? ⟨b0,off+k*4+1,none⟩=some (.int .i64 y1)∧w8.cell? ⟨b0,off+k*4+2,none⟩=some (.int .i64 y2)∧w8.cell? ⟨b0,off+k*4+3,none⟩=some (.bool y3)∧Below wr.heap.size wr w8)
           (refine HK.out _ (by first|assumption|exact (Below.refl _ wr).drew|exact hb6'|exact hb7'))
           (first
            | (go_at_call 99;refine (best_of av zs.length cv (rF zs) _ HRow.out HV.out).mono ?_;rintro e' w7 ⟨rfl,hb7⟩;have hb7':Below wr.heap.size wr w7:=hb6'.trans (hb7.mono hb6'.size);rw [HBr.out];clear hb7;simp only [rtV])
            | (go_at_call 98;refine (HCk.out _ BW.out.drew).mono ?_;rintro e' w6 ⟨v6,rfl,ho6,hb6⟩;have hb6':Below wr.heap.size wr w6:=((Below.refl _ wr).drew).trans hb6;obtain ⟨av,cv,rfl,hrow6⟩:=rts_form ho6;have HRow:=hid hrow6;clear hb6 ho6 hrow6))
          all_goals
           have HB7:=hid (BW.out.trans (hb7'.mono BW.out.size))
           clear hb7' hb6'
           go_wp2
           go_ret
           exact ⟨ret_bool HF.out.symm,HB7.out⟩
      · have f:(r1 == y1)=false:=by simp [e1]
        have HF:Hid (S=false):=HM2.out (fun h=>e1 (by injection h))
        clear e1
        go_wp2_with fail
        go_region_held3 (fun w8=>w8.cell? ⟨w.heap.size,0,none⟩=some (.slice (p 0) (l 0) (c 0))∧w8.cell? ⟨w.heap.size,1,none⟩=some (.slice (p 1) (l 1) (c 1))∧w8.cell? ⟨w.heap.size,2,none⟩=some (.slice (p 2) (l 2) (c 2))∧w8.cell? ⟨w.heap.size,3,none⟩=some (.slice (p 3) (l 3) (c 3))∧w8.cell? ⟨w.heap.size,4,none⟩=some (.slice (p 4) (l 4) (c 4))∧w8.cell? ⟨w.heap.size,5,none⟩=some (.slice (p 5) (l 5) (c 5))∧w8.cell? ⟨b0,off+k*4,none⟩=some (.int .i64 y0)∧w8.cell? ⟨b0,off+k*4+1,none⟩=some (.int .i64 y1)∧w8.cell? ⟨b0,off+k*4+2,none⟩=some (.int .i64 y2)∧w8.cell? ⟨b0,off+k*4+3,none⟩=some (.bool y3)∧Below wr.heap.size wr w8)
         (refine HK.out _ (by first|assumption|exact (Below.refl _ wr).drew|exact hb6'|exact hb7'))
         (first
          | (go_at_call 99;refine (best_of av zs.length cv (rF zs) _ HRow.out HV.out).mono ?_;rintro e' w7 ⟨rfl,hb7⟩;have hb7':Below wr.heap.size wr w7:=hb6'.trans (hb7.mono hb6'.size);rw [HBr.out];clear hb7;simp only [rtV])
          | (go_at_call 98;refine (HCk.out _ BW.out.drew).mono ?_;rintro e' w6 ⟨v6,rfl,ho6,hb6⟩;have hb6':Below wr.heap.size wr w6:=((Below.refl _ wr).drew).trans hb6;obtain ⟨av,cv,rfl,hrow6⟩:=rts_form ho6;have HRow:=hid hrow6;clear hb6 ho6 hrow6))
        all_goals
         have HB7:=hid (BW.out.trans (hb7'.mono BW.out.size))
         clear hb7' hb6'
         go_wp2
         go_ret
         exact ⟨ret_bool HF.out.symm,HB7.out⟩
    · have f:(r0 == y0)=false:=by simp [e0]
      have HF:Hid (S=false):=HM2.out (fun h=>e0 (by injection h))
      clear e0
      go_wp2_with fail
      go_region_held3 (fun w8=>w8.cell? ⟨w.heap.size,0,none⟩=some (.slice (p 0) (l 0) (c 0))∧w8.cell? ⟨w.heap.size,1,none⟩=some (.slice (p 1) (l 1) (c 1))∧w8.cell? ⟨w.heap.size,2,none⟩=some (.slice (p 2) (l 2) (c 2))∧w8.cell? ⟨w.heap.size,3,none⟩=some (.slice (p 3) (l 3) (c 3))∧w8.cell? ⟨w.heap.size,4,none⟩=some (.slice (p 4) (l 4) (c 4))∧w8.cell? ⟨w.heap.size,5,none⟩=some (.slice (p 5) (l 5) (c 5))∧w8.cell? ⟨b0,off+k*4,none⟩=some (.int .i64 y0)∧w8.cell? ⟨b0,off+k*4+1,none⟩=some (.int .i64 y1)∧w8.cell? ⟨b0,off+k*4+2,none⟩=some (.int .i64 y2)∧w8.cell? ⟨b0,off+k*4+3,none⟩=some (.bool y3)∧Below wr.heap.size wr w8)
       (refine HK.out _ (by first|assumption|exact (Below.refl _ wr).drew|exact hb6'|exact hb7'))
       (first
        | (go_at_call 99;refine (best_of av zs.length cv (rF zs) _ HRow.out HV.out).mono ?_;rintro e' w7 ⟨rfl,hb7⟩;have hb7':Below wr.heap.size wr w7:=hb6'.trans (hb7.mono hb6'.size);rw [HBr.out];clear hb7;simp only [rtV])
        | (go_at_call 98;refine (HCk.out _ BW.out.drew).mono ?_;rintro e' w6 ⟨v6,rfl,ho6,hb6⟩;have hb6':Below wr.heap.size wr w6:=((Below.refl _ wr).drew).trans hb6;obtain ⟨av,cv,rfl,hrow6⟩:=rts_form ho6;have HRow:=hid hrow6;clear hb6 ho6 hrow6))
      all_goals
       have HB7:=hid (BW.out.trans (hb7'.mono BW.out.size))
       clear hb7' hb6'
       go_wp2
       go_ret
       exact ⟨ret_bool HF.out.symm,HB7.out⟩
  · have e1:k=l 0:=by omega
    have HS:Hid (S=true):=(HYes.out (fun i hi=>HA.out i (by omega))).symm ▸ rfl
    have dk:decide ((k:Int)<(l 0:Int))=false:=decide_eq_false (by omega)
    go_wp2
    go_ret
    exact ⟨ret_bool HS.out.symm,BW.out⟩
end Go.Proofs.YthompjbplddkgaaGreatDoor.stabLaw
namespace Go.Proofs.YthompjbplddkgaaGreatDoor.ssSem
open Go base netSem routeRow nbSem candSem sceneSem sceneCand sceneList rtsRow noRts bestAll stabImpl stabFace stabLaw rofSem prodSem
def ownV (o : List Int) (i : Int) : List Int := if 0≤hasAt o i then [-2] else []
def extV (e env : List Int) (i : Int) : List Int := if 0≤hasAt e i∧0<zAt env (hasAt e i).toNat then [-1] else []
def optL (g : R) (nl : Nat) (o e env : List Int) (ds : List Bool) (n : Nat) (i : Int) : List Int :=
 ownV o i ++ extV e env i ++ (if (ownV o i ++ extV e env i).length=0 then [-3] else []) ++ nbL g nl ds i n
def rowP (g : R) (nl : Nat) (o e env : List Int) (ds : List Bool) (i : Int) (k : Nat) : List Int :=
 ((List.range k).map fun j:Nat=>(j:Int) - 3).filter fun v=>openB g nl o e env ds i v
theorem rowP_succ (g:R) (nl:Nat) (o e env:List Int) (ds:List Bool) (i:Int) (k:Nat):rowP g nl o e env ds i (k+1)=rowP g nl o e env ds i k ++ (if openB g nl o e env ds i ((k:Int) - 3) then [(k:Int) - 3] else []):=by
 unfold rowP
 rw [List.range_succ,List.map_append,List.filter_append]
 congr 1
 simp only [List.map_cons,List.map_nil]
 cases h:openB g nl o e env ds i ((k:Int) - 3) <;> simp [h]
theorem rowP_form (g:R) (nl:Nat) (o e env:List Int) (ds:List Bool) (i:Int) (he:∀ i,0≤zAt env i):∀ k,rowP g nl o e env ds i (k+3) = -3::(ownV o i ++ extV e env i ++ nbL g nl ds i k)
 | 0=>by
  rw [rowP_succ,rowP_succ,rowP_succ]
  have h0:rowP g nl o e env ds i 0=[]:=rfl
  have h3:openB g nl o e env ds i (((0:Nat):Int) - 3)=true:=rfl
  have h2:openB g nl o e env ds i (((0+1:Nat):Int) - 3)=decide (0≤hasAt o i):=rfl
  have h1:openB g nl o e env ds i (((0+1+1:Nat):Int) - 3)=(annA e env i != 0):=rfl
  rw [h0,h3,h2,h1]
  have hn:nbL g nl ds i 0=[]:=by simp [nbL]
  rw [hn]
  unfold ownV extV annA
  by_cases a:0≤hasAt o i
  · by_cases b:0≤hasAt e i
    · have:=he (hasAt e i).toNat
      by_cases c:zAt env (hasAt e i).toNat=0
      · simp [a,b,c]
      · have c':0<zAt env (hasAt e i).toNat:=by omega
        simp [a,b,c,c']
    · simp [a,b]
  · by_cases b:0≤hasAt e i
    · have:=he (hasAt e i).toNat
      by_cases c:zAt env (hasAt e i).toNat=0
      · simp [a,b,c]
      · have c':0<zAt env (hasAt e i).toNat:=by omega
        simp [a,b,c,c']
    · simp [a,b]
 | k+1=>by
  rw [show k+1+3=(k+3)+1 from rfl,rowP_succ,rowP_form g nl o e env ds i he k,nbL_succ]
  have h:openB g nl o e env ds i (((k+3:Nat):Int) - 3)=nbB g nl ds i k:=by
   have e1:((k+3:Nat):Int) - 3=(k:Int):=by omega
   rw [e1]
   unfold openB
   rw [if_neg (by omega),if_neg (by omega),if_neg (by omega),Int.toNat_natCast]
  rw [h,show ((k+3:Nat):Int) - 3=(k:Int) by omega]
  cases nbB g nl ds i k <;> simp
def letsB (o e env : List Int) (i : Int) (v : Int) : Bool := decide (v≠-3) || decide ((ownV o i ++ extV e env i).length=0)
theorem opt_row (g:R) (nl:Nat) (o e env:List Int) (ds:List Bool) (n:Nat) (i:Int) (he:∀ i,0≤zAt env i):optL g nl o e env ds n i=(rowP g nl o e env ds i (n+3)).filter (letsB o e env i):=by
 rw [rowP_form g nl o e env ds i he n,List.filter_cons,List.filter_append,List.filter_append]
 have h2:(ownV o i).filter (letsB o e env i)=ownV o i:=List.filter_eq_self.2 fun v hv=>by
  unfold ownV at hv
  split at hv
  · simp only [List.mem_singleton] at hv;subst hv;rfl
  · cases hv
 have h1:(extV e env i).filter (letsB o e env i)=extV e env i:=List.filter_eq_self.2 fun v hv=>by
  unfold extV at hv
  split at hv
  · simp only [List.mem_singleton] at hv;subst hv;rfl
  · cases hv
 have h0:(nbL g nl ds i n).filter (letsB o e env i)=nbL g nl ds i n:=List.filter_eq_self.2 fun v hv=>by
  unfold nbL at hv
  obtain ⟨j,_,rfl⟩:=List.mem_map.1 hv
  unfold letsB
  rw [decide_eq_true (by omega)]
  rfl
 rw [h2,h1,h0]
 unfold optL
 by_cases hz:(ownV o i ++ extV e env i).length=0
 · have h3:letsB o e env i (-3)=true:=by unfold letsB;rw [decide_eq_true hz];rfl
   rw [if_pos hz,h3,if_pos rfl,List.length_eq_zero_iff.1 hz]
   rfl
 · have h3:letsB o e env i (-3)=false:=by unfold letsB;rw [decide_eq_false hz];rfl
   rw [if_neg hz,h3,if_neg (by decide),List.append_nil]
def goodB (g : R) (nl : Nat) (o e : List Int) (x : R) (nx : Nat) (env : List Int) (ds : List Bool) (n : Nat) (c : List Int) : Bool := okV g nl o e x nx env ds c n && stabB g nl o e x nx env ds (valR g nl o e x nx env ds c n) n
def stateOf (g : R) (nl : Nat) (o e : List Int) (x : R) (nx : Nat) (env : List Int) (ds : List Bool) (n : Nat) (c : List Int) : List Rt := (List.range n).map (valR g nl o e x nx env ds c n)
def statesL (g : R) (nl : Nat) (o e : List Int) (x : R) (nx : Nat) (env : List Int) (ds : List Bool) (n : Nat) (l : List (List Int)) : List (List Rt) := (l.filter (goodB g nl o e x nx env ds n)).map (stateOf g nl o e x nx env ds n)
theorem statesL_snoc (g:R) (nl:Nat) (o e:List Int) (x:R) (nx:Nat) (env:List Int) (ds:List Bool) (n:Nat) (l:List (List Int)) (c:List Int):statesL g nl o e x nx env ds n (l ++ [c])=statesL g nl o e x nx env ds n l ++ (if goodB g nl o e x nx env ds n c then [stateOf g nl o e x nx env ds n c] else []):=by
 unfold statesL
 rw [List.filter_append,List.map_append]
 congr 1
 cases h:goodB g nl o e x nx env ds n c <;> simp [h]
variable {g : R} {nl nx : Nat} {o e : List Int} {x : R} {env : List Int} {ds : List Bool} {n : Nat}
theorem bst_none {zs:List Rt} (h:bst zs=noRt) (hv:∀ r∈zs,r.via≠-3):zs=[]:=by
 cases zs with
 | nil=>rfl
 | cons a zs =>
  exfalso
  have hpos:0<(a::zs).length:=by simp
  rw [bst_some hpos] at h
  have key:∀ k,k<(a::zs).length→∃ i,i≤k∧bestTo (rF (a::zs)) k=rF (a::zs) i:=by
   intro k
   induction k with
   | zero=>intro _;exact ⟨0,Nat.le_refl _,rfl⟩
   | succ k ih =>
    intro hk
    simp only [bestTo]
    split
    · exact ⟨k+1,Nat.le_refl _,rfl⟩
    · obtain ⟨i,hi,e⟩:=ih (by omega)
      exact ⟨i,by omega,e⟩
  obtain ⟨i,hi,e⟩:=key _ (show (a::zs).length - 1<(a::zs).length by omega)
  rw [e] at h
  have hm:rF (a::zs) i∈(a::zs):=by
   have hil:i<(a::zs).length:=by omega
   unfold rF
   rw [List.getElem?_eq_getElem hil]
   exact List.getElem_mem hil
  exact hv _ hm (by rw [h];rfl)
end Go.Proofs.YthompjbplddkgaaGreatDoor.ssSem
