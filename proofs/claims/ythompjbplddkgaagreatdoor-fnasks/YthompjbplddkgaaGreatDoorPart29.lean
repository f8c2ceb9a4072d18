import Derived.Test.YthompjbplddkgaaGreatDoorPart28
import Derived.Deep.RegionHeld3
import Derived.BigRegion
set_option linter.unusedVariables false
namespace Go.Proofs.YthompjbplddkgaaGreatDoor.sceneFace
open Go.RowKit Go.Deep Go base netSem netImpl routeRow routesB nbSem candSem candImp hopSem intsOwn hopMake hopBetween sceneSem sceneFault sceneList sceneNew
theorem net_links {l:Nat→Nat} {s:Ss} {g x f:R} {o e:List Int} (h:netB l s g o e x f=true):l 0≤4∧l 4≤12∧(∀ i,i<l 1→linkB g (l 0) i=true)∧∀ i,i<l 4→importB g (l 1) x i=true:=by
 unfold netB routersB linksB importsB at h
 simp only [Bool.and_eq_true,decide_eq_true_eq,allN_iff] at h
 obtain ⟨⟨⟨⟨⟨⟨⟨h1,_⟩,⟨_,h2⟩⟩,_⟩,_⟩,_⟩,⟨h3,h4⟩⟩,_⟩:=h
 unfold inB at h1
 simp only [decide_eq_true_eq] at h1
 exact ⟨by omega,h3,h2,h4⟩
theorem link_facts {g:R} {r i:Nat} (h:linkB g r i=true) (hr:r≤4):(0≤g i 0∧g i 0<4∧0≤g i 1∧g i 1<4∧g i 0≠g i 1)∧linkAt g i (g i 0) (g i 1)<0∧0≤g i 2∧g i 2≤100:=by
 unfold linkB inB at h
 simp only [Bool.and_eq_true,decide_eq_true_eq] at h
 obtain ⟨⟨⟨⟨⟨h1,h2⟩,h3,h4⟩,h5⟩,h6,h7⟩,h8⟩:=h
 exact ⟨⟨by omega,by omega,by omega,by omega,h5⟩,h8,by omega,by omega⟩
theorem import_facts {g x:R} {nl i:Nat} (h:importB g nl x i=true) (hg:∀ j,j<nl→0≤g j 0∧g j 0<4∧0≤g j 1∧g j 1<4∧g j 0≠g j 1):(0≤x i 0∧x i 0<4∧0≤x i 1∧x i 1<4)∧1≤x i 3∧x i 3≤4:=by
 unfold importB deedB inB at h
 simp only [Bool.and_eq_true,decide_eq_true_eq] at h
 obtain ⟨h1,⟨_,h2,h3⟩,_⟩:=h
 obtain ⟨j,hj,hh⟩:=firstAt_spec.1 h1
 unfold hit at hh
 simp only [decide_eq_true_eq] at hh
 have:=hg j hj
 refine ⟨?_,h2,h3⟩
 rcases hh with ⟨e1,e2⟩|⟨e1,e2⟩ <;> omega
end Go.Proofs.YthompjbplddkgaaGreatDoor.sceneFace
namespace Go.Proofs.YthompjbplddkgaaGreatDoor.stabFace
open Go.RowKit Go.Deep Go base names netSem routeRow nbSem candSem candImp hopSem intsOwn hopMake hopBetween sceneSem sceneBy candSpec sceneCand sceneList sceneFault sceneNew sceneFace walkSem routesB netImpl noRts rtsRow bestFace bestAll stabImpl
def stabB (g : R) (nl : Nat) (o e : List Int) (x : R) (nx : Nat) (env : List Int) (ds : List Bool) (rs : Rs) (n : Nat) : Bool := sameTo (fun r : Nat=>bst (candL g nl o e x nx env ds rs n (r : Int))) rs n
theorem one_router {l:Nat→Nat} {s:Ss} {g x f:R} {o e:List Int} (h:netB l s g o e x f=true):1≤l 0:=by
 unfold netB routersB inB at h
 simp only [Bool.and_eq_true,decide_eq_true_eq] at h
 obtain ⟨⟨⟨⟨⟨⟨⟨h1,_⟩,_⟩,_⟩,_⟩,_⟩,_⟩,_⟩:=h
 omega
end Go.Proofs.YthompjbplddkgaaGreatDoor.stabFace
namespace Go.Proofs.YthompjbplddkgaaGreatDoor.routesSpec
open Go.RowKit Go.Deep Go base names netSem netSpec routeRow walkSem routesB drawn
set_option maxHeartbeats 400000 in
theorem none_spec (w:World) :
  Calls Tryz.prog 97 #[] w fun e' w'=>e' = .returned (.agg #[.int .i64 (-3),.int .i64 0,.int .i64 0,.bool false])∧Below w.heap.size w w' := by
 go_enter Tryz.func97,Tryz.ntmps97
 go_wp2
 refine bodyPost_ret (v:=.agg #[.int .i64 (-3),.int .i64 0,.int .i64 0,.bool false]) (by simp [results,Tryz.results97,go_sem]) rfl ⟨rfl,Bl⟩
end Go.Proofs.YthompjbplddkgaaGreatDoor.routesSpec
namespace Go.Proofs.YthompjbplddkgaaGreatDoor.candFace
open Go.RowKit Go.Deep Go base netSem netSpec routeRow routesB routesSpec nbSem candSem candEnv candSpec sceneFault sceneFace
end Go.Proofs.YthompjbplddkgaaGreatDoor.candFace
namespace Go.Proofs.YthompjbplddkgaaGreatDoor.stabSpec
open Go.RowKit Go.Deep Go base names netSem routeRow nbSem candSem candImp intsOwn candSpec candFace sceneFace walkSem routesB netImpl rtsRow bestRoute bestFace stabImpl stabFace
def bstK (g : Rs) (k : Nat) : Rt := if k=0 then noRt else bestTo g (k - 1)
theorem bstK_yes {g:Rs} {k:Nat} (hk:0<k) (h:better (g k) (bstK g k)=true):bstK g (k+1)=g k:=by
 obtain ⟨k',rfl⟩:∃ k',k=k' + 1:=⟨k - 1,by omega⟩
 exact best_yes h
theorem bstK_no {g:Rs} {k:Nat} (hk:0<k) (h:better (g k) (bstK g k)=false):bstK g (k+1)=bstK g k:=by
 obtain ⟨k',rfl⟩:∃ k',k=k' + 1:=⟨k - 1,by omega⟩
 exact best_no h
theorem best_via {g:Rs} {n:Nat} (h:∀ i,i≤n→(g i).via≠-3):(bestTo g n).via≠-3:=by
 induction n with
 | zero=>exact h 0 (Nat.le_refl _)
 | succ n ih =>
  simp only [bestTo]
  split
  · exact h _ (Nat.le_refl _)
  · exact ih fun i hi=>h i (by omega)
theorem bstK_via {g:Rs} {k n:Nat} (hk:0<k) (hkn:k≤n) (h:∀ i,i<n→(g i).via≠-3):(bstK g k).via≠-3:=by
 unfold bstK
 rw [if_neg (by omega)]
 exact best_via fun i hi=>h i (by omega)
set_option maxHeartbeats 3200000 in
set_option maxRecDepth 8000 in
theorem best_of (a:Option Addr) (len cap:Nat) (g:Rs) (w:World) (hr:RtRow w a len g) (hv:∀ i,i<len→(g i).via≠-3) :
  Calls Tryz.prog 99 #[.slice a len cap] w fun e w'=>e=.returned (rtV (bstK g len))∧Below w.heap.size w w' := by
 have HR:=hid hr
 have hmost:=hr.most
 unfold maxLen at hmost
 have HV:=hid hv
 clear hr hv
 go_enter Tryz.func99,Tryz.ntmps99
 go_wp2_with fail
 refine (candImp.none_spec _).mono ?_
 rintro e w1 ⟨rfl,hb1⟩
 have HB1:=hid hb1
 have HQ:Hid (∀ w8:World,Below w1.heap.size w1 w8→(w8.cell? ⟨w.heap.size,0,none⟩=some (.int .i64 0)∧w8.cell? ⟨w.heap.size,1,none⟩=some (.int .i64 0)∧w8.cell? ⟨w.heap.size,2,none⟩=some (.int .i64 0)∧w8.cell? ⟨w.heap.size,3,none⟩=some (.bool false))∧(∀ x,w8.frozen? ⟨w.heap.size,x,none⟩=false)∧Below w.heap.size w w8∧w.heap.size<w1.heap.size) :=
  fun w8 h=>⟨⟨keep h (keep hb1 (by simp [go_sem])),keep h (keep hb1 (by simp [go_sem])),keep h (keep hb1 (by simp [go_sem])),keep h (keep hb1 (by simp [go_sem]))⟩,fun x=>(h.frozen (p:=⟨w.heap.size,x,none⟩) (by have:=hb1.size;simp at this;dsimp only;omega)).trans ((hb1.frozen (p:=⟨w.heap.size,x,none⟩) (by simp)).trans (by simp [go_sem])),((show Below w.heap.size w _ from Bl).trans (hb1.mono (by simp))).trans (h.mono ((show Below w.heap.size w _ from Bl).trans (hb1.mono (by simp))).size),by have:=hb1.size;simp at this;omega⟩
 clear hb1
 simp only [rtV,noRt]
 have HAl:Hid (Below w1.heap.size w1 (w1.alloc (.cells #[.int .i64 (-3),.int .i64 0,.int .i64 0,.bool false] 122))):=Bl
 go_wp2_with fail
 go_loopw [4] (fun i wr=>∃ k:Nat,k≤len∧i=.int .i64 k∧Below w1.heap.size w1 wr∧wr.rowIs w1.heap.size 122 4 (rc (bstK g k))) (fun i _=>len - (intOf i).toNat)
 case atStart =>
  refine ⟨0,Nat.zero_le _,rfl,HAl.out,?_⟩
  have:=World.rowIs_alloc w1 #[.int .i64 (-3),.int .i64 0,.int .i64 0,.bool false] 122 (rc (bstK g 0)) (fun i hi=>by
   match i,hi with
   | 0,_=>rfl
   | 1,_=>rfl
   | 2,_=>rfl
   | 3,_=>rfl
   | i+4,hi=>exact absurd hi (by simp))
  exact this
 case round =>
  obtain ⟨k,hk,rfl,hbel,hro⟩:=hrel
  have HB:=hid hbel
  have HO:=hid hro
  have hlo:=World.rowIs.lt hro
  obtain ⟨⟨q0,q1,q2,q3⟩,hfr,hBw,hz1⟩:=HQ.out wr hbel
  have BW:=hid hBw
  have y0:=hfr 0
  have y1:=hfr 1
  have y2:=hfr 2
  have y3:=hfr 3
  have d0:=hro.cell (i:=0) (by omega)
  have d1:=hro.cell (i:=1) (by omega)
  have d2:=hro.cell (i:=2) (by omega)
  have d3:=hro.cell (i:=3) (by omega)
  have z0:=hro.frozen 0
  have z1:=hro.frozen 1
  have z2:=hro.frozen 2
  have z3:=hro.frozen 3
  simp only [rc] at d0 d1 d2 d3
  have hw0:w.heap.size<wr.heap.size:=by omega
  clear hfr hBw hro
  by_cases hlt:k<len
  · obtain ⟨b,off,rfl,c0,c1,c2,c3⟩:=((HR.out.below (HQ.out w1 (Below.refl _ _)).2.2.1).below hbel).at4 hlt
    clear hbel
    have HSet:Hid (∀ (W:World) (r:Rt),W.rowIs w1.heap.size 122 4 (rc (bstK g k))→((((W.setCell ⟨w1.heap.size,0,none⟩ (.int .i64 r.via)).setCell ⟨w1.heap.size,1,none⟩ (.int .i64 r.pref)).setCell ⟨w1.heap.size,2,none⟩ (.int .i64 r.len)).setCell ⟨w1.heap.size,3,none⟩ (.bool r.mark)).rowIs w1.heap.size 122 4 (rc r)):=fun W r hW=>by
     refine World.rowIs.congr ((((hW.set 0 _).set 1 _).set 2 _).set 3 _) fun i hi=>?_
     match i,hi with
     | 0,_=>rfl
     | 1,_=>rfl
     | 2,_=>rfl
     | 3,_=>rfl
     | i+4,hi=>exact absurd hi (by omega)
    by_cases hk0:k=0
    · have hv:(bstK g k).via = -3:=by rw [hk0];rfl
      have HE:Hid (bstK g (k+1)=g k):=by show _=_;rw [hk0];rfl
      rw [hv] at d0
      generalize g k=r at *
      have hdr:Below wr.heap.size wr wr.drew:=(Below.refl _ wr).drew
      replace c0:=keep hdr c0
      replace c1:=keep hdr c1
      replace c2:=keep hdr c2
      replace c3:=keep hdr c3
      have HOd:=hid (HO.out.of_block (hdr.block _ hlo))
      have hrd:=HOd.out
      have e0:=hrd.cell (i:=0) (by omega)
      have e1:=hrd.cell (i:=1) (by omega)
      have e2:=hrd.cell (i:=2) (by omega)
      have e3:=hrd.cell (i:=3) (by omega)
      have v0:=hrd.frozen 0
      have v1:=hrd.frozen 1
      have v2:=hrd.frozen 2
      have v3:=hrd.frozen 3
      have HBd:=hid (HB.out.trans (hdr.mono HB.out.size))
      simp only [rc] at e0 e1 e2 e3
      rw [hv] at e0
      clear hdr hrd hk0 hv
      go_wp2
      go_region
      all_goals
       go_wp2
       go_roundw
       case rel=>exact ⟨k+1,by omega,by go_num,((((HBd.out.setCell (Nat.le_refl _) _).setCell (Nat.le_refl _) _).setCell (Nat.le_refl _) _).setCell (Nat.le_refl _) _),by rw [HE.out];exact HSet.out _ r HOd.out⟩
       case measure=>simp [intOf];omega
    · have hv:=bstK_via (g:=g) (k:=k) (n:=len) (by omega) hk HV.out
      have hv':((bstK g k).via == -3)=false:=by simp [hv]
      have HK:Hid (∀ w8:World,Below wr.heap.size wr w8→w8.cell? ⟨b,off+k*4,none⟩=some (.int .i64 (g k).via)∧w8.cell? ⟨b,off+k*4+1,none⟩=some (.int .i64 (g k).pref)∧w8.cell? ⟨b,off+k*4+2,none⟩=some (.int .i64 (g k).len)∧w8.cell? ⟨b,off+k*4+3,none⟩=some (.bool (g k).mark)∧w8.cell? ⟨w1.heap.size,0,none⟩=some (.int .i64 (bstK g k).via)∧w8.cell? ⟨w1.heap.size,1,none⟩=some (.int .i64 (bstK g k).pref)∧w8.cell? ⟨w1.heap.size,2,none⟩=some (.int .i64 (bstK g k).len)∧w8.cell? ⟨w1.heap.size,3,none⟩=some (.bool (bstK g k).mark)∧Below wr.heap.size wr w8) :=
       fun w8 h=>⟨keep h c0,keep h c1,keep h c2,keep h c3,keep h d0,keep h d1,keep h d2,keep h d3,h⟩
      clear c0 c1 c2 c3 d0 d1 d2 d3
      have HY:Hid (better (g k) (bstK g k)=true→bstK g (k+1)=g k):=bstK_yes (by omega)
      have HN:Hid (better (g k) (bstK g k)=false→bstK g (k+1)=bstK g k):=bstK_no (by omega)
      have HG:Hid (g k=⟨(g k).via,(g k).pref,(g k).len,(g k).mark⟩):=hid rfl
      have HG':Hid (bstK g k=⟨(bstK g k).via,(bstK g k).pref,(bstK g k).len,(bstK g k).mark⟩):=hid rfl
      generalize (g k).via=x0 at *
      generalize (g k).pref=x1 at *
      generalize (g k).len=x2 at *
      generalize (g k).mark=x3 at *
      generalize (bstK g k).via=u0 at *
      generalize (bstK g k).pref=u1 at *
      generalize (bstK g k).len=u2 at *
      generalize (bstK g k).mark=u3 at *
      go_wp2_with fail
      go_region_held3 (fun w8=>w8.cell? ⟨b,off+k*4,none⟩=some (.int .i64 x0)∧w8.cell? ⟨b,off+k*4+1,none⟩=some (.int .i64 x1)∧w8.cell? ⟨b,off+k*4+2,none⟩=some (.int .i64 x2)∧w8.cell? ⟨b,off+k*4+3,none⟩=some (.bool x3)∧w8.cell? ⟨w1.heap.size,0,none⟩=some (.int .i64 u0)∧w8.cell? ⟨w1.heap.size,1,none⟩=some (.int .i64 u1)∧w8.cell? ⟨w1.heap.size,2,none⟩=some (.int .i64 u2)∧w8.cell? ⟨w1.heap.size,3,none⟩=some (.bool u3)∧Below wr.heap.size wr w8)
       (refine HK.out _ (by first|assumption|exact (Below.refl _ wr).drew|exact hb57))
       ((go_at_call 118;refine (better_spec x0 x1 x2 u0 u1 u2 x3 u3 _).mono ?_;rintro e w7 ⟨rfl,hb7⟩;have hb57:Below wr.heap.size wr w7:=((Below.refl _ wr).drew).trans hb7;clear hb7))
      all_goals
       obtain ⟨c0,c1,c2,c3,d0,d1,d2,d3,-⟩:=HK.out w7 hb57
       have HO7:=hid (HO.out.of_block (hb57.block _ hlo))
       have hr7:=HO7.out
       have v0:=hr7.frozen 0
       have v1:=hr7.frozen 1
       have v2:=hr7.frozen 2
       have v3:=hr7.frozen 3
       have HB7:=hid (HB.out.trans (hb57.mono HB.out.size))
       clear hb57 hr7
       rw [← HG.out,← HG'.out]
       cases hb:better (g k) (bstK g k) with
       | true =>
        have HE:=hid (HY.out hb)
        clear hb
        go_wp2
        go_roundw
        case rel =>
         refine ⟨k+1,by omega,by go_num,((((HB7.out.setCell (Nat.le_refl _) _).setCell (Nat.le_refl _) _).setCell (Nat.le_refl _) _).setCell (Nat.le_refl _) _),?_⟩
         rw [HE.out,HG.out]
         exact HSet.out _ ⟨x0,x1,x2,x3⟩ HO7.out
        case measure=>simp [intOf];omega
       | false =>
        have HE:=hid (HN.out hb)
        clear hb
        go_wp2
        go_roundw
        case rel=>exact ⟨k+1,by omega,by go_num,HB7.out,by rw [HE.out];exact HO7.out⟩
        case measure=>simp [intOf];omega
  · have e:k=len:=by omega
    subst e
    clear hbel
    go_wp2
    refine bodyPost_ret (v:=rtV (bstK g k)) (by simp [results,Tryz.results99,go_sem,q0,q1,q2,q3,rtV]) rfl ?_
    exact ⟨rfl,(((BW.out.setCell (Nat.le_refl _) _).setCell (Nat.le_refl _) _).setCell (Nat.le_refl _) _).setCell (Nat.le_refl _) _⟩
end Go.Proofs.YthompjbplddkgaaGreatDoor.stabSpec
