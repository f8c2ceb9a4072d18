import Derived.Test.YthompjbplddkgaaGreatDoorChoSpec
import Derived.Test.YthompjbplddkgaaGreatDoorRofSpec
import Derived.Deep.RegionHeld3
set_option linter.unusedVariables false
namespace Go.Proofs.YthompjbplddkgaaGreatDoor.valRB
open Go base netSem routeRow nbSem candSem rofSem
variable {g : R} {o e : List Int} {x : R} {env : List Int} {ds : List Bool}
theorem valR_bounds {nl nx n:Nat} {vs:List Int} (hn1:1≤n) (hn:n≤4) (hv:∀ i,-3≤zAt vs i∧zAt vs i<n) (hc:∀ i,i<nl→0≤g i 2∧g i 2≤100) (hok:okV g nl o e x nx env ds vs n=true) {i:Nat} (hi:i<n) :
  (-3≤(valR g nl o e x nx env ds vs n i).via∧(valR g nl o e x nx env ds vs n i).via<n)∧0≤(valR g nl o e x nx env ds vs n i).len∧(valR g nl o e x nx env ds vs n i).len≤20000:=by
 have hs:=allN_iff.1 hok i hi
 unfold valR
 cases hq:val g nl o e x nx env ds vs n (i:Int) with
 | none=>rw [hq] at hs;cases hs
 | some r =>
  have h1:=val_via hq
  have h2:=val_len (fun i=>(hv i).1) hc hq
  have h3:=hv i
  rw [Int.toNat_natCast] at h1
  show (-3≤r.via∧r.via<n)∧0≤r.len∧r.len≤20000
  rw [h1]
  exact ⟨h3,by omega,by omega⟩
end Go.Proofs.YthompjbplddkgaaGreatDoor.valRB
namespace Go.Proofs.YthompjbplddkgaaGreatDoor.staSpec
open Go.RowKit Go.Deep Go base copy names netSem netSpec routeRow nbSem candSem candWay hopSem intsOwn sceneSem sceneBy stabFace stabLaw prodSem rtsRow rofSem rofSpec ssSem optSpec choSpec rRows valRB
theorem OwnRI.kept {B B' m:Nat} {w w':World} {v x:Value} {ys:List Value} {ps:List ((Nat × Nat) × List Int)} (h:OwnRI B w v ps) (hx:w.ownsRow B' 96 1 x m ys) (hg:w.grownBy w' x.ownBlock):OwnRI B w' v ps :=
 ⟨own_kept (by decide) h.outer hx hg,fun p hp=>own_kept (by decide) (h.inner p hp) hx hg⟩
theorem opt_in {g:R} {nl:Nat} {o e env:List Int} {ds:List Bool} {n:Nat} {i:Int} (he:∀ i,0≤zAt env i) {z:Int} (h:z∈optL g nl o e env ds n i) : -3≤z∧z<n:=by
 rw [opt_row g nl o e env ds n i he] at h
 have h1:=(List.mem_filter.1 h).1
 unfold rowP at h1
 obtain ⟨j,hj,rfl⟩:=List.mem_map.1 (List.mem_filter.1 h1).1
 have:=List.mem_range.1 hj
 omega
theorem prod_bounds {g:R} {nl:Nat} {o e env:List Int} {ds:List Bool} {n:Nat} (he:∀ i,0≤zAt env i) (hn1:1≤n) {vs:List Int} (h:vs∈prod (fun i:Nat=>optL g nl o e env ds n (i:Int)) n) (i:Nat) : -3≤zAt vs i∧zAt vs i<n:=by
 by_cases hi:i<n
 · exact opt_in he (prod_in h i hi)
 · have hl:=prod_len h
   unfold zAt
   rw [List.getElem?_eq_none (by omega)]
   simp
   omega
set_option maxHeartbeats 6400000 in
set_option maxRecDepth 8000 in
theorem states_spec (p:Nat→Option Addr) (l c:Nat→Nat) (s:Ss) (g:R) (o e:List Int) (x f:R) (ea da:Option Addr) (ec dc:Nat) (env:List Int) (ds:List Bool) (w:World) (h:NetIs w p l s g o e x f) (he:IntRow w ea (l 3) env) (hd:BoolRow w da (l 1) ds) (h4:l 0≤4) (hn1:1≤l 0) (hu:∀ i,i<l 1→linkAt g i (g i 0) (g i 1)<0) (hc:∀ i,i<l 1→0≤g i 2∧g i 2≤100) (hdd:∀ i,i<l 4→1≤x i 3∧x i 3≤4) (henv:∀ i,0≤zAt env i) :
  Calls Tryz.prog 50 #[netV p l c,.slice ea (l 3) ec,.slice da (l 1) dc] w fun e' w'=>∃ v ps,e' = .returned v∧OwnRR w.heap.size w' v ps∧ps.map Prod.snd=statesL g (l 1) o e x (l 4) env ds (l 0) (prod (fun i:Nat=>optL g (l 1) o e env ds (l 0) (i:Int)) (l 0))∧Below w.heap.size w w' := by
 have HCh:Hid (∀ W:World,Below w.heap.size w W→Calls Tryz.prog 78 #[netV p l c,.slice ea (l 3) ec,.slice da (l 1) dc] W fun e' w'=>∃ v ps,e' = .returned v∧OwnRI W.heap.size w' v ps∧ps.map Prod.snd=prod (fun i:Nat=>optL g (l 1) o e env ds (l 0) (i:Int)) (l 0)∧Below W.heap.size W w'):=hid (fun W hb=>choices_spec p l c s g o e x f ea da ec dc env ds W (h.below hb) (he.below hb) (hd.below hb) h4)
 obtain ⟨PR,hPR⟩:∃ PR,prod (fun i:Nat=>optL g (l 1) o e env ds (l 0) (i:Int)) (l 0)=PR:=⟨_,rfl⟩
 have HBo:Hid (∀ vs∈PR,vs.length=l 0∧∀ i,-3≤zAt vs i∧zAt vs i<l 0):=hid (fun vs hv=>by rw [← hPR] at hv;exact ⟨prod_len hv,prod_bounds henv hn1 hv⟩)
 have HPn:Hid (PR.length≤2401):=hid (by
  have h1:=prod_size (A:=(fun i:Nat=>optL g (l 1) o e env ds (l 0) (i:Int))) (M:=7) (l 0) (fun i _=>Nat.le_trans (opt_len _ _ _ _ _ _ _ _) (by omega))
  have h2:7 ^ (l 0)≤7 ^ 4:=Nat.pow_le_pow_right (by decide) h4
  rw [hPR] at h1
  omega)
 rw [hPR] at HCh ⊢
 clear hPR
 obtain ⟨okF,hOk⟩:∃ okF:List Int→Bool,okF=(fun vs=>okV g (l 1) o e x (l 4) env ds vs (l 0)):=⟨_,rfl⟩
 obtain ⟨stF,hSt⟩:∃ stF:List Int→Bool,stF=(fun vs=>stabB g (l 1) o e x (l 4) env ds (valR g (l 1) o e x (l 4) env ds vs (l 0)) (l 0)):=⟨_,rfl⟩
 obtain ⟨zs,hZs⟩:∃ zs:List Int→List Rt,zs=stateOf g (l 1) o e x (l 4) env ds (l 0):=⟨_,rfl⟩
 have HOf:Hid (∀ (W:World) (va:Option Addr) (vc:Nat) (vs:List Int),vs∈PR→Below w.heap.size w W→IntRow W va (l 0) vs→Calls Tryz.prog 79 #[netV p l c,.slice ea (l 3) ec,.slice da (l 1) dc,.slice va (l 0) vc] W fun e' w'=>∃ v,e' = .returned (.tuple #[v,.bool (okF vs)])∧(okF vs=true→OwnRts W.heap.size w' v (zs vs))∧Below W.heap.size W w'):=hid (fun W va vc vs hv hb hr=>by
  rw [hOk,hZs]
  exact of_spec p l c s g o e x f ea da va ec dc vc env ds vs W (h.below hb) (he.below hb) (hd.below hb) hr h4 hn1 hc (HBo.out vs hv).2 henv)
 have HSt:Hid (∀ (W:World) (N cap:Nat) (vs:List Int),vs∈PR→okF vs=true→Below w.heap.size w W→OwnRts w.heap.size W (.slice (some ⟨N,0,none⟩) (l 0) cap) (zs vs)→Calls Tryz.prog 80 #[netV p l c,.slice ea (l 3) ec,.slice da (l 1) dc,.slice (some ⟨N,0,none⟩) (l 0) cap] W fun e' w'=>e' = .returned (.bool (stF vs))∧Below W.heap.size W w'):=hid (fun W N cap vs hv hok hb ho=>by
  rw [hOk] at hok
  rw [hSt]
  obtain ⟨h1,h2,h3,h5⟩:=laid_own ho
  have hgd:sceneBy.Good (l 0) l g x (valR g (l 1) o e x (l 4) env ds vs (l 0)):=⟨h4,hu,hc,hdd,fun i hi=>(valR_bounds hn1 h4 (HBo.out vs hv).2 hc hok hi).1,fun i hi=>(valR_bounds hn1 h4 (HBo.out vs hv).2 hc hok hi).2⟩
  refine stable_spec p l c s g o e x f ea da _ ec dc cap env ds _ W (h.below hb) (he.below hb) (hd.below hb) (laid_row (laid_same h1 (fun i hi=>?_)) h2 (Nat.le_trans h2 h3)) hgd
  rw [hZs]
  unfold rF stateOf
  rw [List.getElem?_map,List.getElem?_range hi]
  rfl)
 have HZl:Hid (∀ vs,(zs vs).length=l 0):=hid (fun vs=>by rw [hZs];unfold stateOf;simp)
 have HSn:Hid (∀ (L:List (List Int)) (vs:List Int),statesL g (l 1) o e x (l 4) env ds (l 0) (L ++ [vs])=statesL g (l 1) o e x (l 4) env ds (l 0) L ++ (if okF vs && stF vs then [zs vs] else [])):=hid (fun L vs=>by rw [statesL_snoc,hOk,hSt,hZs];rfl)
 obtain ⟨SL,hSL⟩:∃ SL:List (List Int)→List (List Rt),SL=statesL g (l 1) o e x (l 4) env ds (l 0):=⟨_,rfl⟩
 have HS0:Hid (SL []=[]):=hid (by rw [hSL];rfl)
 have HSm:Hid (∀ L,(SL L).length≤L.length):=hid (fun L=>by rw [hSL];unfold statesL;rw [List.length_map];exact List.length_filter_le _ _)
 rw [← hSL] at HSn ⊢
 clear hSL hOk hSt hZs
 have C1:∀ w8:World,Below ((w.alloc (.cells #[.slice (p 0) (l 0) (c 0),.slice (p 1) (l 1) (c 1),.slice (p 2) (l 2) (c 2),.slice (p 3) (l 3) (c 3),.slice (p 4) (l 4) (c 4),.slice (p 5) (l 5) (c 5)] 29))).heap.size (w.alloc (.cells #[.slice (p 0) (l 0) (c 0),.slice (p 1) (l 1) (c 1),.slice (p 2) (l 2) (c 2),.slice (p 3) (l 3) (c 3),.slice (p 4) (l 4) (c 4),.slice (p 5) (l 5) (c 5)] 29)) w8→(w8.cell? ⟨w.heap.size,0,none⟩=some (.slice (p 0) (l 0) (c 0))∧w8.cell? ⟨w.heap.size,1,none⟩=some (.slice (p 1) (l 1) (c 1))∧w8.cell? ⟨w.heap.size,2,none⟩=some (.slice (p 2) (l 2) (c 2))∧w8.cell? ⟨w.heap.size,3,none⟩=some (.slice (p 3) (l 3) (c 3))∧w8.cell? ⟨w.heap.size,4,none⟩=some (.slice (p 4) (l 4) (c 4))∧w8.cell? ⟨w.heap.size,5,none⟩=some (.slice (p 5) (l 5) (c 5)))∧Below w.heap.size w w8 :=
  fun w8 hb=>⟨⟨keep hb (by simp [go_sem]),keep hb (by simp [go_sem]),keep hb (by simp [go_sem]),keep hb (by simp [go_sem]),keep hb (by simp [go_sem]),keep hb (by simp [go_sem])⟩,(show Below w.heap.size w _ from Bl).trans (hb.mono (by simp))⟩
 have HK:=hid C1
 clear C1 h he hd hu hc hdd henv
 obtain ⟨i1,hi1,hzz⟩:=Option.map_eq_some_iff.1 info_rr
 simp only [Prod.mk.injEq] at hzz
 obtain ⟨hy0,hy1,hy2⟩:=hzz
 have HJ:=hid hi1
 have HY0:=hid hy0
 have HY1:=hid hy1
 have HY2:=hid hy2
 clear hi1 hy0 hy1 hy2
 unfold netV at HCh HOf HSt ⊢
 go_enter Tryz.func50,Tryz.ntmps50
 obtain ⟨q0,q1,q2,q3,q4,q5⟩:=(HK.out _ (Below.alloc (Below.refl _ _) (Nat.le_refl _) (.cells #[] 96))).1
 go_wp2_with fail
 clear q0 q1 q2 q3 q4 q5
 obtain ⟨w1,hw1⟩:∃ w1,(w.alloc (.cells #[.slice (p 0) (l 0) (c 0),.slice (p 1) (l 1) (c 1),.slice (p 2) (l 2) (c 2),.slice (p 3) (l 3) (c 3),.slice (p 4) (l 4) (c 4),.slice (p 5) (l 5) (c 5)] 29))=w1:=⟨_,rfl⟩
 have hz1:w.heap.size<w1.heap.size:=by rw [← hw1];simp
 have HB1:Hid (Below w.heap.size w w1):=hid (by rw [← hw1];exact Bl)
 have HSz:Hid (w1.heap.size=w.heap.size+1):=hid (by rw [← hw1];simp)
 rw [hw1] at HK ⊢
 clear hw1
 obtain ⟨w2,hw2⟩:∃ w2,w1.alloc (.cells #[] 96)=w2:=⟨_,rfl⟩
 have HB2:Hid (Below w1.heap.size w1 w2):=hid (by rw [← hw2];exact Bl)
 have HO2:Hid (OwnRR w1.heap.size w2 (.slice (some ⟨w.heap.size+1,0,none⟩) 0 0) []):=hid (by rw [← hw2];exact rr_empty _ _ _ (Nat.le_refl _) HSz.out)
 rw [hw2]
 clear hw2
 refine (HCh.out _ (HB1.out.trans (HB2.out.mono HB1.out.size))).mono ?_
 rintro e1 w3 ⟨vch,chs,rfl,hch,hcp,hb3⟩
 obtain ⟨oa,oc,hv⟩:=hch.form
 subst hv
 have HC3:=hid hch
 have HCp:=hid hcp
 have HO3:=hid (HO2.out.below hb3)
 have HB3:=hid (HB2.out.trans (hb3.mono HB2.out.size))
 have hcl:chs.length=PR.length:=by rw [← hcp,List.length_map]
 have hs2:=HB2.out.size
 clear hch hcp hb3
 go_wp2_with fail
 go_loopw [9,7] (fun i v wr=>∃ k:Nat,k≤chs.length∧i=.int .i64 k∧(∃ ps,OwnRR w1.heap.size wr v ps∧ps.map Prod.snd=SL (PR.take k))∧OwnRI w2.heap.size wr (.slice oa chs.length oc) chs∧Below w1.heap.size w1 wr) (fun i _ _=>chs.length - (intOf i).toNat)
 case atStart=>exact ⟨0,Nat.zero_le _,rfl,⟨[],HO3.out,HS0.out.symm⟩,HC3.out,HB3.out⟩
 case round =>
  obtain ⟨k,hk,rfl,⟨ps,ho,hps⟩,hch,hbr⟩:=hrel
  have HO:=hid ho
  have HPs:=hid hps
  have HC:=hid hch
  have HBr:=hid hbr
  have hsr:=hbr.size
  obtain ⟨⟨q0,q1,q2,q3,q4,q5⟩,hBw⟩:=HK.out _ HBr.out
  have HBw:=hid hBw
  clear ho hps hch hbr hBw
  by_cases hlt:k<chs.length
  · obtain ⟨q,hq⟩:∃ q,chs[k]? = some q:=⟨_,List.getElem?_eq_getElem hlt⟩
    obtain ⟨og,hoa,hoc⟩:=HC.out.cell hq
    subst hoa
    have HCk:Hid (PR[k]? = some q.2):=hid (by rw [← HCp.out,List.getElem?_map,hq];rfl)
    have HMk:=hid (List.mem_of_getElem? HCk.out)
    have HQl:=hid (HBo.out q.2 HMk.out).1
    have HQi:=hid (HC.out.inner q (List.mem_of_getElem? hq))
    have HRow:Hid (∀ w8:World,Below wr.heap.size wr w8→IntRow w8 (some ⟨q.1.1,0,none⟩) (l 0) q.2):=hid (fun w8 hb=>by
     have:=row_of_own (HQi.out.below hb)
     rw [HQl.out] at this
     exact this)
    have HSk:Hid (SL (PR.take (k+1))=SL (PR.take k) ++ (if okF q.2 && stF q.2 then [zs q.2] else [])):=hid (by rw [List.take_add_one,HCk.out];exact HSn.out _ _)
    have hpn:ps.length≤2401:=by
     have h1:ps.length=(SL (PR.take k)).length:=by rw [← HPs.out,List.length_map]
     have h2:=HSm.out (PR.take k)
     have h3:=HPn.out
     rw [List.length_take] at h2
     omega
    unfold rv at hoc
    rw [HQl.out] at hoc
    have HKc:Hid (∀ w8:World,Below wr.heap.size wr w8→w8.cell? ⟨w.heap.size,0,none⟩=some (.slice (p 0) (l 0) (c 0))∧w8.cell? ⟨w.heap.size,1,none⟩=some (.slice (p 1) (l 1) (c 1))∧w8.cell? ⟨w.heap.size,2,none⟩=some (.slice (p 2) (l 2) (c 2))∧w8.cell? ⟨w.heap.size,3,none⟩=some (.slice (p 3) (l 3) (c 3))∧w8.cell? ⟨w.heap.size,4,none⟩=some (.slice (p 4) (l 4) (c 4))∧w8.cell? ⟨w.heap.size,5,none⟩=some (.slice (p 5) (l 5) (c 5))∧w8.cell? ⟨og,k,none⟩=some (.slice (some ⟨q.1.1,0,none⟩) (l 0) q.1.2)∧Below wr.heap.size wr w8):=hid (fun w8 hb=>⟨keep hb q0,keep hb q1,keep hb q2,keep hb q3,keep hb q4,keep hb q5,keep hb hoc,hb⟩)
    have HLt:=hid hlt
    have hk5:k≤2401:=by have:=HPn.out;omega
    have gd:decide (k<PR.length)=true:=decide_eq_true (by omega)
    have hki:(k:Int)<(PR.length:Int):=by omega
    have hk0:(0:Int)≤(k:Int):=by omega
    clear hq
    obtain ⟨OK,hOK⟩:∃ OK,okF q.2=OK:=⟨_,rfl⟩
    have HOK:=hid hOK
    rw [hOK] at HSk
    clear hOK
    go_wp2_with fail
    go_region_held3 (fun w8=>w8.cell? ⟨w.heap.size,0,none⟩=some (.slice (p 0) (l 0) (c 0))∧w8.cell? ⟨w.heap.size,1,none⟩=some (.slice (p 1) (l 1) (c 1))∧w8.cell? ⟨w.heap.size,2,none⟩=some (.slice (p 2) (l 2) (c 2))∧w8.cell? ⟨w.heap.size,3,none⟩=some (.slice (p 3) (l 3) (c 3))∧w8.cell? ⟨w.heap.size,4,none⟩=some (.slice (p 4) (l 4) (c 4))∧w8.cell? ⟨w.heap.size,5,none⟩=some (.slice (p 5) (l 5) (c 5))∧w8.cell? ⟨og,k,none⟩=some (.slice (some ⟨q.1.1,0,none⟩) (l 0) q.1.2)∧Below wr.heap.size wr w8)
     (refine HKc.out _ (by first|assumption|exact (Below.refl _ wr).drew|exact hb6'))
     (first|(go_at_call 79;refine (HOf.out _ _ _ q.2 HMk.out HBw.out.drew (HRow.out _ (Below.refl _ wr).drew)).mono ?_;rintro e' w6 ⟨v6,rfl,ho6,hb6⟩;have hb6':Below wr.heap.size wr w6:=((Below.refl _ wr).drew).trans hb6;rw [HOK.out];have HO6:=hid ho6;clear hb6 ho6))
    all_goals
     obtain ⟨r0,r1,r2,r3,r4,r5,_,_⟩:=HKc.out _ hb6'
     have HB6:=hid hb6'
     have hs6:=hb6'.size
     clear hb6' q0 q1 q2 q3 q4 q5 hoc
     cases OK with
     | false =>
      have HS':Hid (SL (PR.take (k+1))=SL (PR.take k)):=hid (by rw [HSk.out];simp)
      clear HO6
      go_wp2_with fail
      go_roundw
      case rel=>exact ⟨k+1,HLt.out,by go_num,⟨ps,HO.out.below HB6.out,by rw [HS'.out];exact HPs.out⟩,HC.out.below HB6.out,HBr.out.trans (HB6.out.mono hsr)⟩
      case measure=>have:=HLt.out;simp [intOf];omega
     | true =>
      have ho6:=HO6.out HOK.out
      obtain ⟨N,cap,e6⟩:=rts_some ho6 (by rw [HZl.out];omega)
      have HN6:Hid (wr.heap.size≤N):=hid (by rw [e6] at ho6;exact (World.ownsRow.lt ho6 N rfl).1)
      have HR6:Hid (OwnRts wr.heap.size w6 (rvR ((N,cap),zs q.2)) (zs q.2)):=hid (by rw [← e6];exact ho6)
      have HV6:Hid (rvR ((N,cap),zs q.2)=.slice (some ⟨N,0,none⟩) (l 0) cap):=hid (by unfold rvR;rw [HZl.out])
      rw [HV6.out] at e6
      subst e6
      clear ho6 HO6
      go_wp2_with fail
      refine (HSt.out _ N cap q.2 HMk.out HOK.out (HBw.out.trans (HB6.out.mono HBw.out.size)) (by rw [← HV6.out];exact HR6.out.mono HBw.out.size)).mono ?_
      rintro e7 w7 ⟨rfl,hb7⟩
      have HB7:=hid (HB6.out.trans (hb7.mono hs6))
      have HR7:Hid (OwnRts wr.heap.size w7 (rvR ((N,cap),zs q.2)) (zs q.2)):=hid (own_pass HR6.out hb7)
      have hs7:=hb7.size
      obtain ⟨t0,t1,t2,t3,t4,t5,_,_⟩:=HKc.out _ HB7.out
      obtain ⟨ST,hST⟩:∃ ST,stF q.2=ST:=⟨_,rfl⟩
      rw [hST] at HSk ⊢
      clear hST hb7 r0 r1 r2 r3 r4 r5
      cases ST with
      | false =>
       have HS':Hid (SL (PR.take (k+1))=SL (PR.take k)):=hid (by rw [HSk.out];simp)
       go_wp2_with fail
       go_roundw
       case rel=>exact ⟨k+1,HLt.out,by go_num,⟨ps,HO.out.below HB7.out,by rw [HS'.out];exact HPs.out⟩,HC.out.below HB7.out,HBr.out.trans (HB7.out.mono hsr)⟩
       case measure=>have:=HLt.out;simp [intOf];omega
      | true =>
       have HS':Hid (SL (PR.take (k+1))=SL (PR.take k) ++ [zs q.2]):=hid (by rw [HSk.out];simp)
       have HO7:=hid (HO.out.below HB7.out)
       have HC7:=hid (HC.out.below HB7.out)
       have HB17:=hid (HBr.out.trans (HB7.out.mono hsr))
       go_wp2_with (at_builtin
                    refine wpList_append_own _ rfl _ _ 93 rfl w1.heap.size 96 i1 (.slice none 0 0) 1 24 Tryz.underlying93 HJ.out HY0.out HY1.out HY2.out rfl (by decide) _ _ _ rfl (own_pass HO7.out.outer Bl) ⟨_,0,none⟩ 1 1 [.slice (some ⟨N,0,none⟩) (l 0) cap] rfl rfl (cell_one_new _ _ _) (fun y hy=>by simp at hy;subst hy;rfl) (by unfold maxLen;omega) (by omega) (by simp;omega) ?_
                    intro v9 w9 hown9 hg9 hnil9
                    have HR9:Hid (OwnRR w1.heap.size w9 v9 (ps ++ [((N,cap),zs q.2)])):=hid (OwnRR.add (HO7.out.below Bl) (own_pass (HR7.out.mono hsr) Bl) (fun p hp=>by have h1:=HO.out.lt p hp;have h2:=HN6.out;show p.1.1≠N;omega) (by rw [HV6.out];exact hown9) hg9)
                    have HC9:=hid (OwnRI.kept (HC7.out.below Bl) (HO7.out.below Bl).outer hg9)
                    have HB9:Hid (Below w1.heap.size w1 w9):=hid ((HB17.out.alloc (by omega) _).grown hg9 (by simp;omega) (fun b hb=>(World.ownsRow.lt (HO7.out.outer) b hb).1))
                    clear hown9 hg9 hnil9)
       go_roundw
       case rel =>
        refine ⟨k+1,HLt.out,by go_num,⟨_,HR9.out,?_⟩,HC9.out,HB9.out⟩
        rw [HS'.out,List.map_append,HPs.out]
        rfl
       case measure=>have:=HLt.out;simp [intOf];omega
  · have ek:k=chs.length:=by omega
    subst ek
    have HS':Hid (ps.map Prod.snd=SL PR):=hid (by rw [HPs.out,hcl,List.take_length])
    go_wp2_with fail
    go_ret
    exact ⟨_,ps,rfl,HO.out.mono (Nat.le_of_lt hz1),HS'.out,HBw.out⟩
end Go.Proofs.YthompjbplddkgaaGreatDoor.staSpec
namespace Go.Proofs.YthompjbplddkgaaGreatDoor.propSem
open Go.RowKit Go.Deep base names netSem
def propB (nb : Bool) (r : Nat) (k fr po wy : Int) : Bool := nb && inB k 1 4 && inB fr 0 (r - 1) && inB po (-1) 15 && (if k=3 then inB wy 0 (r - 1) else decide (wy=0))
theorem netB_in {l:Nat→Nat} {s:Ss} {g x f:R} {o e:List Int} (h:netB l s g o e x f=true):1≤l 0∧l 0≤4:=by
 unfold netB routersB inB at h
 simp only [Bool.and_eq_true,decide_eq_true_eq] at h
 obtain ⟨⟨⟨⟨⟨⟨⟨h1,_⟩,_⟩,_⟩,_⟩,_⟩,_⟩,_⟩:=h
 omega
theorem prop_eq' {nb:Bool} {r:Nat} {k fr po wy:Int} {b1 b2 b3 b4 b5 b6:Bool} (e1:inB k 1 4=b1) (e2:inB fr 0 (r - 1)=b2) (e3:inB po (-1) 15=b3) (e4:(k == 3)=b4) (e5:inB wy 0 (r - 1)=b5) (e6:(wy == 0)=b6) :
  propB nb r k fr po wy=(nb && b1 && b2 && b3 && (if b4 then b5 else b6)):=by
 subst e1 e2 e3 e4 e5 e6
 unfold propB
 by_cases hk:k=3
 · simp [hk]
 · simp [hk]
   intros
   rw [Bool.eq_iff_iff];simp
end Go.Proofs.YthompjbplddkgaaGreatDoor.propSem
namespace Go.Proofs.YthompjbplddkgaaGreatDoor.propSpec
open Go.RowKit Go.Deep Go base names netSem propSem netSpec netOKSpec
set_option maxHeartbeats 3200000 in
theorem prop_spec (p:Nat→Option Addr) (l c:Nat→Nat) (s:Ss) (g:R) (o e:List Int) (x f:R) (k fr po wy:Int) (w:World) (h:NetIs w p l s g o e x f) (hc0:l 0≤c 0) (hc1:l 1≤c 1) :
  Calls Tryz.prog 11 #[netV p l c,.agg #[.int .i64 k,.int .i64 fr,.int .i64 po,.int .i64 wy]] w fun e' w'=>e' = .returned (.bool (propB (netB l s g o e x f) (l 0) k fr po wy))∧Below w.heap.size w w' := by
 have HN:=hid h
 have m0:=h.routers.most
 have HM0:=hid m0
 unfold maxLen at m0
 have HK0:=hid hc0
 have HK1:=hid hc1
 clear h hc0 hc1
 obtain ⟨D,hD⟩:∃ D,propB (netB l s g o e x f) (l 0) k fr po wy=D:=⟨_,rfl⟩
 rw [hD]
 have HP:=hid hD
 clear hD
 have C1:∀ w8:World,Below ((w.alloc (.cells #[.slice (p 0) (l 0) (c 0),.slice (p 1) (l 1) (c 1),.slice (p 2) (l 2) (c 2),.slice (p 3) (l 3) (c 3),.slice (p 4) (l 4) (c 4),.slice (p 5) (l 5) (c 5)] 29)).alloc (.cells #[.int .i64 k,.int .i64 fr,.int .i64 po,.int .i64 wy] 33)).heap.size ((w.alloc (.cells #[.slice (p 0) (l 0) (c 0),.slice (p 1) (l 1) (c 1),.slice (p 2) (l 2) (c 2),.slice (p 3) (l 3) (c 3),.slice (p 4) (l 4) (c 4),.slice (p 5) (l 5) (c 5)] 29)).alloc (.cells #[.int .i64 k,.int .i64 fr,.int .i64 po,.int .i64 wy] 33)) w8 →
   w8.cell? ⟨w.heap.size,0,none⟩=some (.slice (p 0) (l 0) (c 0))∧w8.cell? ⟨w.heap.size+1,0,none⟩=some (.int .i64 k)∧w8.cell? ⟨w.heap.size+1,1,none⟩=some (.int .i64 fr)∧w8.cell? ⟨w.heap.size+1,2,none⟩=some (.int .i64 po)∧w8.cell? ⟨w.heap.size+1,3,none⟩=some (.int .i64 wy)∧Below w.heap.size w w8 :=
  fun w8 hb=>⟨keep hb (by simp [go_sem]),keep hb (by simp [go_sem]),keep hb (by simp [go_sem]),keep hb (by simp [go_sem]),keep hb (by simp [go_sem]),(show Below w.heap.size w _ from Bl).trans (hb.mono (by simp;omega))⟩
 have HC1:=hid C1
 clear C1
 unfold netV
 go_enter Tryz.func11,Tryz.ntmps11
 go_wp2_with fail
 refine (netOK_spec p l c s g o e x f _ (HN.out.below Bl) HK0.out HK1.out).mono ?_
 rintro e' w1 ⟨rfl,hb1⟩
 obtain ⟨q0,x0,x1,x2,x3,hB⟩:=HC1.out w1 hb1
 have B1:=hid hB
 clear hb1 hB HC1
 obtain ⟨b,eb⟩:∃ b,netB l s g o e x f=b:=⟨_,rfl⟩
 rw [eb]
 cases b with
 | false =>
  go_wp2
  go_ret
  exact ⟨ret_bool (by rw [← HP.out,eb];simp [propB]),B1.out⟩
 | true =>
 obtain ⟨b1,e1⟩:∃ b,inB k 1 4=b:=⟨_,rfl⟩
 obtain ⟨b2,e2⟩:∃ b,inB fr 0 (l 0 - 1)=b:=⟨_,rfl⟩
 obtain ⟨b3,e3⟩:∃ b,inB po (-1) 15=b:=⟨_,rfl⟩
 obtain ⟨b4,e4⟩:∃ b,(k == 3)=b:=⟨_,rfl⟩
 obtain ⟨b5,e5⟩:∃ b,inB wy 0 (l 0 - 1)=b:=⟨_,rfl⟩
 obtain ⟨b6,e6⟩:∃ b,(wy == 0)=b:=⟨_,rfl⟩
 have HD:Hid (D=(b1 && b2 && b3 && (if b4 then b5 else b6))):=by
  show _=_
  rw [← HP.out,eb];exact ((prop_eq' e1 e2 e3 e4 e5 e6).trans (by simp))
 clear HP eb
 cases b1 with
 | false =>
  go_wp2_with (go_at_call 21;refine (in_spec _ _ _ _).mono ?_;rintro e w' ⟨rfl,rfl⟩)
  go_ret
  exact ⟨ret_bool (by rw [HD.out];rfl),B1.out⟩
 | true =>
  cases b2 with
  | false =>
   go_wp2_with (go_at_call 21;refine (in_spec _ _ _ _).mono ?_;rintro e w' ⟨rfl,rfl⟩)
   go_ret
   exact ⟨ret_bool (by rw [HD.out];rfl),B1.out⟩
  | true =>
   cases b3 with
   | false =>
    go_wp2_with (go_at_call 21;refine (in_spec _ _ _ _).mono ?_;rintro e w' ⟨rfl,rfl⟩)
    go_ret
    exact ⟨ret_bool (by rw [HD.out];rfl),B1.out⟩
   | true =>
    cases b4 with
    | false =>
     cases b6 with
     | false =>
      go_wp2_with (go_at_call 21;refine (in_spec _ _ _ _).mono ?_;rintro e w' ⟨rfl,rfl⟩)
      go_ret
      exact ⟨ret_bool (by rw [HD.out];rfl),B1.out⟩
     | true =>
      go_wp2_with (go_at_call 21;refine (in_spec _ _ _ _).mono ?_;rintro e w' ⟨rfl,rfl⟩)
      go_ret
      exact ⟨ret_bool (by rw [HD.out];rfl),B1.out⟩
    | true =>
     cases b5 with
     | false =>
      go_wp2_with (go_at_call 21;refine (in_spec _ _ _ _).mono ?_;rintro e w' ⟨rfl,rfl⟩)
      go_ret
      exact ⟨ret_bool (by rw [HD.out];rfl),B1.out⟩
     | true =>
      go_wp2_with (go_at_call 21;refine (in_spec _ _ _ _).mono ?_;rintro e w' ⟨rfl,rfl⟩)
      go_ret
      exact ⟨ret_bool (by rw [HD.out];rfl),B1.out⟩
end Go.Proofs.YthompjbplddkgaaGreatDoor.propSpec
