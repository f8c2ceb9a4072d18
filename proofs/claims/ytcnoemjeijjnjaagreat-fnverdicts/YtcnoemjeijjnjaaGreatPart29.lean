import Derived.Test.YtcnoemjeijjnjaaGreatPart19
import Derived.Test.YtcnoemjeijjnjaaGreatPart28
import Derived.Deep.RegionHeld3
import Derived.BigRegion
import Derived.Test.YtcnoemjeijjnjaaGreatPart25
set_option linter.unusedVariables false
namespace Go.Proofs.YtcnoemjeijjnjaaGreat.stabSpec
open Go.RowKit Go.Deep Go base names netSem routeRow nbSem candSem candImp intsOwn candSpec candFace sceneFace walkSem routesB netImpl rtsRow bestRoute bestFace stabImpl stabFace
def bstK (g : Rs) (k : Nat) : Rt := if k=0 then noRt else bestTo g (k - 1)
theorem bstK_yes {g:Rs} {k:Nat} (hk:0<k) (h:better (g k) (bstK g k)=true):bstK g (k+1)=g k:=by
 obtain⟨k',rfl⟩:∃k',k=k' + 1:=⟨k - 1,by omega⟩;exact best_yes h
theorem bstK_no {g:Rs} {k:Nat} (hk:0<k) (h:better (g k) (bstK g k)=false):bstK g (k+1)=bstK g k:=by
 obtain⟨k',rfl⟩:∃k',k=k' + 1:=⟨k - 1,by omega⟩;exact best_no h
theorem best_via {g:Rs} {n:Nat} (h:∀i,i≤n→(g i).via≠-3):(bestTo g n).via≠-3:=by
 induction n with
 | zero=>exact h 0 (Nat.le_refl _)
 | succ n ih =>
  simp only[bestTo]
  split
  · exact h _ (Nat.le_refl _)
  exact ih fun i hi=>h i Om
theorem bstK_via {g:Rs} {k n:Nat} (hk:0<k) (hkn:k≤n) (h:∀i,i<n→(g i).via≠-3):(bstK g k).via≠-3:=by
 unfold bstK;rw[if_neg Om];exact best_via fun i hi=>h i Om
set_option maxHeartbeats 3200000 in
set_option maxRecDepth 8000 in
theorem best_of (a:Option Addr) (len cap:Nat) (g:Rs) (w:World) (hr:RtRow w a len g) (hv:∀i,i<len→(g i).via≠-3) :
  Calls Tryz.prog 119 #[.slice a len cap] w fun e w'=>e=.returned (rtV (bstK g len))∧Below w.heap.size w w' := by
 have HR:=hid hr;have hmost:=hr.most;unfold maxLen at hmost;have HV:=hid hv;clear hr hv;go_enter Tryz.func119,Tryz.ntmps119;go_wp2_with fail;refine(candImp.none_spec _).mono ?_;rintro e w1 ⟨rfl,hb1⟩;have HB1:=hid hb1
 have HQ:Hid (∀w8:World,Below w1.heap.size w1 w8→(w8.cell? ⟨w.heap.size,0,none⟩=some (.int .i64 0)∧w8.cell? ⟨w.heap.size,1,none⟩=some (.int .i64 0)∧w8.cell? ⟨w.heap.size,2,none⟩=some (.int .i64 0)∧w8.cell? ⟨w.heap.size,3,none⟩=some (.bool false))∧(∀x,w8.frozen? ⟨w.heap.size,x,none⟩=false)∧Below w.heap.size w w8∧w.heap.size<w1.heap.size) :=
  fun w8 h=>⟨⟨keep h (keep hb1 (by simp[go_sem])),keep h (keep hb1 (by simp[go_sem])),keep h (keep hb1 (by simp[go_sem])),keep h (keep hb1 (by simp[go_sem]))⟩,fun x=>(h.frozen (p:=⟨w.heap.size,x,none⟩) (by have:=hb1.size;simp at this;dsimp only;omega)).trans ((hb1.frozen (p:=⟨w.heap.size,x,none⟩) (by simp)).trans (by simp[go_sem])),((show Below w.heap.size w _ from Bl).trans (hb1.mono (by simp))).trans (h.mono ((show Below w.heap.size w _ from Bl).trans (hb1.mono (by simp))).size),by have:=hb1.size;simp at this;omega⟩
 clear hb1;simp only[rtV,noRt];have HAl:Hid (Below w1.heap.size w1 (w1.alloc (.cells #[.int .i64 (-3),.int .i64 0,.int .i64 0,.bool false] 106))):=Bl;go_wp2_with fail;go_loopw [4] (fun i wr=>∃k:Nat,k≤len∧i=.int .i64 k∧Below w1.heap.size w1 wr∧wr.rowIs w1.heap.size 106 4 (rc (bstK g k))) (fun i _=>len - (intOf i).toNat)
 case atStart =>
  refine⟨0,Nat.zero_le _,rfl,HAl.out,?_⟩
  have:=World.rowIs_alloc w1 #[.int .i64 (-3),.int .i64 0,.int .i64 0,.bool false] 106 (rc (bstK g 0)) (fun i hi=>by
   match i,hi with
   | 0,_=>rfl
   | 1,_=>rfl
   | 2,_=>rfl
   | 3,_=>rfl
   | i+4,hi=>exact absurd hi (by simp))
  exact this
 obtain⟨k,hk,rfl,hbel,hro⟩:=hrel;have HB:=hid hbel;have HO:=hid hro;have hlo:=World.rowIs.lt hro;obtain⟨⟨q0,q1,q2,q3⟩,hfr,hBw,hz1⟩:=HQ.out wr hbel;have BW:=hid hBw;have y0:=hfr 0;have y1:=hfr 1;have y2:=hfr 2;have y3:=hfr 3;have d0:=hro.cell (i:=0) Om;have d1:=hro.cell (i:=1) Om;have d2:=hro.cell (i:=2) Om;have d3:=hro.cell (i:=3) Om;have z0:=hro.frozen 0;have z1:=hro.frozen 1;have z2:=hro.frozen 2;have z3:=hro.frozen 3;simp only[rc]at d0 d1 d2 d3;have hw0:w.heap.size<wr.heap.size:=by omega
 clear hfr hBw hro;by_cases hlt:k<len
 · obtain⟨b,off,rfl,c0,c1,c2,c3⟩:=((HR.out.below (HQ.out w1 Bz).2.2.1).below hbel).at4 hlt;clear hbel
   have HSet:Hid (∀(W:World) (r:Rt),W.rowIs w1.heap.size 106 4 (rc (bstK g k))→((((W.setCell ⟨w1.heap.size,0,none⟩ (.int .i64 r.via)).setCell ⟨w1.heap.size,1,none⟩ (.int .i64 r.pref)).setCell ⟨w1.heap.size,2,none⟩ (.int .i64 r.len)).setCell ⟨w1.heap.size,3,none⟩ (.bool r.mark)).rowIs w1.heap.size 106 4 (rc r)):=fun W r hW=>by
    refine World.rowIs.congr ((((hW.set 0 _).set 1 _).set 2 _).set 3 _) fun i hi=>?_
    match i,hi with
    | 0,_=>rfl
    | 1,_=>rfl
    | 2,_=>rfl
    | 3,_=>rfl
    | i+4,hi=>exact absurd hi Om
   by_cases hk0:k=0
   · have hv:(bstK g k).via = -3:=by rw[hk0];rfl
     have HE:Hid (bstK g (k+1)=g k):=by show _=_;rw[hk0];rfl
     rw[hv]at d0;generalize g k=r at *;have hdr:Below wr.heap.size wr wr.drew:=(Below.refl _ wr).drew
     replace c0:=keep hdr c0
     replace c1:=keep hdr c1
     replace c2:=keep hdr c2
     replace c3:=keep hdr c3
     have HOd:=hid (HO.out.of_block (hdr.block _ hlo));have hrd:=HOd.out;have e0:=hrd.cell (i:=0) Om;have e1:=hrd.cell (i:=1) Om;have e2:=hrd.cell (i:=2) Om;have e3:=hrd.cell (i:=3) Om;have v0:=hrd.frozen 0;have v1:=hrd.frozen 1;have v2:=hrd.frozen 2;have v3:=hrd.frozen 3;have HBd:=hid (HB.out.trans (hdr.mono HB.out.size));simp only[rc]at e0 e1 e2 e3;rw[hv]at e0;clear hdr hrd hk0 hv;go_wp2;go_region
     all_goals
      go_wp2;go_roundw
      case rel=>exact⟨k+1,by omega,by go_num,((((HBd.out.setCell (Nat.le_refl _) _).setCell (Nat.le_refl _) _).setCell (Nat.le_refl _) _).setCell (Nat.le_refl _) _),by rw[HE.out];exact HSet.out _ r HOd.out⟩
      case measure=>simp[intOf];omega
   have hv:=bstK_via (g:=g) (k:=k) (n:=len) Om hk HV.out;have hv':((bstK g k).via==-3)=false:=by simp[hv]
   have HK:Hid (∀w8:World,Below wr.heap.size wr w8→w8.cell? ⟨b,off+k*4,none⟩=some (.int .i64 (g k).via)∧w8.cell? ⟨b,off+k*4+1,none⟩=some (.int .i64 (g k).pref)∧w8.cell? ⟨b,off+k*4+2,none⟩=some (.int .i64 (g k).len)∧w8.cell? ⟨b,off+k*4+3,none⟩=some (.bool (g k).mark)∧w8.cell? ⟨w1.heap.size,0,none⟩=some (.int .i64 (bstK g k).via)∧w8.cell? ⟨w1.heap.size,1,none⟩=some (.int .i64 (bstK g k).pref)∧w8.cell? ⟨w1.heap.size,2,none⟩=some (.int .i64 (bstK g k).len)∧w8.cell? ⟨w1.heap.size,3,none⟩=some (.bool (bstK g k).mark)∧Below wr.heap.size wr w8) :=
    fun w8 h=>⟨keep h c0,keep h c1,keep h c2,keep h c3,keep h d0,keep h d1,keep h d2,keep h d3,h⟩
   clear c0 c1 c2 c3 d0 d1 d2 d3;have HY:Hid (better (g k) (bstK g k)=true→bstK g (k+1)=g k):=bstK_yes Om;have HN:Hid (better (g k) (bstK g k)=false→bstK g (k+1)=bstK g k):=bstK_no Om;have HG:Hid (g k=⟨(g k).via,(g k).pref,(g k).len,(g k).mark⟩):=hid rfl;have HG':Hid (bstK g k=⟨(bstK g k).via,(bstK g k).pref,(bstK g k).len,(bstK g k).mark⟩):=hid rfl;generalize (g k).via=x0 at *;generalize (g k).pref=x1 at *;generalize (g k).len=x2 at *;generalize (g k).mark=x3 at *;generalize (bstK g k).via=u0 at *;generalize (bstK g k).pref=u1 at *;generalize (bstK g k).len=u2 at *;generalize (bstK g k).mark=u3 at *;go_wp2_with fail
   go_region_held3 (fun w8=>w8.cell? ⟨b,off+k*4,none⟩=some (.int .i64 x0)∧w8.cell? ⟨b,off+k*4+1,none⟩=some (.int .i64 x1)∧w8.cell? ⟨b,off+k*4+2,none⟩=some (.int .i64 x2)∧w8.cell? ⟨b,off+k*4+3,none⟩=some (.bool x3)∧w8.cell? ⟨w1.heap.size,0,none⟩=some (.int .i64 u0)∧w8.cell? ⟨w1.heap.size,1,none⟩=some (.int .i64 u1)∧w8.cell? ⟨w1.heap.size,2,none⟩=some (.int .i64 u2)∧w8.cell? ⟨w1.heap.size,3,none⟩=some (.bool u3)∧Below wr.heap.size wr w8)
    (refine HK.out _ (by first|assumption|exact(Below.refl _ wr).drew|exact hb57))
    ((go_at_call 143;refine(better_spec x0 x1 x2 u0 u1 u2 x3 u3 _).mono ?_;rintro e w7 ⟨rfl,hb7⟩;have hb57:Below wr.heap.size wr w7:=((Below.refl _ wr).drew).trans hb7;clear hb7))
   all_goals
    obtain⟨c0,c1,c2,c3,d0,d1,d2,d3,-⟩:=HK.out w7 hb57;have HO7:=hid (HO.out.of_block (hb57.block _ hlo));have hr7:=HO7.out;have v0:=hr7.frozen 0;have v1:=hr7.frozen 1;have v2:=hr7.frozen 2;have v3:=hr7.frozen 3;have HB7:=hid (HB.out.trans (hb57.mono HB.out.size));clear hb57 hr7;rw[←HG.out,←HG'.out]
    cases hb:better (g k) (bstK g k) with
    | true =>
     have HE:=hid (HY.out hb);clear hb;go_wp2;go_roundw
     case rel =>
      refine⟨k+1,by omega,by go_num,((((HB7.out.setCell (Nat.le_refl _) _).setCell (Nat.le_refl _) _).setCell (Nat.le_refl _) _).setCell (Nat.le_refl _) _),?_⟩;rw[HE.out,HG.out];exact HSet.out _ ⟨x0,x1,x2,x3⟩ HO7.out
     case measure=>simp[intOf];omega
    | false =>
     have HE:=hid (HN.out hb);clear hb;go_wp2;go_roundw
     case rel=>exact⟨k+1,by omega,by go_num,HB7.out,by rw[HE.out];exact HO7.out⟩
     case measure=>simp[intOf];omega
 have e:k=len:=by omega
 subst e;clear hbel;go_wp2;refine bodyPost_ret (v:=rtV (bstK g k)) (by simp[results,Tryz.results119,go_sem,q0,q1,q2,q3,rtV]) rfl ?_;exact⟨rfl,(((BW.out.setCell (Nat.le_refl _) _).setCell (Nat.le_refl _) _).setCell (Nat.le_refl _) _).setCell (Nat.le_refl _) _⟩
end Go.Proofs.YtcnoemjeijjnjaaGreat.stabSpec
namespace Go.Proofs.YtcnoemjeijjnjaaGreat.stabLaw
open Go.RowKit Go.Deep Go base names netSem netSpec routeRow routesB routesSpec nbSem candSem candEnv candImp intsOwn candSpec candFace sceneFault sceneFace walkSem rtsRow bestRoute bestFace stabImpl stabFace stabSpec
theorem cand_via {g : R} {nl : Nat} {o e : List Int} {x : R} {nx : Nat} {env : List Int} {ds : List Bool} {rs : Rs} {n : Nat} {router : Int} : ∀r∈candL g nl o e x nx env ds rs n router,r.via≠-3 := by
 intro r hr;simp only[candL,List.mem_append,List.mem_flatMap]at hr;rcases hr with (hr|hr)|⟨j,hj,hr⟩
 · unfold ownC at hr
   split at hr
   · simp only[List.mem_singleton]at hr;rw[hr];decide
   cases hr
 · unfold extC at hr
   split at hr
   · simp only[List.mem_singleton]at hr;rw[hr];show (-1:Int)≠-3;decide
   cases hr
 have hj0:0≤j:=by
  unfold nbL at hj;simp only[List.mem_map]at hj;obtain⟨k,_,rfl⟩:=hj;omega
 unfold candOf at hr
 split at hr
 · cases hr
 split at hr
 · cases hr
 cases hi:impR g nl x nx router j (rs j.toNat) with
 | none=>rw[hi]at hr;cases hr
 | some q =>
  rw[hi]at hr;simp only[List.mem_singleton]at hr;subst hr;have:=(impK_via (show impK x router j (startI j (g (linkAt g nl router j).toNat 2) (rs j.toNat)) nx=some r from hi)).1;rw[this]
  show j≠-3
  omega
theorem rF_mem {zs:List Rt} {i:Nat} (h:i<zs.length):rF zs i∈zs:=by
 unfold rF;rw[List.getElem?_eq_getElem h];exact List.getElem_mem h
set_option maxHeartbeats 3200000 in
set_option maxRecDepth 8000 in
theorem stable_spec (p:Nat→Option Addr) (l c:Nat→Nat) (s:Ss) (g:R) (o e:List Int) (x f:R) (ea da ra:Option Addr) (ec dc cr:Nat) (env:List Int) (ds:List Bool) (rs:Rs) (w:World) (h:NetIs w p l s g o e x f) (he:IntRow w ea (l 3) env) (hd:BoolRow w da (l 1) ds) (hr:RtRow w ra (l 0) rs) (hgd:sceneBy.Good (l 0) l g x rs) :
  Calls Tryz.prog 74 #[netV p l c,.slice ea (l 3) ec,.slice da (l 1) dc,.slice ra (l 0) cr] w fun e' w'=>e' = .returned (.bool (stabB g (l 1) o e x (l 4) env ds rs (l 0)))∧Below w.heap.size w w' := by
 have HN:=hid h;have HE:=hid he;have HD:=hid hd;have HR:=hid hr;have HGd:=hid hgd;have h4:=hgd.few;clear h he hd hr hgd
 have C1:∀w8:World,Below ((w.alloc (.cells #[.slice (p 0) (l 0) (c 0),.slice (p 1) (l 1) (c 1),.slice (p 2) (l 2) (c 2),.slice (p 3) (l 3) (c 3),.slice (p 4) (l 4) (c 4),.slice (p 5) (l 5) (c 5)] 29))).heap.size (w.alloc (.cells #[.slice (p 0) (l 0) (c 0),.slice (p 1) (l 1) (c 1),.slice (p 2) (l 2) (c 2),.slice (p 3) (l 3) (c 3),.slice (p 4) (l 4) (c 4),.slice (p 5) (l 5) (c 5)] 29)) w8→(w8.cell? ⟨w.heap.size,0,none⟩=some (.slice (p 0) (l 0) (c 0))∧w8.cell? ⟨w.heap.size,1,none⟩=some (.slice (p 1) (l 1) (c 1))∧w8.cell? ⟨w.heap.size,2,none⟩=some (.slice (p 2) (l 2) (c 2))∧w8.cell? ⟨w.heap.size,3,none⟩=some (.slice (p 3) (l 3) (c 3))∧w8.cell? ⟨w.heap.size,4,none⟩=some (.slice (p 4) (l 4) (c 4))∧w8.cell? ⟨w.heap.size,5,none⟩=some (.slice (p 5) (l 5) (c 5)))∧Below w.heap.size w w8 :=
  fun w8 hb=>⟨⟨keep hb (by simp[go_sem]),keep hb (by simp[go_sem]),keep hb (by simp[go_sem]),keep hb (by simp[go_sem]),keep hb (by simp[go_sem]),keep hb (by simp[go_sem])⟩,(show Below w.heap.size w _ from Bl).trans (hb.mono (by simp))⟩
 have HC1:=hid C1;clear C1
 have HCa:Hid (∀(W:World) (k:Nat),Below w.heap.size w W→Calls Tryz.prog 118 #[netV p l c,.int .i64 (k:Int),.slice ea (l 3) ec,.slice da (l 1) dc,.slice ra (l 0) cr] W fun e' w'=>∃v,e' = .returned v∧OwnRts W.heap.size w' v (candL g (l 1) o e x (l 4) env ds rs (l 0) (k:Int))∧Below W.heap.size W w') :=
  fun W k hb=>cand_spec p l c s g o e x f (k:Int) ea da ra ec dc cr env ds rs W (HN.out.below hb) (HE.out.below hb) (HD.out.below hb) (HR.out.below hb) HGd.out.few HGd.out.cost (fun i hi=>(HGd.out.via i hi).2) HGd.out.len
 have HYes:Hid ((∀i,i<l 0→bst (candL g (l 1) o e x (l 4) env ds rs (l 0) (i:Int))=rs i)→stabB g (l 1) o e x (l 4) env ds rs (l 0)=true):=fun h=>by
  unfold stabB;exact same_yes (fun i hi=>h i hi)
 have HNo:Hid (∀k,k<l 0→bst (candL g (l 1) o e x (l 4) env ds rs (l 0) (k:Int))≠rs k→stabB g (l 1) o e x (l 4) env ds rs (l 0)=false):=fun k hk h=>by
  unfold stabB;exact same_no (k:=k) hk h
 obtain⟨S,hS⟩:∃S,stabB g (l 1) o e x (l 4) env ds rs (l 0)=S:=⟨_,rfl⟩;rw[hS]at HYes HNo ⊢;clear hS;unfold netV at HCa ⊢;go_enter Tryz.func74,Tryz.ntmps74;go_wp2;go_loopw [9] (fun i wr=>∃k:Nat,k≤l 0∧i=.int .i64 k∧(∀j,j<k→bst (candL g (l 1) o e x (l 4) env ds rs (l 0) (j:Int))=rs j)∧Below (w.alloc (.cells #[.slice (p 0) (l 0) (c 0),.slice (p 1) (l 1) (c 1),.slice (p 2) (l 2) (c 2),.slice (p 3) (l 3) (c 3),.slice (p 4) (l 4) (c 4),.slice (p 5) (l 5) (c 5)] 29)).heap.size (w.alloc (.cells #[.slice (p 0) (l 0) (c 0),.slice (p 1) (l 1) (c 1),.slice (p 2) (l 2) (c 2),.slice (p 3) (l 3) (c 3),.slice (p 4) (l 4) (c 4),.slice (p 5) (l 5) (c 5)] 29)) wr) (fun i _=>l 0 - (intOf i).toNat)
 case atStart=>exact⟨0,Nat.zero_le _,rfl,fun j hj=>absurd hj (Nat.not_lt_zero _),Below.refl _ _⟩
 obtain⟨k,hk,rfl,ha,hbel⟩:=hrel;have HA:=hid ha;have HB:=hid hbel;obtain⟨⟨q0,q1,q2,q3,q4,q5⟩,hB⟩:=HC1.out wr hbel;have BW:=hid hB;have hz0:w.heap.size<wr.heap.size:=by have:=hbel.size;simp at this;omega
 clear ha hbel hB;by_cases hlt:k<l 0
 · obtain⟨b0,off,era,c0,c1,c2,c3⟩:=(HR.out.below BW.out).at4 hlt;have hb0:=World.block_lt_of_cell? _ _ c0;dsimp only at hb0;have HCk:=hid (HCa.out);have HM:Hid (∀r,bst (candL g (l 1) o e x (l 4) env ds rs (l 0) (k:Int))=r→r≠rs k→S=false):=fun r h1 h2=>(HNo.out k hlt (by rw[h1];exact h2)).symm ▸ rfl
   have HE1:Hid (∀r,bst (candL g (l 1) o e x (l 4) env ds rs (l 0) (k:Int))=r→r=rs k→∀j,j<k+1→bst (candL g (l 1) o e x (l 4) env ds rs (l 0) (j:Int))=rs j):=fun r h1 h2 j hj=>by
    by_cases ej:j=k
    · subst ej;rw[h1];exact h2
    exact HA.out j Om
   obtain⟨zs,hzs⟩:∃zs,candL g (l 1) o e x (l 4) env ds rs (l 0) (k:Int)=zs:=⟨_,rfl⟩
   have HV:Hid (∀i,i<zs.length→(rF zs i).via≠-3):=fun i hi=>by
    have h1:=rF_mem hi;rw[←hzs]at h1;rw[←hzs];exact cand_via _ h1
   have HCk:Hid (∀W:World,Below w.heap.size w W→Calls Tryz.prog 118 #[.agg #[.slice (p 0) (l 0) (c 0),.slice (p 1) (l 1) (c 1),.slice (p 2) (l 2) (c 2),.slice (p 3) (l 3) (c 3),.slice (p 4) (l 4) (c 4),.slice (p 5) (l 5) (c 5)],.int .i64 (k:Int),.slice ea (l 3) ec,.slice da (l 1) dc,.slice ra (l 0) cr] W fun e' w'=>∃v,e' = .returned v∧OwnRts W.heap.size w' v zs∧Below W.heap.size W w'):=fun W hb=>by
    rw[←hzs];exact HCa.out W k hb
   rw[hzs]at HM HE1;obtain⟨r,hr⟩:∃r,bst zs=r:=⟨_,rfl⟩;have HBr:Hid (bstK (rF zs) zs.length=r):=hr;rw[hr]at HM HE1;obtain⟨y,hy⟩:∃y,rs k=y:=⟨_,rfl⟩;have HM2:Hid (r≠y→S=false):=fun h=>HM.out r rfl (by rw[hy];exact h);have HE2:Hid (r=y→∀j,j<k+1→bst (candL g (l 1) o e x (l 4) env ds rs (l 0) (j:Int))=rs j):=fun h=>HE1.out r rfl (by rw[hy];exact h);rw[hy]at c0 c1 c2 c3;clear hzs hr hy HM HE1;obtain⟨y0,y1,y2,y3⟩:=y;dsimp only at c0 c1 c2 c3;have HK:Hid (∀w8:World,Below wr.heap.size wr w8→w8.cell? ⟨w.heap.size,0,none⟩=some (.slice (p 0) (l 0) (c 0))∧w8.cell? ⟨w.heap.size,1,none⟩=some (.slice (p 1) (l 1) (c 1))∧w8.cell? ⟨w.heap.size,2,none⟩=some (.slice (p 2) (l 2) (c 2))∧w8.cell? ⟨w.heap.size,3,none⟩=some (.slice (p 3) (l 3) (c 3))∧w8.cell? ⟨w.heap.size,4,none⟩=some (.slice (p 4) (l 4) (c 4))∧w8.cell? ⟨w.heap.size,5,none⟩=some (.slice (p 5) (l 5) (c 5))∧w8.cell? ⟨b0,off+k*4,none⟩=some (.int .i64 y0)∧w8.cell? ⟨b0,off+k*4+1,none⟩=some (.int .i64 y1)∧w8.cell? ⟨b0,off+k*4+2,none⟩=some (.int .i64 y2)∧w8.cell? ⟨b0,off+k*4+3,none⟩=some (.bool y3)∧Below wr.heap.size wr w8):=fun w8 h=>⟨keep h q0,keep h q1,keep h q2,keep h q3,keep h q4,keep h q5,keep h c0,keep h c1,keep h c2,keep h c3,h⟩;rw[era]at HCk ⊢;clear q0 q1 q2 q3 q4 q5 c0 c1 c2 c3;obtain⟨r0,r1,r2,r3⟩:=r;by_cases e0:r0=y0
   · have e0:=e0.symm;subst e0;by_cases e1:r1=y1
     · have e1:=e1.symm;subst e1;by_cases e2:r2=y2
       · have e2:=e2.symm;subst e2;by_cases e3:r3=y3
         · have e3:=e3.symm;subst e3;have HE3:=hid (HE2.out rfl);go_wp2_with fail
           go_region_held3 (fun w8=>w8.cell? ⟨w.heap.size,0,none⟩=some (.slice (p 0) (l 0) (c 0))∧w8.cell? ⟨w.heap.size,1,none⟩=some (.slice (p 1) (l 1) (c 1))∧w8.cell? ⟨w.heap.size,2,none⟩=some (.slice (p 2) (l 2) (c 2))∧w8.cell? ⟨w.heap.size,3,none⟩=some (.slice (p 3) (l 3) (c 3))∧w8.cell? ⟨w.heap.size,4,none⟩=some (.slice (p 4) (l 4) (c 4))∧w8.cell? ⟨w.heap.size,5,none⟩=some (.slice (p 5) (l 5) (c 5))∧w8.cell? ⟨b0,off+k*4,none⟩=some (.int .i64 y0)∧w8.cell? ⟨b0,off+k*4+1,none⟩=some (.int .i64 y1)∧w8.cell? ⟨b0,off+k*4+2,none⟩=some (.int .i64 y2)∧w8.cell? ⟨b0,off+k*4+3,none⟩=some (.bool y3)∧Below wr.heap.size wr w8)
            (refine HK.out _ (by first|assumption|exact(Below.refl _ wr).drew|exact hb6'|exact hb7'))
            (first
             | (go_at_call 119;refine(best_of av zs.length cv (rF zs) _ HRow.out HV.out).mono ?_;rintro e' w7 ⟨rfl,hb7⟩;have hb7':Below wr.heap.size wr w7:=hb6'.trans (hb7.mono hb6'.size);rw[HBr.out];clear hb7;simp only[rtV])
             | (go_at_call 118;refine(HCk.out _ BW.out.drew).mono ?_;rintro e' w6 ⟨v6,rfl,ho6,hb6⟩;have hb6':Below wr.heap.size wr w6:=((Below.refl _ wr).drew).trans hb6;obtain⟨av,cv,rfl,hrow6⟩:=rts_form ho6;have HRow:=hid hrow6;clear hb6 ho6 hrow6))
           all_goals
            have HB7:=hid (HB.out.trans (hb7'.mono HB.out.size));clear hb7' hb6';go_wp2;go_roundw
            case rel=>exact⟨k+1,by omega,by go_num,HE3.out,HB7.out⟩
            case measure=>simp[intOf];omega
         have f:(r3==y3)=false:=by simp[e3]
         have HF:Hid (S=false):=HM2.out (fun h=>e3 (by injection h));clear e3;go_wp2_with fail
         go_region_held3 (fun w8=>w8.cell? ⟨w.heap.size,0,none⟩=some (.slice (p 0) (l 0) (c 0))∧w8.cell? ⟨w.heap.size,1,none⟩=some (.slice (p 1) (l 1) (c 1))∧w8.cell? ⟨w.heap.size,2,none⟩=some (.slice (p 2) (l 2) (c 2))∧w8.cell? ⟨w.heap.size,3,none⟩=some (.slice (p 3) (l 3) (c 3))∧w8.cell? ⟨w.heap.size,4,none⟩=some (.slice (p 4) (l 4) (c 4))∧w8.cell? ⟨w.heap.size,5,none⟩=some (.slice (p 5) (l 5) (c 5))∧w8.cell? ⟨b0,off+k*4,none⟩=some (.int .i64 y0)∧w8.cell? ⟨b0,off+k*4+1,none⟩=some (.int .i64 y1)∧w8.cell? ⟨b0,off+k*4+2,none⟩=some (.int .i64 y2)∧w8.cell? ⟨b0,off+k*4+3,none⟩=some (.bool y3)∧Below wr.heap.size wr w8)
          (refine HK.out _ (by first|assumption|exact(Below.refl _ wr).drew|exact hb6'|exact hb7'))
          (first
           | (go_at_call 119;refine(best_of av zs.length cv (rF zs) _ HRow.out HV.out).mono ?_;rintro e' w7 ⟨rfl,hb7⟩;have hb7':Below wr.heap.size wr w7:=hb6'.trans (hb7.mono hb6'.size);rw[HBr.out];clear hb7;simp only[rtV])
           | (go_at_call 118;refine(HCk.out _ BW.out.drew).mono ?_;rintro e' w6 ⟨v6,rfl,ho6,hb6⟩;have hb6':Below wr.heap.size wr w6:=((Below.refl _ wr).drew).trans hb6;obtain⟨av,cv,rfl,hrow6⟩:=rts_form ho6;have HRow:=hid hrow6;clear hb6 ho6 hrow6))
         all_goals
          have HB7:=hid (BW.out.trans (hb7'.mono BW.out.size));clear hb7' hb6';go_wp2;go_ret;exact⟨ret_bool HF.out.symm,HB7.out⟩
       have f:(r2==y2)=false:=by simp[e2]
       have HF:Hid (S=false):=HM2.out (fun h=>e2 (by injection h));clear e2;go_wp2_with fail
       go_region_held3 (fun w8=>w8.cell? ⟨w.heap.size,0,none⟩=some (.slice (p 0) (l 0) (c 0))∧w8.cell? ⟨w.heap.size,1,none⟩=some (.slice (p 1) (l 1) (c 1))∧w8.cell? ⟨w.heap.size,2,none⟩=some (.slice (p 2) (l 2) (c 2))∧w8.cell? ⟨w.heap.size,3,none⟩=some (.slice (p 3) (l 3) (c 3))∧w8.cell? ⟨w.heap.size,4,none⟩=some (.slice (p 4) (l 4) (c 4))∧w8.cell? ⟨w.heap.size,5,none⟩=some (.slice (p 5) (l 5) (c 5))∧w8.cell? ⟨b0,off+k*4,none⟩=some (.int .i64 y0)∧w8.cell? ⟨b0,off+k*4+1,none⟩=some (.int .i64 y1)∧w8.cell? ⟨b0,off+k*4+2,none⟩=some (.int .i64 y2)∧w8.cell? ⟨b0,off+k*4+3,none⟩=some (.bool y3)∧Below wr.heap.size wr w8)
        (refine HK.out _ (by first|assumption|exact(Below.refl _ wr).drew|exact hb6'|exact hb7'))
        (first
         | (go_at_call 119;refine(best_of av zs.length cv (rF zs) _ HRow.out HV.out).mono ?_;rintro e' w7 ⟨rfl,hb7⟩;have hb7':Below wr.heap.size wr w7:=hb6'.trans (hb7.mono hb6'.size);rw[HBr.out];clear hb7;simp only[rtV])
         | (go_at_call 118;refine(HCk.out _ BW.out.drew).mono ?_;rintro e' w6 ⟨v6,rfl,ho6,hb6⟩;have hb6':Below wr.heap.size wr w6:=((Below.refl _ wr).drew).trans hb6;obtain⟨av,cv,rfl,hrow6⟩:=rts_form ho6;have HRow:=hid hrow6;clear hb6 ho6 hrow6))
       all_goals
        have HB7:=hid (BW.out.trans (hb7'.mono BW.out.size));clear hb7' hb6';go_wp2;go_ret;exact⟨ret_bool HF.out.symm,HB7.out⟩
     have f:(r1==y1)=false:=by simp[e1]
     have HF:Hid (S=false):=HM2.out (fun h=>e1 (by injection h));clear e1;go_wp2_with fail
     go_region_held3 (fun w8=>w8.cell? ⟨w.heap.size,0,none⟩=some (.slice (p 0) (l 0) (c 0))∧w8.cell? ⟨w.heap.size,1,none⟩=some (.slice (p 1) (l 1) (c 1))∧w8.cell? ⟨w.heap.size,2,none⟩=some (.slice (p 2) (l 2) (c 2))∧w8.cell? ⟨w.heap.size,3,none⟩=some (.slice (p 3) (l 3) (c 3))∧w8.cell? ⟨w.heap.size,4,none⟩=some (.slice (p 4) (l 4) (c 4))∧w8.cell? ⟨w.heap.size,5,none⟩=some (.slice (p 5) (l 5) (c 5))∧w8.cell? ⟨b0,off+k*4,none⟩=some (.int .i64 y0)∧w8.cell? ⟨b0,off+k*4+1,none⟩=some (.int .i64 y1)∧w8.cell? ⟨b0,off+k*4+2,none⟩=some (.int .i64 y2)∧w8.cell? ⟨b0,off+k*4+3,none⟩=some (.bool y3)∧Below wr.heap.size wr w8)
      (refine HK.out _ (by first|assumption|exact(Below.refl _ wr).drew|exact hb6'|exact hb7'))
      (first
       | (go_at_call 119;refine(best_of av zs.length cv (rF zs) _ HRow.out HV.out).mono ?_;rintro e' w7 ⟨rfl,hb7⟩;have hb7':Below wr.heap.size wr w7:=hb6'.trans (hb7.mono hb6'.size);rw[HBr.out];clear hb7;simp only[rtV])
       | (go_at_call 118;refine(HCk.out _ BW.out.drew).mono ?_;rintro e' w6 ⟨v6,rfl,ho6,hb6⟩;have hb6':Below wr.heap.size wr w6:=((Below.refl _ wr).drew).trans hb6;obtain⟨av,cv,rfl,hrow6⟩:=rts_form ho6;have HRow:=hid hrow6;clear hb6 ho6 hrow6))
     all_goals
      have HB7:=hid (BW.out.trans (hb7'.mono BW.out.size));clear hb7' hb6';go_wp2;go_ret;exact⟨ret_bool HF.out.symm,HB7.out⟩
   have f:(r0==y0)=false:=by simp[e0]
   have HF:Hid (S=false):=HM2.out (fun h=>e0 (by injection h));clear e0;go_wp2_with fail
   go_region_held3 (fun w8=>w8.cell? ⟨w.heap.size,0,none⟩=some (.slice (p 0) (l 0) (c 0))∧w8.cell? ⟨w.heap.size,1,none⟩=some (.slice (p 1) (l 1) (c 1))∧w8.cell? ⟨w.heap.size,2,none⟩=some (.slice (p 2) (l 2) (c 2))∧w8.cell? ⟨w.heap.size,3,none⟩=some (.slice (p 3) (l 3) (c 3))∧w8.cell? ⟨w.heap.size,4,none⟩=some (.slice (p 4) (l 4) (c 4))∧w8.cell? ⟨w.heap.size,5,none⟩=some (.slice (p 5) (l 5) (c 5))∧w8.cell? ⟨b0,off+k*4,none⟩=some (.int .i64 y0)∧w8.cell? ⟨b0,off+k*4+1,none⟩=some (.int .i64 y1)∧w8.cell? ⟨b0,off+k*4+2,none⟩=some (.int .i64 y2)∧w8.cell? ⟨b0,off+k*4+3,none⟩=some (.bool y3)∧Below wr.heap.size wr w8)
    (refine HK.out _ (by first|assumption|exact(Below.refl _ wr).drew|exact hb6'|exact hb7'))
    (first
     | (go_at_call 119;refine(best_of av zs.length cv (rF zs) _ HRow.out HV.out).mono ?_;rintro e' w7 ⟨rfl,hb7⟩;have hb7':Below wr.heap.size wr w7:=hb6'.trans (hb7.mono hb6'.size);rw[HBr.out];clear hb7;simp only[rtV])
     | (go_at_call 118;refine(HCk.out _ BW.out.drew).mono ?_;rintro e' w6 ⟨v6,rfl,ho6,hb6⟩;have hb6':Below wr.heap.size wr w6:=((Below.refl _ wr).drew).trans hb6;obtain⟨av,cv,rfl,hrow6⟩:=rts_form ho6;have HRow:=hid hrow6;clear hb6 ho6 hrow6))
   all_goals
    have HB7:=hid (BW.out.trans (hb7'.mono BW.out.size));clear hb7' hb6';go_wp2;go_ret;exact⟨ret_bool HF.out.symm,HB7.out⟩
 have e1:k=l 0:=by omega
 have HS:Hid (S=true):=(HYes.out (fun i hi=>HA.out i Om)).symm ▸ rfl;have dk:decide ((k:Int)<(l 0:Int))=false:=decide_eq_false Om;go_wp2;go_ret;exact⟨ret_bool HS.out.symm,BW.out⟩
end Go.Proofs.YtcnoemjeijjnjaaGreat.stabLaw
namespace Go.Proofs.YtcnoemjeijjnjaaGreat.ssSem
open Go base netSem routeRow nbSem candSem sceneSem sceneCand sceneList rtsRow noRts bestAll stabImpl stabFace stabLaw rofSem prodSem
def ownV (o : List Int) (i : Int) : List Int := if 0≤hasAt o i then [-2] else []
def extV (e env : List Int) (i : Int) : List Int := if 0≤hasAt e i∧0<zAt env (hasAt e i).toNat then [-1] else []
def optL (g : R) (nl : Nat) (o e env : List Int) (ds : List Bool) (n : Nat) (i : Int) : List Int :=
 ownV o i++extV e env i++(if (ownV o i++extV e env i).length=0 then [-3] else [])++nbL g nl ds i n
def rowP (g : R) (nl : Nat) (o e env : List Int) (ds : List Bool) (i : Int) (k : Nat) : List Int :=
 ((List.range k).map fun j:Nat=>(j:Int) - 3).filter fun v=>openB g nl o e env ds i v
theorem rowP_succ (g:R) (nl:Nat) (o e env:List Int) (ds:List Bool) (i:Int) (k:Nat):rowP g nl o e env ds i (k+1)=rowP g nl o e env ds i k++(if openB g nl o e env ds i ((k:Int) - 3) then [(k:Int) - 3] else []):=by
 unfold rowP;rw[List.range_succ,List.map_append,List.filter_append]
 congr 1
 simp only[List.map_cons,List.map_nil];cases h:openB g nl o e env ds i ((k:Int) - 3)<;>simp[h]
theorem rowP_len (g:R) (nl:Nat) (o e env:List Int) (ds:List Bool) (i:Int) (k:Nat):(rowP g nl o e env ds i k).length≤k:=by
 unfold rowP;refine Nat.le_trans (List.length_filter_le _ _) ?_;simp
theorem rowP_form (g:R) (nl:Nat) (o e env:List Int) (ds:List Bool) (i:Int) (he:∀i,0≤zAt env i):∀k,rowP g nl o e env ds i (k+3) = -3::(ownV o i++extV e env i++nbL g nl ds i k)
 | 0=>by
  rw[rowP_succ,rowP_succ,rowP_succ];have h0:rowP g nl o e env ds i 0=[]:=rfl;have h3:openB g nl o e env ds i (((0:Nat):Int) - 3)=true:=rfl;have h2:openB g nl o e env ds i (((0+1:Nat):Int) - 3)=decide (0≤hasAt o i):=rfl;have h1:openB g nl o e env ds i (((0+1+1:Nat):Int) - 3)=(annA e env i != 0):=rfl;rw[h0,h3,h2,h1];have hn:nbL g nl ds i 0=[]:=by simp[nbL]
  rw[hn];unfold ownV extV annA;by_cases a:0≤hasAt o i
  · by_cases b:0≤hasAt e i
    · have:=he (hasAt e i).toNat;by_cases c:zAt env (hasAt e i).toNat=0
      · simp[a,b,c]
      have c':0<zAt env (hasAt e i).toNat:=by omega
      simp[a,b,c,c']
    simp[a,b]
  by_cases b:0≤hasAt e i
  · have:=he (hasAt e i).toNat;by_cases c:zAt env (hasAt e i).toNat=0
    · simp[a,b,c]
    have c':0<zAt env (hasAt e i).toNat:=by omega
    simp[a,b,c,c']
  simp[a,b]
 | k+1=>by
  rw[show k+1+3=(k+3)+1 from rfl,rowP_succ,rowP_form g nl o e env ds i he k,nbL_succ]
  have h:openB g nl o e env ds i (((k+3:Nat):Int) - 3)=nbB g nl ds i k:=by
   have e1:((k+3:Nat):Int) - 3=(k:Int):=by omega
   rw[e1];unfold openB;rw[if_neg Om,if_neg Om,if_neg Om,Int.toNat_natCast]
  rw[h,show ((k+3:Nat):Int) - 3=(k:Int) by omega];cases nbB g nl ds i k<;>simp
def letsB (o e env : List Int) (i : Int) (v : Int) : Bool := decide (v≠-3)||decide ((ownV o i++extV e env i).length=0)
theorem opt_row (g:R) (nl:Nat) (o e env:List Int) (ds:List Bool) (n:Nat) (i:Int) (he:∀i,0≤zAt env i):optL g nl o e env ds n i=(rowP g nl o e env ds i (n+3)).filter (letsB o e env i):=by
 rw[rowP_form g nl o e env ds i he n,List.filter_cons,List.filter_append,List.filter_append]
 have h2:(ownV o i).filter (letsB o e env i)=ownV o i:=List.filter_eq_self.2 fun v hv=>by
  unfold ownV at hv
  split at hv
  · simp only[List.mem_singleton]at hv;subst hv;rfl
  cases hv
 have h1:(extV e env i).filter (letsB o e env i)=extV e env i:=List.filter_eq_self.2 fun v hv=>by
  unfold extV at hv
  split at hv
  · simp only[List.mem_singleton]at hv;subst hv;rfl
  cases hv
 have h0:(nbL g nl ds i n).filter (letsB o e env i)=nbL g nl ds i n:=List.filter_eq_self.2 fun v hv=>by
  unfold nbL at hv;obtain⟨j,_,rfl⟩:=List.mem_map.1 hv;unfold letsB;rw[decide_eq_true Om];rfl
 rw[h2,h1,h0];unfold optL;by_cases hz:(ownV o i++extV e env i).length=0
 · have h3:letsB o e env i (-3)=true:=by unfold letsB;rw[decide_eq_true hz];rfl
   rw[if_pos hz,h3,if_pos rfl,List.length_eq_zero_iff.1 hz];rfl
 have h3:letsB o e env i (-3)=false:=by unfold letsB;rw[decide_eq_false hz];rfl
 rw[if_neg hz,h3,if_neg (by decide),List.append_nil]
def goodB (g : R) (nl : Nat) (o e : List Int) (x : R) (nx : Nat) (env : List Int) (ds : List Bool) (n : Nat) (c : List Int) : Bool := okV g nl o e x nx env ds c n&&stabB g nl o e x nx env ds (valR g nl o e x nx env ds c n) n
def stateOf (g : R) (nl : Nat) (o e : List Int) (x : R) (nx : Nat) (env : List Int) (ds : List Bool) (n : Nat) (c : List Int) : List Rt := (List.range n).map (valR g nl o e x nx env ds c n)
def statesL (g : R) (nl : Nat) (o e : List Int) (x : R) (nx : Nat) (env : List Int) (ds : List Bool) (n : Nat) (l : List (List Int)) : List (List Rt) := (l.filter (goodB g nl o e x nx env ds n)).map (stateOf g nl o e x nx env ds n)
theorem statesL_snoc (g:R) (nl:Nat) (o e:List Int) (x:R) (nx:Nat) (env:List Int) (ds:List Bool) (n:Nat) (l:List (List Int)) (c:List Int):statesL g nl o e x nx env ds n (l++[c])=statesL g nl o e x nx env ds n l++(if goodB g nl o e x nx env ds n c then [stateOf g nl o e x nx env ds n c] else []):=by
 unfold statesL;rw[List.filter_append,List.map_append]
 congr 1
 cases h:goodB g nl o e x nx env ds n c<;>simp[h]
variable {g : R} {nl nx : Nat} {o e : List Int} {x : R} {env : List Int} {ds : List Bool} {n : Nat}
theorem bst_none {zs:List Rt} (h:bst zs=noRt) (hv:∀r∈zs,r.via≠-3):zs=[]:=by
 cases zs with
 | nil=>rfl
 | cons a zs =>
  exfalso;have hpos:0<(a::zs).length:=by simp
  rw[bst_some hpos]at h
  have key:∀k,k<(a::zs).length→∃i,i≤k∧bestTo (rF (a::zs)) k=rF (a::zs) i:=by
   intro k
   induction k with
   | zero=>intro _;exact⟨0,Nat.le_refl _,rfl⟩
   | succ k ih =>
    intro hk;simp only[bestTo]
    split
    · exact⟨k+1,Nat.le_refl _,rfl⟩
    obtain⟨i,hi,e⟩:=ih Om;exact⟨i,by omega,e⟩
  obtain⟨i,hi,e⟩:=key _ (show (a::zs).length - 1<(a::zs).length by omega);rw[e]at h
  have hm:rF (a::zs) i∈(a::zs):=by
   have hil:i<(a::zs).length:=by omega
   unfold rF;rw[List.getElem?_eq_getElem hil];exact List.getElem_mem hil
  exact hv _ hm (by rw[h];rfl)
theorem good_lets {c:List Int} (hn:1≤n) (hl:c.length=n) (h:goodB g nl o e x nx env ds n c=true):allQ (fun i v=>letsB o e env (i:Int) v) c=true:=by
 unfold goodB at h;simp only[Bool.and_eq_true]at h;obtain⟨h1,h2⟩:=h;unfold allQ;simp only[List.all_eq_true,List.mem_range];intro i hi;rw[hl]at hi;unfold letsB;by_cases hv:zAt c i = -3
 · have hs : valR g nl o e x nx env ds c n i = noRt := by
    have hsome:=allN_iff.1 h1 i hi;unfold valR
    cases hq:val g nl o e x nx env ds c n (i:Int) with
    | none=>rfl
    | some r =>
     obtain⟨n',rfl⟩:∃n',n=n' + 1:=⟨n - 1,by omega⟩;simp only[val,Int.toNat_natCast,hv]at hq;have h0:openB g nl o e env ds (i:Int) (-3)=true:=rfl;rw[h0]at hq;simp at hq;rw[←hq];rfl
   unfold stabB sameTo at h2;have h3:=eqR_iff.1 (allN_iff.1 h2 i hi);simp only at h3;rw[hs]at h3;have h4:=bst_none h3 (fun r hr=>cand_via r hr);unfold candL at h4;simp only[List.append_eq_nil_iff]at h4
   have h5:ownV o (i:Int)=[]:=by
    have:=h4.1.1;unfold ownC at this;unfold ownV
    split at this
    · cases this
    next hh=>rw[if_neg hh]
   have h6:extV e env (i:Int)=[]:=by
    have:=h4.1.2;unfold extC at this;unfold extV
    split at this
    · cases this
    next hh=>rw[if_neg hh]
   rw[h5,h6];simp
 rw[decide_eq_true hv];rfl
theorem states_same (he:∀i,0≤zAt env i) (hn:1≤n):statesL g nl o e x nx env ds n (prod (fun i:Nat=>optL g nl o e env ds n (i:Int)) n)=statesL g nl o e x nx env ds n (prod (fun i:Nat=>rowP g nl o e env ds (i:Int) (n+3)) n):=by
 have h1:prod (fun i:Nat=>optL g nl o e env ds n (i:Int)) n=(prod (fun i:Nat=>rowP g nl o e env ds (i:Int) (n+3)) n).filter (allQ fun i v=>letsB o e env (i:Int) v):=by
  rw[←prod_filter]
  congr 1
  funext i
  exact opt_row g nl o e env ds n (i:Int) he
 rw[h1];unfold statesL
 congr 1
 rw[List.filter_filter];apply List.filter_congr;intro c hc;have hl:=prod_len hc
 cases hg:goodB g nl o e x nx env ds n c with
 | false=>rfl
 | true=>rw[good_lets hn hl hg];rfl
end Go.Proofs.YtcnoemjeijjnjaaGreat.ssSem
