import Derived.Test.YthompjbplddkgaaGreatDoorAskPart
import Derived.Laws.ResultCell
import Derived.WalkMore
import Derived.ScopeJumps
set_option linter.unusedVariables false
namespace Go.Proofs.YthompjbplddkgaaGreatDoor.askImpl
open Go.RowKit Go.Deep Go base names netSem netImpl numbers askWords askSem askTake askPart
theorem results_cell_two {fn:Func} {p u v:Tmp} {ty:TypeId} (h:fn.results=#[.cell p ty,.tmp u,.tmp v]) (tmps:Array Value) (P:Program) (w:World) :
  (results fn tmps).run P w =
   ((asAddr (tmps.getD p undef)).run P w).andThen fun a w₁=>((loadVar ty a).run P w₁).andThen fun x w₂=>.ok (.tuple #[x,tmps.getD u undef,tmps.getD v undef]) w₂:=by
 simp only [results,h]
 simp [Sem.run_bind,Result.andThen]
def Stop (A RB : Nat) (w0 w : World) (AN : askSem.Ask) : Prop := ∃ n,AN=bad n∧w.cell? ⟨A,2,none⟩=some (.int .i64 n)∧w.heap[RB]? = some (.cells #[.int .i64 (0),.int .i64 (0),.int .i64 (0),.int .i64 (0)] 33 (0,0))∧Below A w0 w∧A<RB
theorem stop_of {A P RB:Nat} {w0 w w':World} {AN:askSem.Ask} {n:Int} (e:AN=bad n) (hb:Bad A P n w w') (hR:w.heap[RB]? = some (.cells #[.int .i64 (0),.int .i64 (0),.int .i64 (0),.int .i64 (0)] 33 (0,0))) (hB:Below A w0 w) (hA:A<RB) (hP:RB≠P) (hAP:A≤P):Stop A RB w0 w' AN :=
 ⟨n,e,hb.1,(hb.2.block RB (Array.getElem?_eq_some_iff.1 hR).1 (by omega) hP).trans hR,hB.trans (hb.2.below (by have:=(Array.getElem?_eq_some_iff.1 hR).1;omega) (Nat.le_refl _) hAP),hA⟩
theorem dV : (⟨#[118,101,114,105,102,121]⟩:ByteArray).toList=wVerify:=by rw [toList_data];rfl
theorem dW : (⟨#[118,105,97]⟩:ByteArray).toList=wVia:=by rw [toList_data];rfl
theorem dP : (⟨#[112,111,114,116]⟩:ByteArray).toList=wPort:=by rw [toList_data];rfl
theorem dF : (⟨#[102,97,105,108]⟩:ByteArray).toList=wFail:=by rw [toList_data];rfl
theorem dVe : (⟨#[118,101,114,105,102,121]⟩:ByteArray).toList.isEmpty=false:=by rw [dV];rfl
theorem dVn : ¬ (⟨#[118,101,114,105,102,121]⟩:ByteArray).toList=[]:=by rw [dV];decide
theorem dWe : (⟨#[118,105,97]⟩:ByteArray).toList.isEmpty=false:=by rw [dW];rfl
theorem dWn : ¬ (⟨#[118,105,97]⟩:ByteArray).toList=[]:=by rw [dW];decide
theorem ask_miss (nm:Wd→Int) (W:List Wd) (h:¬ ∃ R,W=wVerify::R):askA nm W=bad 4:=by
 rcases W with _|⟨x,_|⟨y,_|⟨z,R⟩⟩⟩
 · rfl
 · rfl
 · rfl
 · exact if_neg fun e=>h ⟨_,by rw [e]⟩
theorem ask_kind (nm:Wd→Int) (y:Wd) (W:List Wd) (h:nameAt kS 5 (piece y)<1):askA nm (wVerify::y::W)=bad 4:=by
 rcases W with _|⟨z,R⟩
 · rfl
 · unfold askA
   dsimp only
   rw [if_pos rfl,if_pos h]
theorem ask_name (nm:Wd→Int) (y z:Wd) (R:List Wd) (h:¬ nameAt kS 5 (piece y)<1):askA nm (wVerify::y::z::R)=if nm z<0 then bad 9 else viaA nm ⟨nameAt kS 5 (piece y),nm z,-1,0,0,0⟩ R:=by
 unfold askA
 dsimp only
 rw [if_pos rfl,if_neg h]
theorem via_miss (nm:Wd→Int) (f:Int) (R:List Wd) (h:¬ ∃ R1,R=wVia::R1):viaA nm ⟨3,f,-1,0,0,0⟩ R=bad 4:=by
 unfold viaA
 rw [if_pos rfl]
 rcases R with _|⟨x,_|⟨y,r⟩⟩
 · rfl
 · rfl
 · exact if_neg fun e=>h ⟨_,by rw [e]⟩
theorem via_take (nm:Wd→Int) (f:Int) (y:Wd) (R:List Wd):viaA nm ⟨3,f,-1,0,0,0⟩ (wVia::y::R)=if nm y<0 then bad 9 else fin0 ⟨3,f,-1,nm y,0,0⟩ R:=by
 unfold viaA
 rw [if_pos rfl]
 exact if_pos rfl
theorem via_not (nm:Wd→Int) (k f:Int) (R:List Wd) (h:¬ k=3):viaA nm ⟨k,f,-1,0,0,0⟩ R=fin0 ⟨k,f,-1,0,0,0⟩ R:=by
 unfold viaA
 exact if_neg h
theorem set4 {w:World} {b:Nat} {t:TypeId} {a0 a1 a2 a3 x0 x1 x2 x3:Value} (h:w.heap[b]? = some (.cells #[a0,a1,a2,a3] t (0,0))):((((w.setCell ⟨b,0,none⟩ x0).setCell ⟨b,1,none⟩ x1).setCell ⟨b,2,none⟩ x2).setCell ⟨b,3,none⟩ x3).heap[b]? = some (.cells #[x0,x1,x2,x3] t (0,0)):=by
 rw [heap_setCell_same _ b 3 _ t _ (heap_setCell_same _ b 2 _ t _ (heap_setCell_same _ b 1 _ t _ (heap_setCell_same _ b 0 _ t _ h)))]
 rfl
set_option maxHeartbeats 12800000 in
set_option maxRecDepth 100000 in
theorem question_impl (A:Nat) (na:Option Addr) (nl nc:Nat) (s:Ss) (a:Option Addr) (c:Nat) (W:List Wd) (w:World) (hN:∀ w',Below A w w'→StrRow w' na nl s) (h:As A w (.slice na nl nc) a c W 0) :
  Calls Tryz.prog 17 #[.pointer (some ⟨A,0,none⟩)] w fun e w'=>e=.returned (askV (askA (fun x=>nameAt s nl (piece x)) W))∧Below A w w' := by
 have H:=hid h
 have HN:=hid hN
 have hlt:=h.lt
 clear h hN
 obtain ⟨AN,hAN⟩:∃ q,askA (fun x=>nameAt s nl (piece x)) W=q:=⟨_,rfl⟩
 have HAN:=hid hAN.symm
 rw [hAN]
 clear hAN
 go_enter Tryz.func17,Tryz.ntmps17
 go_wp2_with fail
 obtain ⟨RB,hRB⟩:∃ q,w.heap.size=q:=⟨_,rfl⟩
 have HRB:=hid hRB
 rw [hRB]
 rw [hRB] at hlt
 clear hRB
 refine wp_scope_jumps 0 (fun a' w'=>(∃ (v1 v3 v4 v5 v6 v7 v8 v9 v10 v11 v12 v13 v14 v15 v16 v17 v18 v19 v20 v21 v22 v23 v24 v25 v26 v27 v28 v29 v30 v31 v32 v33 v34 v35 v36 v37 v38 v39 v40 v41 v42 v43 v44 v45 v46 v47 v48 v49 v50 v51 v52 v53 v54 v55 v56 v57 v58 v59 v60 v61:Value),a' = { tmps:=#[.pointer (some ⟨A,0,none⟩),v1,.pointer (some ⟨RB,0,none⟩),v3,v4,v5,v6,v7,v8,v9,v10,v11,v12,v13,v14,v15,v16,v17,v18,v19,v20,v21,v22,v23,v24,v25,v26,v27,v28,v29,v30,v31,v32,v33,v34,v35,v36,v37,v38,v39,v40,v41,v42,v43,v44,v45,v46,v47,v48,v49,v50,v51,v52,v53,v54,v55,v56,v57,v58,v59,v60,v61],defers:=[] })∧Stop A RB w w' AN) (fun _ _=>0) rfl ?_ ?_
 · go_wp2_with fail
   have hb0:Below w.heap.size w (((w.alloc (.cells #[.int .i64 0,.int .i64 0,.int .i64 0,.int .i64 0] 33)).alloc (.cells #[.int .i64 0,.int .i64 0,.int .i64 (-1),.int .i64 0] 33)).alloc (.cells #[.int .i64 0] 3)):=Bl
   have hlw:A<w.heap.size:=by rw [HRB.out];exact hlt
   have HA:Hid (As A (((w.alloc (.cells #[.int .i64 0,.int .i64 0,.int .i64 0,.int .i64 0] 33)).alloc (.cells #[.int .i64 0,.int .i64 0,.int .i64 (-1),.int .i64 0] 33)).alloc (.cells #[.int .i64 0] 3)) (.slice na nl nc) a c W 0):=H.out.same (hb0.block A hlw) (hb0.mono (Nat.le_of_lt hlw))
   have HR:Hid ((((w.alloc (.cells #[.int .i64 0,.int .i64 0,.int .i64 0,.int .i64 0] 33)).alloc (.cells #[.int .i64 0,.int .i64 0,.int .i64 (-1),.int .i64 0] 33)).alloc (.cells #[.int .i64 0] 3)).heap[RB]? = some (.cells #[.int .i64 (0),.int .i64 (0),.int .i64 (0),.int .i64 (0)] 33 (0,0))):=by
    show _=_
    rw [← HRB.out]
    exact (heap_alloc_old _ _ (by simp;omega)).trans ((heap_alloc_old _ _ (by simp)).trans (heap_alloc_new w _))
   have HP:Hid ((((w.alloc (.cells #[.int .i64 0,.int .i64 0,.int .i64 0,.int .i64 0] 33)).alloc (.cells #[.int .i64 0,.int .i64 0,.int .i64 (-1),.int .i64 0] 33)).alloc (.cells #[.int .i64 0] 3)).heap[w.heap.size+1]? = some (.cells #[.int .i64 (0),.int .i64 (0),.int .i64 (-1),.int .i64 (0)] 33 (0,0))):=by
    show _=_
    refine (heap_alloc_old _ _ (by simp)).trans ?_
    have h9:=heap_alloc_new (w.alloc (.cells #[.int .i64 0,.int .i64 0,.int .i64 0,.int .i64 0] 33)) (.cells #[.int .i64 (0),.int .i64 (0),.int .i64 (-1),.int .i64 (0)] 33 (0,0))
    rw [World.size_alloc] at h9
    exact h9
   have HK:Hid ((((w.alloc (.cells #[.int .i64 0,.int .i64 0,.int .i64 0,.int .i64 0] 33)).alloc (.cells #[.int .i64 0,.int .i64 0,.int .i64 (-1),.int .i64 0] 33)).alloc (.cells #[.int .i64 0] 3)).heap[w.heap.size+1+1]? = some (.cells #[.int .i64 (0)] 3 (0,0))):=by
    show _=_
    have h9:=heap_alloc_new ((w.alloc (.cells #[.int .i64 0,.int .i64 0,.int .i64 0,.int .i64 0] 33)).alloc (.cells #[.int .i64 (0),.int .i64 (0),.int .i64 (-1),.int .i64 (0)] 33 (0,0))) (.cells #[.int .i64 (0)] 3 (0,0))
    rw [World.size_alloc,World.size_alloc] at h9
    exact h9
   have HB:Hid (Below A w (((w.alloc (.cells #[.int .i64 0,.int .i64 0,.int .i64 0,.int .i64 0] 33)).alloc (.cells #[.int .i64 0,.int .i64 0,.int .i64 (-1),.int .i64 0] 33)).alloc (.cells #[.int .i64 0] 3))):=hb0.mono (Nat.le_of_lt hlw)
   clear hb0
   generalize (((w.alloc (.cells #[.int .i64 0,.int .i64 0,.int .i64 0,.int .i64 0] 33)).alloc (.cells #[.int .i64 0,.int .i64 0,.int .i64 (-1),.int .i64 0] 33)).alloc (.cells #[.int .i64 0] 3))=w1 at *
   obtain ⟨P,hP0⟩:∃ q,w.heap.size+1=q:=⟨_,rfl⟩
   have hRP:RB+1=P:=by rw [← HRB.out];exact hP0
   rw [hP0] at HP HK ⊢
   clear hP0 H
   by_cases hv:∃ R,W=wVerify::R
   case neg =>
    have eN:AN=bad 4:=HAN.out.trans (ask_miss _ _ hv)
    refine (word_miss A _ a c W 0 _ w1 dVe dVn (fun x R e=>by rw [dV,piece_ne];exact decide_eq_false fun e'=>hv ⟨R,by rw [e,e']⟩) HA.out).mono ?_
    rintro e' wf ⟨rfl,hbad⟩
    have HS:Hid (Stop A RB w wf AN):=stop_of (P:=A) (n:=4) (eN) hbad HR.out HB.out hlt (by omega) (by omega)
    clear hbad
    go_wp2
    go_step3
    exact ⟨rfl,⟨_,_,_,_,_,_,_,_,_,_,_,_,_,_,_,_,_,_,_,_,_,_,_,_,_,_,_,_,_,_,_,_,_,_,_,_,_,_,_,_,_,_,_,_,_,_,_,_,_,_,_,_,_,_,_,_,_,_,_,_,rfl⟩,HS.out⟩
   obtain ⟨W,rfl⟩:=hv
   refine (word_hit A _ a c wVerify W 0 _ w1 (by rw [dV,piece_ne];rfl) HA.out).mono ?_
   rintro e' w2 ⟨rfl,⟨a2,c2,hl⟩,ho⟩
   have zR:=(Array.getElem?_eq_some_iff.1 HR.out).1
   have zP:=(Array.getElem?_eq_some_iff.1 HP.out).1
   have zK:=(Array.getElem?_eq_some_iff.1 HK.out).1
   have HB:=hid (HB.out.trans (ho.below (by omega) (Nat.le_refl _) (by omega)))
   have HR:=hid ((ho.block RB zR (by omega) (by omega)).trans HR.out)
   have HP:=hid ((ho.block P zP (by omega) (by omega)).trans HP.out)
   have HK:=hid ((ho.block (P+1) zK (by omega) (by omega)).trans HK.out)
   have HA:=hid hl
   clear hl ho zR zP zK
   go_wp2_with fail
   rcases W with _|⟨y,W⟩
   · have eN:AN=bad 4:=HAN.out
     refine (kind_empty A P 0 _ a2 c2 0 _ _ _ w2 HP.out rfl (by omega) HA.out).mono ?_
     rintro e' wf ⟨rfl,hbad⟩
     have HS:Hid (Stop A RB w wf AN):=stop_of (P:=P) (n:=4) (eN) hbad HR.out HB.out hlt (by omega) (by omega)
     clear hbad
     go_wp2
     go_step3
     exact ⟨rfl,⟨_,_,_,_,_,_,_,_,_,_,_,_,_,_,_,_,_,_,_,_,_,_,_,_,_,_,_,_,_,_,_,_,_,_,_,_,_,_,_,_,_,_,_,_,_,_,_,_,_,_,_,_,_,_,_,_,_,_,_,_,rfl⟩,HS.out⟩
   by_cases hk:nameAt kS 5 (piece y)<1
   · have eN:AN=bad 4:=HAN.out.trans (ask_kind _ y W hk)
     refine (kind_impl_bad A P 0 _ a2 c2 y W 0 _ _ _ w2 HP.out rfl (by omega) hk HA.out).mono ?_
     rintro e' wf ⟨rfl,hbad⟩
     have HS:Hid (Stop A RB w wf AN):=stop_of (P:=P) (n:=4) (eN) hbad HR.out HB.out hlt (by omega) (by omega)
     clear hbad
     go_wp2
     go_step3
     exact ⟨rfl,⟨_,_,_,_,_,_,_,_,_,_,_,_,_,_,_,_,_,_,_,_,_,_,_,_,_,_,_,_,_,_,_,_,_,_,_,_,_,_,_,_,_,_,_,_,_,_,_,_,_,_,_,_,_,_,_,_,_,_,_,_,rfl⟩,HS.out⟩
   refine (kind_impl_good A P 0 _ a2 c2 y W 0 _ _ _ w2 HP.out rfl (by omega) hk HA.out).mono ?_
   rintro e' w3 ⟨rfl,⟨a3,c3,hl⟩,hp,ho⟩
   have zR:=(Array.getElem?_eq_some_iff.1 HR.out).1
   have zP:=(Array.getElem?_eq_some_iff.1 HP.out).1
   have zK:=(Array.getElem?_eq_some_iff.1 HK.out).1
   have HB:=hid (HB.out.trans (ho.below (by omega) (Nat.le_refl _) (by omega)))
   have HR:=hid ((ho.block RB zR (by omega) (by omega)).trans HR.out)
   have HP:Hid (w3.heap[P]? = some (.cells #[.int .i64 (nameAt kS 5 (piece y)),.int .i64 (0),.int .i64 (-1),.int .i64 (0)] 33 (0,0))):=hp
   have HK:=hid ((ho.block (P+1) zK (by omega) (by omega)).trans HK.out)
   have HA:=hid hl
   clear hl ho zR zP zK hp
   obtain ⟨KD,hKD⟩:∃ q,nameAt kS 5 (piece y)=q:=⟨_,rfl⟩
   have HKD:=hid hKD
   rw [hKD] at HP hk
   clear hKD
   go_wp2_with fail
   rcases W with _|⟨z,R⟩
   · have eN:AN=bad 4:=HAN.out
     refine (router_none A P 1 _ a3 c3 0 w3 HA.out).mono ?_
     rintro e' wf ⟨rfl,hbad⟩
     have HS:Hid (Stop A RB w wf AN):=stop_of (P:=P) (n:=4) (eN) hbad HR.out HB.out hlt (by omega) (by omega)
     clear hbad
     go_wp2
     go_step3
     exact ⟨rfl,⟨_,_,_,_,_,_,_,_,_,_,_,_,_,_,_,_,_,_,_,_,_,_,_,_,_,_,_,_,_,_,_,_,_,_,_,_,_,_,_,_,_,_,_,_,_,_,_,_,_,_,_,_,_,_,_,_,_,_,_,_,rfl⟩,HS.out⟩
   have HA0:Hid (AN=if nameAt s nl (piece z)<0 then bad 9 else viaA (fun x=>nameAt s nl (piece x)) ⟨KD,nameAt s nl (piece z),-1,0,0,0⟩ R):=by
    show _=_
    rw [← HKD.out]
    rw [← HKD.out] at hk
    exact HAN.out.trans (ask_name _ y z R (by omega))
   clear HAN HKD
   by_cases hf:nameAt s nl (piece z)<0
   · have eN:AN=bad 9:=HA0.out.trans (if_pos hf)
     refine (router_take_bad A P 1 na nl nc s a3 c3 z R 0 _ _ _ w3 HP.out rfl (by omega) (fun w' hb=>HN.out w' (HB.out.trans hb)) hf HA.out).mono ?_
     rintro e' wf ⟨rfl,hbad⟩
     have HS:Hid (Stop A RB w wf AN):=stop_of (P:=P) (n:=9) (eN) hbad HR.out HB.out hlt (by omega) (by omega)
     clear hbad
     go_wp2
     go_step3
     exact ⟨rfl,⟨_,_,_,_,_,_,_,_,_,_,_,_,_,_,_,_,_,_,_,_,_,_,_,_,_,_,_,_,_,_,_,_,_,_,_,_,_,_,_,_,_,_,_,_,_,_,_,_,_,_,_,_,_,_,_,_,_,_,_,_,rfl⟩,HS.out⟩
   refine (router_take_good A P 1 na nl nc s a3 c3 z R 0 _ _ _ w3 HP.out rfl (by omega) (fun w' hb=>HN.out w' (HB.out.trans hb)) hf HA.out).mono ?_
   rintro e' w4 ⟨rfl,⟨a4,c4,hl⟩,hp,ho⟩
   have zR:=(Array.getElem?_eq_some_iff.1 HR.out).1
   have zP:=(Array.getElem?_eq_some_iff.1 HP.out).1
   have zK:=(Array.getElem?_eq_some_iff.1 HK.out).1
   have HB:=hid (HB.out.trans (ho.below (by omega) (Nat.le_refl _) (by omega)))
   have HR:=hid ((ho.block RB zR (by omega) (by omega)).trans HR.out)
   have HP:Hid (w4.heap[P]? = some (.cells #[.int .i64 (KD),.int .i64 (nameAt s nl (piece z)),.int .i64 (-1),.int .i64 (0)] 33 (0,0))):=hp
   have HK:=hid ((ho.block (P+1) zK (by omega) (by omega)).trans HK.out)
   have HA:=hid hl
   clear hl ho zR zP zK hp
   have HAN:Hid (AN=viaA (fun x=>nameAt s nl (piece x)) ⟨KD,nameAt s nl (piece z),-1,0,0,0⟩ R):=HA0.out.trans (if_neg hf)
   obtain ⟨FR,hFR⟩:∃ q,nameAt s nl (piece z)=q:=⟨_,rfl⟩
   rw [hFR] at HP HAN
   clear hFR hf HA0
   have p0:=cell_in HP.out 0
   simp only [List.getElem?_toArray,List.getElem?_cons_zero] at p0
   by_cases hk3:KD=3
   · subst hk3
     go_wp2_with fail
     by_cases hv:∃ R1,R=wVia::R1
     case neg =>
      have eN:AN=bad 4:=HAN.out.trans (via_miss _ _ _ hv)
      refine (word_miss A _ a4 c4 R 0 _ w4 dWe dWn (fun x R1 e=>by rw [dW,piece_ne];exact decide_eq_false fun e'=>hv ⟨R1,by rw [e,e']⟩) HA.out).mono ?_
      rintro e' wf ⟨rfl,hbad⟩
      have HS:Hid (Stop A RB w wf AN):=stop_of (P:=A) (n:=4) (eN) hbad HR.out HB.out hlt (by omega) (by omega)
      clear hbad
      go_wp2
      go_step3
      exact ⟨rfl,⟨_,_,_,_,_,_,_,_,_,_,_,_,_,_,_,_,_,_,_,_,_,_,_,_,_,_,_,_,_,_,_,_,_,_,_,_,_,_,_,_,_,_,_,_,_,_,_,_,_,_,_,_,_,_,_,_,_,_,_,_,rfl⟩,HS.out⟩
     obtain ⟨R,rfl⟩:=hv
     refine (word_hit A _ a4 c4 wVia R 0 _ w4 (by rw [dW,piece_ne];rfl) HA.out).mono ?_
     rintro e' w5 ⟨rfl,⟨a5,c5,hl⟩,ho⟩
     have zR:=(Array.getElem?_eq_some_iff.1 HR.out).1
     have zP:=(Array.getElem?_eq_some_iff.1 HP.out).1
     have zK:=(Array.getElem?_eq_some_iff.1 HK.out).1
     have HB:=hid (HB.out.trans (ho.below (by omega) (Nat.le_refl _) (by omega)))
     have HR:=hid ((ho.block RB zR (by omega) (by omega)).trans HR.out)
     have HP:=hid ((ho.block P zP (by omega) (by omega)).trans HP.out)
     have HK:=hid ((ho.block (P+1) zK (by omega) (by omega)).trans HK.out)
     have HA:=hid hl
     clear hl ho zR zP zK
     clear p0
     go_wp2_with fail
     rcases R with _|⟨v2,R⟩
     · have eN:AN=bad 4:=HAN.out
       refine (router_none A P 3 _ a5 c5 0 w5 HA.out).mono ?_
       rintro e' wf ⟨rfl,hbad⟩
       have HS:Hid (Stop A RB w wf AN):=stop_of (P:=P) (n:=4) (eN) hbad HR.out HB.out hlt (by omega) (by omega)
       clear hbad
       go_wp2
       go_step3
       exact ⟨rfl,⟨_,_,_,_,_,_,_,_,_,_,_,_,_,_,_,_,_,_,_,_,_,_,_,_,_,_,_,_,_,_,_,_,_,_,_,_,_,_,_,_,_,_,_,_,_,_,_,_,_,_,_,_,_,_,_,_,_,_,_,_,rfl⟩,HS.out⟩
     have HA0:Hid (AN=if nameAt s nl (piece v2)<0 then bad 9 else fin0 ⟨3,FR,-1,nameAt s nl (piece v2),0,0⟩ R):=HAN.out.trans (via_take _ _ _ _)
     clear HAN
     by_cases hf:nameAt s nl (piece v2)<0
     · have eN:AN=bad 9:=HA0.out.trans (if_pos hf)
       refine (router_take_bad A P 3 na nl nc s a5 c5 v2 R 0 _ _ _ w5 HP.out rfl (by omega) (fun w' hb=>HN.out w' (HB.out.trans hb)) hf HA.out).mono ?_
       rintro e' wf ⟨rfl,hbad⟩
       have HS:Hid (Stop A RB w wf AN):=stop_of (P:=P) (n:=9) (eN) hbad HR.out HB.out hlt (by omega) (by omega)
       clear hbad
       go_wp2
       go_step3
       exact ⟨rfl,⟨_,_,_,_,_,_,_,_,_,_,_,_,_,_,_,_,_,_,_,_,_,_,_,_,_,_,_,_,_,_,_,_,_,_,_,_,_,_,_,_,_,_,_,_,_,_,_,_,_,_,_,_,_,_,_,_,_,_,_,_,rfl⟩,HS.out⟩
     refine (router_take_good A P 3 na nl nc s a5 c5 v2 R 0 _ _ _ w5 HP.out rfl (by omega) (fun w' hb=>HN.out w' (HB.out.trans hb)) hf HA.out).mono ?_
     rintro e' w6 ⟨rfl,⟨a6,c6,hl⟩,hp,ho⟩
     have zR:=(Array.getElem?_eq_some_iff.1 HR.out).1
     have zP:=(Array.getElem?_eq_some_iff.1 HP.out).1
     have zK:=(Array.getElem?_eq_some_iff.1 HK.out).1
     have HB:=hid (HB.out.trans (ho.below (by omega) (Nat.le_refl _) (by omega)))
     have HR:=hid ((ho.block RB zR (by omega) (by omega)).trans HR.out)
     have HP:Hid (w6.heap[P]? = some (.cells #[.int .i64 (3),.int .i64 (FR),.int .i64 (-1),.int .i64 (nameAt s nl (piece v2))] 33 (0,0))):=hp
     have HK:=hid ((ho.block (P+1) zK (by omega) (by omega)).trans HK.out)
     have HA:=hid hl
     clear hl ho zR zP zK hp
     have HAN:Hid (AN=fin0 ⟨3,FR,-1,nameAt s nl (piece v2),0,0⟩ R):=HA0.out.trans (if_neg hf)
     obtain ⟨WY,hWY⟩:∃ q,nameAt s nl (piece v2)=q:=⟨_,rfl⟩
     rw [hWY] at HP HAN
     clear hWY hf HA0
     go_wp2_with fail
     obtain ⟨T1,hT1⟩:∃ q,tk wPort 15 (-1) (R)=q:=⟨_,rfl⟩
     have HF:Hid (AN=fin0T ⟨3,FR,-1,WY,0,0⟩ T1):=by
      show _=_
      rw [← hT1]
      exact HAN.out.trans (fin0_tk _ _)
     have HT1:=hid hT1
     clear HAN hT1
     rcases T1 with n1|⟨po,R1⟩
     · refine (part_impl A P 2 (.slice na nl nc) a6 c6 (R) 0 15 (-1) _ wPort _ _ w6 dP HP.out rfl (by omega) HA.out).mono ?_
       intro e' wf hh
       rw [HT1.out] at hh
       obtain ⟨rfl,hbad⟩:=hh
       have HS:Hid (Stop A RB w wf AN):=stop_of (P:=P) (n:=n1) HF.out hbad HR.out HB.out hlt (by omega) (by omega)
       clear hbad
       go_wp2
       go_step3
       exact ⟨rfl,⟨_,_,_,_,_,_,_,_,_,_,_,_,_,_,_,_,_,_,_,_,_,_,_,_,_,_,_,_,_,_,_,_,_,_,_,_,_,_,_,_,_,_,_,_,_,_,_,_,_,_,_,_,_,_,_,_,_,_,_,_,rfl⟩,HS.out⟩
     · refine (part_impl A P 2 (.slice na nl nc) a6 c6 (R) 0 15 (-1) _ wPort _ _ w6 dP HP.out rfl (by omega) HA.out).mono ?_
       intro e' w7 hh
       rw [HT1.out] at hh
       obtain ⟨rfl,⟨a7,c7,hl⟩,hp,ho⟩:=hh
       have zR:=(Array.getElem?_eq_some_iff.1 HR.out).1
       have zP:=(Array.getElem?_eq_some_iff.1 HP.out).1
       have zK:=(Array.getElem?_eq_some_iff.1 HK.out).1
       have HB:=hid (HB.out.trans (ho.below (by omega) (Nat.le_refl _) (by omega)))
       have HR:=hid ((ho.block RB zR (by omega) (by omega)).trans HR.out)
       have HP:Hid (w7.heap[P]? = some (.cells #[.int .i64 (3),.int .i64 (FR),.int .i64 (po),.int .i64 (WY)] 33 (0,0))):=hp
       have HK:=hid ((ho.block (P+1) zK (by omega) (by omega)).trans HK.out)
       have HA:=hid hl
       clear hl ho zR zP zK hp
       go_wp2_with fail
       obtain ⟨T2,hT2⟩:∃ q,tk wFail 2 0 R1=q:=⟨_,rfl⟩
       have HF2:Hid (AN=fin1T ⟨3,FR,po,WY,0,0⟩ T2):=by
        show _=_
        rw [← hT2]
        exact HF.out.trans (fin1_tk _ _)
       have HT2:=hid hT2
       clear HF hT2 HT1
       rcases T2 with n2|⟨kk,R2⟩
       · refine (part_impl A (P+1) 0 (.slice na nl nc) a7 c7 R1 0 2 0 _ wFail _ _ w7 dF HK.out rfl (by omega) HA.out).mono ?_
         intro e' wf hh
         rw [HT2.out] at hh
         obtain ⟨rfl,hbad⟩:=hh
         have HS:Hid (Stop A RB w wf AN):=stop_of (P:=P+1) (n:=n2) HF2.out hbad HR.out HB.out hlt (by omega) (by omega)
         clear hbad
         go_wp2
         go_step3
         exact ⟨rfl,⟨_,_,_,_,_,_,_,_,_,_,_,_,_,_,_,_,_,_,_,_,_,_,_,_,_,_,_,_,_,_,_,_,_,_,_,_,_,_,_,_,_,_,_,_,_,_,_,_,_,_,_,_,_,_,_,_,_,_,_,_,rfl⟩,HS.out⟩
       · refine (part_impl A (P+1) 0 (.slice na nl nc) a7 c7 R1 0 2 0 _ wFail _ _ w7 dF HK.out rfl (by omega) HA.out).mono ?_
         intro e' w8 hh
         rw [HT2.out] at hh
         obtain ⟨rfl,⟨a8,c8,hl⟩,hp,ho⟩:=hh
         have zR:=(Array.getElem?_eq_some_iff.1 HR.out).1
         have zP:=(Array.getElem?_eq_some_iff.1 HP.out).1
         have HB:=hid (HB.out.trans (ho.below (by omega) (Nat.le_refl _) (by omega)))
         have HR:=hid ((ho.block RB zR (by omega) (by omega)).trans HR.out)
         have HK:Hid (w8.heap[P+1]? = some (.cells #[.int .i64 (kk)] 3 (0,0))):=hp
         have HP:=hid ((ho.block P zP (by omega) (by omega)).trans HP.out)
         have HA:=hid hl
         have x1:=hl.cells.2.1
         have x2:=hl.cells.2.2.1
         have x4:=hl.cells.2.2.2.2
         clear hl ho zR zP hp HT2
         have p0:=cell_in HP.out 0
         have p1:=cell_in HP.out 1
         have p2:=cell_in HP.out 2
         have p3:=cell_in HP.out 3
         have k0:=cell_in HK.out 0
         have r0:=cell_in HR.out 0
         have z0:=frozen_in HR.out 0
         have r1:=cell_in HR.out 1
         have z1:=frozen_in HR.out 1
         have r2:=cell_in HR.out 2
         have z2:=frozen_in HR.out 2
         have r3:=cell_in HR.out 3
         have z3:=frozen_in HR.out 3
         simp only [List.getElem?_toArray,List.getElem?_cons_zero,List.getElem?_cons_succ] at p0 p1 p2 p3 k0 r0 r1 r2 r3
         rcases R2 with _|⟨q,R3⟩
         · have eA:AN=⟨3,FR,po,WY,kk,0⟩:=HF2.out
           have e0:([]:List Wd).length=0:=rfl
           rw [e0] at x1
           subst eA
           clear HF2 e0
           go_wp2_with fail
           go_region
           all_goals
            go_wp2
            simp only [Exit.jump]
            have hR4:=set4 (x0:=.int .i64 (3)) (x1:=.int .i64 (FR)) (x2:=.int .i64 po) (x3:=.int .i64 (WY)) HR.out
            have HB4:Below A w ((((w8.setCell ⟨RB,0,none⟩ (.int .i64 (3))).setCell ⟨RB,1,none⟩ (.int .i64 (FR))).setCell ⟨RB,2,none⟩ (.int .i64 po)).setCell ⟨RB,3,none⟩ (.int .i64 (WY))):=(((HB.out.setCell (by exact Nat.le_of_lt hlt) _).setCell (by exact Nat.le_of_lt hlt) _).setCell (by exact Nat.le_of_lt hlt) _).setCell (by exact Nat.le_of_lt hlt) _
            clear r0 r1 r2 r3 z0 z1 z2 z3
            generalize (((w8.setCell ⟨RB,0,none⟩ (.int .i64 (3))).setCell ⟨RB,1,none⟩ (.int .i64 (FR))).setCell ⟨RB,2,none⟩ (.int .i64 po)).setCell ⟨RB,3,none⟩ (.int .i64 (WY))=w20 at *
            have r0:=cell_in hR4 0
            have r1:=cell_in hR4 1
            have r2:=cell_in hR4 2
            have r3:=cell_in hR4 3
            simp only [List.getElem?_toArray,List.getElem?_cons_zero,List.getElem?_cons_succ] at r0 r1 r2 r3
            refine bodyPost_ret (v:=askV ⟨3,FR,po,WY,kk,0⟩) (by rw [results_cell_two rfl];go_simp;rfl) rfl ?_
            exact ⟨rfl,HB4.drew⟩
         · have eA:AN=bad 4:=HF2.out
           have e0:(q::R3).length=R3.length+1:=rfl
           rw [e0] at x1
           have dz:((R3.length:Int)+1 == 0)=false:=beq_eq_false_iff_ne.2 (by omega)
           subst eA
           clear HF2 e0
           go_wp2_with fail
           have HA4:=hid (HA.out.fault 4)
           have HR4:Hid ((w8.setCell ⟨A,2,none⟩ (.int .i64 4)).heap[RB]? = some (.cells #[.int .i64 (0),.int .i64 (0),.int .i64 (0),.int .i64 (0)] 33 (0,0))):=(Below.heap_setCell _ _ _ _ (by show RB≠A;omega)).trans HR.out
           have HB4:Hid (Below A w (w8.setCell ⟨A,2,none⟩ (.int .i64 4))):=HB.out.setCell (Nat.le_refl _) _
           clear p0 p1 p2 p3 k0 r0 r1 r2 r3 z0 z1 z2 z3 x1 x2 x4 HA HR HB HP HK
           generalize w8.setCell ⟨A,2,none⟩ (.int .i64 4)=w9 at *
           have x2:=HA4.out.cells.2.2.1
           have r0:=cell_in HR4.out 0
           have r1:=cell_in HR4.out 1
           have r2:=cell_in HR4.out 2
           have r3:=cell_in HR4.out 3
           simp only [List.getElem?_toArray,List.getElem?_cons_zero,List.getElem?_cons_succ] at r0 r1 r2 r3
           have z0:=frozen_in HR4.out 0
           have z1:=frozen_in HR4.out 1
           have z2:=frozen_in HR4.out 2
           have z3:=frozen_in HR4.out 3
           go_step3
           go_wp2_with fail
           go_region
           all_goals
            go_wp2
            simp only [Exit.jump]
            refine bodyPost_ret (v:=askV (bad 4)) (by rw [results_cell_two rfl];go_simp;rfl) rfl ?_
            exact ⟨rfl,((((HB4.out.setCell (by exact Nat.le_of_lt hlt) _).setCell (by exact Nat.le_of_lt hlt) _).setCell (by exact Nat.le_of_lt hlt) _).setCell (by exact Nat.le_of_lt hlt) _).drew⟩
   · have dk3:(KD == 3)=false:=by simp [hk3]
     have HAN:Hid (AN=fin0 ⟨KD,FR,-1,0,0,0⟩ R):=HAN.out.trans (via_not _ _ _ _ hk3)
     go_wp2_with fail
     clear p0
     obtain ⟨T1,hT1⟩:∃ q,tk wPort 15 (-1) (R)=q:=⟨_,rfl⟩
     have HF:Hid (AN=fin0T ⟨KD,FR,-1,0,0,0⟩ T1):=by
      show _=_
      rw [← hT1]
      exact HAN.out.trans (fin0_tk _ _)
     have HT1:=hid hT1
     clear HAN hT1
     rcases T1 with n1|⟨po,R1⟩
     · refine (part_impl A P 2 (.slice na nl nc) a4 c4 (R) 0 15 (-1) _ wPort _ _ w4 dP HP.out rfl (by omega) HA.out).mono ?_
       intro e' wf hh
       rw [HT1.out] at hh
       obtain ⟨rfl,hbad⟩:=hh
       have HS:Hid (Stop A RB w wf AN):=stop_of (P:=P) (n:=n1) HF.out hbad HR.out HB.out hlt (by omega) (by omega)
       clear hbad
       go_wp2
       go_step3
       exact ⟨rfl,⟨_,_,_,_,_,_,_,_,_,_,_,_,_,_,_,_,_,_,_,_,_,_,_,_,_,_,_,_,_,_,_,_,_,_,_,_,_,_,_,_,_,_,_,_,_,_,_,_,_,_,_,_,_,_,_,_,_,_,_,_,rfl⟩,HS.out⟩
     · refine (part_impl A P 2 (.slice na nl nc) a4 c4 (R) 0 15 (-1) _ wPort _ _ w4 dP HP.out rfl (by omega) HA.out).mono ?_
       intro e' w7 hh
       rw [HT1.out] at hh
       obtain ⟨rfl,⟨a7,c7,hl⟩,hp,ho⟩:=hh
       have zR:=(Array.getElem?_eq_some_iff.1 HR.out).1
       have zP:=(Array.getElem?_eq_some_iff.1 HP.out).1
       have zK:=(Array.getElem?_eq_some_iff.1 HK.out).1
       have HB:=hid (HB.out.trans (ho.below (by omega) (Nat.le_refl _) (by omega)))
       have HR:=hid ((ho.block RB zR (by omega) (by omega)).trans HR.out)
       have HP:Hid (w7.heap[P]? = some (.cells #[.int .i64 (KD),.int .i64 (FR),.int .i64 (po),.int .i64 (0)] 33 (0,0))):=hp
       have HK:=hid ((ho.block (P+1) zK (by omega) (by omega)).trans HK.out)
       have HA:=hid hl
       clear hl ho zR zP zK hp
       go_wp2_with fail
       obtain ⟨T2,hT2⟩:∃ q,tk wFail 2 0 R1=q:=⟨_,rfl⟩
       have HF2:Hid (AN=fin1T ⟨KD,FR,po,0,0,0⟩ T2):=by
        show _=_
        rw [← hT2]
        exact HF.out.trans (fin1_tk _ _)
       have HT2:=hid hT2
       clear HF hT2 HT1
       rcases T2 with n2|⟨kk,R2⟩
       · refine (part_impl A (P+1) 0 (.slice na nl nc) a7 c7 R1 0 2 0 _ wFail _ _ w7 dF HK.out rfl (by omega) HA.out).mono ?_
         intro e' wf hh
         rw [HT2.out] at hh
         obtain ⟨rfl,hbad⟩:=hh
         have HS:Hid (Stop A RB w wf AN):=stop_of (P:=P+1) (n:=n2) HF2.out hbad HR.out HB.out hlt (by omega) (by omega)
         clear hbad
         go_wp2
         go_step3
         exact ⟨rfl,⟨_,_,_,_,_,_,_,_,_,_,_,_,_,_,_,_,_,_,_,_,_,_,_,_,_,_,_,_,_,_,_,_,_,_,_,_,_,_,_,_,_,_,_,_,_,_,_,_,_,_,_,_,_,_,_,_,_,_,_,_,rfl⟩,HS.out⟩
       · refine (part_impl A (P+1) 0 (.slice na nl nc) a7 c7 R1 0 2 0 _ wFail _ _ w7 dF HK.out rfl (by omega) HA.out).mono ?_
         intro e' w8 hh
         rw [HT2.out] at hh
         obtain ⟨rfl,⟨a8,c8,hl⟩,hp,ho⟩:=hh
         have zR:=(Array.getElem?_eq_some_iff.1 HR.out).1
         have zP:=(Array.getElem?_eq_some_iff.1 HP.out).1
         have HB:=hid (HB.out.trans (ho.below (by omega) (Nat.le_refl _) (by omega)))
         have HR:=hid ((ho.block RB zR (by omega) (by omega)).trans HR.out)
         have HK:Hid (w8.heap[P+1]? = some (.cells #[.int .i64 (kk)] 3 (0,0))):=hp
         have HP:=hid ((ho.block P zP (by omega) (by omega)).trans HP.out)
         have HA:=hid hl
         have x1:=hl.cells.2.1
         have x2:=hl.cells.2.2.1
         have x4:=hl.cells.2.2.2.2
         clear hl ho zR zP hp HT2
         have p0:=cell_in HP.out 0
         have p1:=cell_in HP.out 1
         have p2:=cell_in HP.out 2
         have p3:=cell_in HP.out 3
         have k0:=cell_in HK.out 0
         have r0:=cell_in HR.out 0
         have z0:=frozen_in HR.out 0
         have r1:=cell_in HR.out 1
         have z1:=frozen_in HR.out 1
         have r2:=cell_in HR.out 2
         have z2:=frozen_in HR.out 2
         have r3:=cell_in HR.out 3
         have z3:=frozen_in HR.out 3
         simp only [List.getElem?_toArray,List.getElem?_cons_zero,List.getElem?_cons_succ] at p0 p1 p2 p3 k0 r0 r1 r2 r3
         rcases R2 with _|⟨q,R3⟩
         · have eA:AN=⟨KD,FR,po,0,kk,0⟩:=HF2.out
           have e0:([]:List Wd).length=0:=rfl
           rw [e0] at x1
           subst eA
           clear HF2 e0
           go_wp2_with fail
           go_region
           all_goals
            go_wp2
            simp only [Exit.jump]
            have hR4:=set4 (x0:=.int .i64 (KD)) (x1:=.int .i64 (FR)) (x2:=.int .i64 po) (x3:=.int .i64 (0)) HR.out
            have HB4:Below A w ((((w8.setCell ⟨RB,0,none⟩ (.int .i64 (KD))).setCell ⟨RB,1,none⟩ (.int .i64 (FR))).setCell ⟨RB,2,none⟩ (.int .i64 po)).setCell ⟨RB,3,none⟩ (.int .i64 (0))):=(((HB.out.setCell (by exact Nat.le_of_lt hlt) _).setCell (by exact Nat.le_of_lt hlt) _).setCell (by exact Nat.le_of_lt hlt) _).setCell (by exact Nat.le_of_lt hlt) _
            clear r0 r1 r2 r3 z0 z1 z2 z3
            generalize (((w8.setCell ⟨RB,0,none⟩ (.int .i64 (KD))).setCell ⟨RB,1,none⟩ (.int .i64 (FR))).setCell ⟨RB,2,none⟩ (.int .i64 po)).setCell ⟨RB,3,none⟩ (.int .i64 (0))=w20 at *
            have r0:=cell_in hR4 0
            have r1:=cell_in hR4 1
            have r2:=cell_in hR4 2
            have r3:=cell_in hR4 3
            simp only [List.getElem?_toArray,List.getElem?_cons_zero,List.getElem?_cons_succ] at r0 r1 r2 r3
            refine bodyPost_ret (v:=askV ⟨KD,FR,po,0,kk,0⟩) (by rw [results_cell_two rfl];go_simp;rfl) rfl ?_
            exact ⟨rfl,HB4.drew⟩
         · have eA:AN=bad 4:=HF2.out
           have e0:(q::R3).length=R3.length+1:=rfl
           rw [e0] at x1
           have dz:((R3.length:Int)+1 == 0)=false:=beq_eq_false_iff_ne.2 (by omega)
           subst eA
           clear HF2 e0
           go_wp2_with fail
           have HA4:=hid (HA.out.fault 4)
           have HR4:Hid ((w8.setCell ⟨A,2,none⟩ (.int .i64 4)).heap[RB]? = some (.cells #[.int .i64 (0),.int .i64 (0),.int .i64 (0),.int .i64 (0)] 33 (0,0))):=(Below.heap_setCell _ _ _ _ (by show RB≠A;omega)).trans HR.out
           have HB4:Hid (Below A w (w8.setCell ⟨A,2,none⟩ (.int .i64 4))):=HB.out.setCell (Nat.le_refl _) _
           clear p0 p1 p2 p3 k0 r0 r1 r2 r3 z0 z1 z2 z3 x1 x2 x4 HA HR HB HP HK
           generalize w8.setCell ⟨A,2,none⟩ (.int .i64 4)=w9 at *
           have x2:=HA4.out.cells.2.2.1
           have r0:=cell_in HR4.out 0
           have r1:=cell_in HR4.out 1
           have r2:=cell_in HR4.out 2
           have r3:=cell_in HR4.out 3
           simp only [List.getElem?_toArray,List.getElem?_cons_zero,List.getElem?_cons_succ] at r0 r1 r2 r3
           have z0:=frozen_in HR4.out 0
           have z1:=frozen_in HR4.out 1
           have z2:=frozen_in HR4.out 2
           have z3:=frozen_in HR4.out 3
           go_step3
           go_wp2_with fail
           go_region
           all_goals
            go_wp2
            simp only [Exit.jump]
            refine bodyPost_ret (v:=askV (bad 4)) (by rw [results_cell_two rfl];go_simp;rfl) rfl ?_
            exact ⟨rfl,((((HB4.out.setCell (by exact Nat.le_of_lt hlt) _).setCell (by exact Nat.le_of_lt hlt) _).setCell (by exact Nat.le_of_lt hlt) _).setCell (by exact Nat.le_of_lt hlt) _).drew⟩
 · rintro a' w' ⟨⟨v1,v3,v4,v5,v6,v7,v8,v9,v10,v11,v12,v13,v14,v15,v16,v17,v18,v19,v20,v21,v22,v23,v24,v25,v26,v27,v28,v29,v30,v31,v32,v33,v34,v35,v36,v37,v38,v39,v40,v41,v42,v43,v44,v45,v46,v47,v48,v49,v50,v51,v52,v53,v54,v55,v56,v57,v58,v59,v60,v61,rfl⟩,n,rfl,c2,hR,hB,hAR⟩
   have HB:=hid hB
   obtain ⟨r0,r1,r2,r3⟩:w'.cell? ⟨RB,0,none⟩=some (.int .i64 0)∧w'.cell? ⟨RB,1,none⟩=some (.int .i64 0)∧w'.cell? ⟨RB,2,none⟩=some (.int .i64 0)∧w'.cell? ⟨RB,3,none⟩=some (.int .i64 0):=⟨cell_in hR 0,cell_in hR 1,cell_in hR 2,cell_in hR 3⟩
   have z0:=frozen_in hR 0
   have z1:=frozen_in hR 1
   have z2:=frozen_in hR 2
   have z3:=frozen_in hR 3
   clear hR hB
   go_wp2_with fail
   go_region
   all_goals
    go_wp2
    simp only [Exit.jump]
    refine bodyPost_ret (v:=askV (bad n)) (by rw [results_cell_two rfl];go_simp;rfl) rfl ?_
    exact ⟨rfl,((((HB.out.setCell (by exact Nat.le_of_lt hAR) _).setCell (by exact Nat.le_of_lt hAR) _).setCell (by exact Nat.le_of_lt hAR) _).setCell (by exact Nat.le_of_lt hAR) _).drew⟩
end Go.Proofs.YthompjbplddkgaaGreatDoor.askImpl
