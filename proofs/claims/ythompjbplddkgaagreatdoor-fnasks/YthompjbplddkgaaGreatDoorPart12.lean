import Derived.Test.YthompjbplddkgaaGreatDoorNetFace
import Derived.Test.YthompjbplddkgaaGreatDoorAskImpl
set_option linter.unusedVariables false
namespace Go.Proofs.YthompjbplddkgaaGreatDoor.netOKImpl
open Go.RowKit Go.Deep Go base names netSem netImpl netParts netFace
theorem netB_no {l:Nat→Nat} {s:Ss} {g x f:R} {o e:List Int} (h:routersB s (l 0)=false∨linksB g (l 1) (l 0)=false∨risingB o (l 2) (l 0)=false∨risingB e (l 3) (l 0)=false∨¬ l 3≤2∨importsB g (l 1) x (l 4)=false∨filtersB g (l 1) f (l 5)=false):netB l s g o e x f=false:=by
 unfold netB
 rcases h with h|h|h|h|h|h|h
 all_goals simp [h]
set_option maxHeartbeats 1600000 in
theorem netOK_impl (p:Nat→Option Addr) (l c:Nat→Nat) (s:Ss) (g:R) (o e:List Int) (x f:R) (w:World) (h:NetIs w p l s g o e x f) (hc0:l 0≤c 0) (hc1:l 1≤c 1) :
  Calls Tryz.prog 15 #[netV p l c] w fun e' w'=>e' = .returned (.bool (netB l s g o e x f))∧Below w.heap.size w w' := by
 have HN:=hid h
 have m0:=h.routers.most
 have m3:=h.externals.most
 have M0:=hid m0
 have HK0:=hid hc0
 have HK1:=hid hc1
 unfold maxLen at m0 m3
 obtain ⟨D,hD⟩:∃ D,netB l s g o e x f=D:=⟨_,rfl⟩
 rw [hD]
 have HNO:=hid (fun hh=>hD.symm.trans (netB_no (l:=l) (s:=s) (g:=g) (o:=o) (e:=e) (x:=x) (f:=f) hh))
 have HD:Hid (D=(routersB s (l 0) && linksB g (l 1) (l 0) && risingB o (l 2) (l 0) && risingB e (l 3) (l 0) && decide (l 3≤2) && importsB g (l 1) x (l 4) && filtersB g (l 1) f (l 5))):=hD.symm
 clear hD h hc0 hc1
 unfold netV
 have C1:∀ w8:World,Below (w.alloc (.cells #[.slice (p 0) (l 0) (c 0),.slice (p 1) (l 1) (c 1),.slice (p 2) (l 2) (c 2),.slice (p 3) (l 3) (c 3),.slice (p 4) (l 4) (c 4),.slice (p 5) (l 5) (c 5)] 29)).heap.size (w.alloc (.cells #[.slice (p 0) (l 0) (c 0),.slice (p 1) (l 1) (c 1),.slice (p 2) (l 2) (c 2),.slice (p 3) (l 3) (c 3),.slice (p 4) (l 4) (c 4),.slice (p 5) (l 5) (c 5)] 29)) w8 →
   w8.cell? ⟨w.heap.size,1,none⟩=some (.slice (p 1) (l 1) (c 1))∧w8.cell? ⟨w.heap.size,2,none⟩=some (.slice (p 2) (l 2) (c 2))∧w8.cell? ⟨w.heap.size,3,none⟩=some (.slice (p 3) (l 3) (c 3))∧w8.cell? ⟨w.heap.size,4,none⟩=some (.slice (p 4) (l 4) (c 4))∧w8.cell? ⟨w.heap.size,5,none⟩=some (.slice (p 5) (l 5) (c 5))∧NetIs w8 p l s g o e x f∧Below w.heap.size w w8 :=
  fun w8 hb=>⟨keep hb (by simp [go_sem]),keep hb (by simp [go_sem]),keep hb (by simp [go_sem]),keep hb (by simp [go_sem]),keep hb (by simp [go_sem]),(HN.out.below Bl).below hb,(show Below w.heap.size w _ from Bl).trans (hb.mono (by simp))⟩
 have HC1:=hid C1
 clear C1
 go_enter Tryz.func15,Tryz.ntmps15
 go_wp2_with fail
 refine (routers_impl (p 0) (l 0) (c 0) s _ (HN.out.routers.below Bl) HK0.out).mono ?_
 rintro e' w1 ⟨rfl,n,hw⟩
 have hb1:=below_drewN (w.alloc (.cells #[.slice (p 0) (l 0) (c 0),.slice (p 1) (l 1) (c 1),.slice (p 2) (l 2) (c 2),.slice (p 3) (l 3) (c 3),.slice (p 4) (l 4) (c 4),.slice (p 5) (l 5) (c 5)] 29)) n
 rw [← hw] at hb1
 clear hw
 obtain ⟨q1,q2,q3,q4,q5,hn,hB⟩:=HC1.out w1 hb1
 have H1:=hid hb1
 have N1:=hid hn
 have B1:=hid hB
 clear hb1 hn hB
 obtain ⟨b1,e1⟩:∃ b,routersB s (l 0)=b:=⟨_,rfl⟩
 rw [e1] at HD ⊢
 cases b1 with
 | false =>
  clear q1 q2 q3 q4 q5
  go_wp2
  go_ret
  exact ⟨ret_bool (HNO.out (.inl e1)).symm,B1.out⟩
 | true =>
 go_wp2_with fail
 refine (links_impl (p 1) (l 1) (c 1) g (l 0) _ N1.out.links HK1.out M0.out).mono ?_
 rintro e' w2 ⟨rfl,hb2⟩
 obtain ⟨q1,q2,q3,q4,q5,hn,hB⟩:=HC1.out w2 (H1.out.trans (hb2.mono H1.out.size))
 have H2:=hid (H1.out.trans (hb2.mono H1.out.size))
 have N2:=hid hn
 have B2:=hid hB
 clear hb2 hn hB
 obtain ⟨b2,e2⟩:∃ b,linksB g (l 1) (l 0)=b:=⟨_,rfl⟩
 rw [e2] at HD ⊢
 cases b2 with
 | false =>
  go_wp2
  go_ret
  exact ⟨ret_bool (HNO.out (.inr (.inl e2))).symm,B2.out⟩
 | true =>
 go_wp2_with fail
 refine (rising_impl (p 2) (l 2) (c 2) o (l 0) _ N2.out.origins M0.out).mono ?_
 rintro e' w3 ⟨rfl,n3,hw⟩
 have hb3:=below_drewN w2 n3
 rw [← hw] at hb3
 clear hw
 obtain ⟨q1,q2,q3,q4,q5,hn,hB⟩:=HC1.out w3 (H2.out.trans (hb3.mono H2.out.size))
 have H3:=hid (H2.out.trans (hb3.mono H2.out.size))
 have N3:=hid hn
 have B3:=hid hB
 clear hb3 hn hB
 obtain ⟨b3,e3⟩:∃ b,risingB o (l 2) (l 0)=b:=⟨_,rfl⟩
 rw [e3] at HD ⊢
 cases b3 with
 | false =>
  go_wp2
  go_ret
  exact ⟨ret_bool (HNO.out (.inr (.inr (.inl e3)))).symm,B3.out⟩
 | true =>
 go_wp2_with fail
 refine (rising_impl (p 3) (l 3) (c 3) e (l 0) _ N3.out.externals M0.out).mono ?_
 rintro e' w4 ⟨rfl,n4,hw⟩
 have hb4:=below_drewN w3 n4
 rw [← hw] at hb4
 clear hw
 obtain ⟨q1,q2,q3,q4,q5,hn,hB⟩:=HC1.out w4 (H3.out.trans (hb4.mono H3.out.size))
 have H4:=hid (H3.out.trans (hb4.mono H3.out.size))
 have N4:=hid hn
 have B4:=hid hB
 clear hb4 hn hB
 obtain ⟨b4,e4⟩:∃ b,risingB e (l 3) (l 0)=b:=⟨_,rfl⟩
 rw [e4] at HD ⊢
 cases b4 with
 | false =>
  go_wp2
  go_ret
  exact ⟨ret_bool (HNO.out (.inr (.inr (.inr (.inl e4))))).symm,B4.out⟩
 | true =>
 by_cases h3:l 3≤2
 · have d3:decide ((l 3:Int)≤2)=true:=decide_eq_true (by omega)
   have E5:=hid (decide_eq_true h3)
   clear h3
   go_wp2_with fail
   refine (imports_impl (p 4) (l 4) (c 4) x (p 1) (l 1) (c 1) g _ N4.out.imports N4.out.links).mono ?_
   rintro e' w5 ⟨rfl,hb5⟩
   obtain ⟨q1,q2,q3,q4,q5,hn,hB⟩:=HC1.out w5 (H4.out.trans (hb5.mono H4.out.size))
   have H5:=hid (H4.out.trans (hb5.mono H4.out.size))
   have N5:=hid hn
   have B5:=hid hB
   clear hb5 hn hB
   obtain ⟨b5,e5⟩:∃ b,importsB g (l 1) x (l 4)=b:=⟨_,rfl⟩
   rw [e5] at HD ⊢
   cases b5 with
   | false =>
    go_wp2
    go_ret
    exact ⟨ret_bool (HNO.out (.inr (.inr (.inr (.inr (.inr (.inl e5))))))).symm,B5.out⟩
   | true =>
   go_wp2_with fail
   refine (filters_impl (p 5) (l 5) (c 5) f (p 1) (l 1) (c 1) g _ N5.out.filters N5.out.links).mono ?_
   rintro e' w6 ⟨rfl,hb6⟩
   obtain ⟨-,-,-,-,-,-,hB⟩:=HC1.out w6 (H5.out.trans (hb6.mono H5.out.size))
   have B6:=hid hB
   clear hb6 hB q1 q2 q3 q4 q5
   go_wp2
   go_ret
   exact ⟨ret_bool (by rw [HD.out,E5.out];rfl),B6.out⟩
 · have d3:decide ((l 3:Int)≤2)=false:=decide_eq_false (by omega)
   have E5:=hid h3
   clear h3
   go_wp2
   go_ret
   exact ⟨ret_bool (HNO.out (.inr (.inr (.inr (.inr (.inl E5.out)))))).symm,B4.out⟩
end Go.Proofs.YthompjbplddkgaaGreatDoor.netOKImpl
namespace Go.Proofs.YthompjbplddkgaaGreatDoor.askFace
open Go.RowKit Go.Deep Go base names netSem netImpl netOKImpl numbers askWords askSem askTake askPart askImpl
def rdA (size : Nat) (ok : Bool) (nm : Wd→Int) (W : List Wd) : askSem.Ask := if 65536<size then bad 2 else if ok=true then askA nm W else bad 1
set_option maxHeartbeats 3200000 in
set_option maxRecDepth 8000 in
theorem readAsk_impl (p:Nat→Option Addr) (l c:Nat→Nat) (s:Ss) (g:R) (o e:List Int) (x f:R) (t:ByteArray) (m:Int) (w:World) (h:NetIs w p l s g o e x f) (hc0:l 0≤c 0) (hc1:l 1≤c 1) (ht:t.size≤1048576) (hm:w.cell? ⟨1,0,none⟩=some (.int .i64 m)) :
  Calls Tryz.prog 6 #[netV p l c,.string t] w fun e' w'=>e' = .returned (askV (rdA t.size (netB l s g o e x f) (fun x=>nameAt s (l 0) (piece x)) (wordsL t.data.toList)))∧Below w.heap.size w w' := by
 have HN:=hid h
 have HM:=hid hm
 clear h hm
 unfold rdA
 by_cases hbig:65536<t.size
 · rw [if_pos hbig]
   have d0:decide ((65536:Int)<(t.size:Int))=true:=decide_eq_true (by omega)
   unfold netV
   go_enter Tryz.func6,Tryz.ntmps6
   go_wp2
   refine bodyPost_ret (v:=askV (bad 2)) (by rw [results_cell_two rfl];go_simp;rfl) rfl ?_
   exact ⟨rfl,Bl⟩
 · rw [if_neg hbig]
   have d0:decide ((65536:Int)<(t.size:Int))=false:=decide_eq_false (by omega)
   obtain ⟨OK,hOK⟩:∃ q,netB l s g o e x f=q:=⟨_,rfl⟩
   have HOK:=hid hOK
   rw [hOK]
   clear hOK
   have HNO:Hid (∀ w',Below w.heap.size w w'→Calls Tryz.prog 15 #[netV p l c] w' fun e' w''=>e' = .returned (.bool OK)∧Below w'.heap.size w' w''):=fun w' hb=>by
    rw [← HOK.out]
    exact netOK_impl p l c s g o e x f w' (HN.out.below hb) hc0 hc1
   obtain ⟨AN,hAN⟩:∃ q,(if OK=true then askA (fun x=>nameAt s (l 0) (piece x)) (wordsL t.data.toList) else bad 1)=q:=⟨_,rfl⟩
   have HAN:=hid hAN.symm
   rw [hAN]
   clear hAN
   have HW:Hid (∀ w8:World,Below ((w.alloc (.cells #[.slice (p 0) (l 0) (c 0),.slice (p 1) (l 1) (c 1),.slice (p 2) (l 2) (c 2),.slice (p 3) (l 3) (c 3),.slice (p 4) (l 4) (c 4),.slice (p 5) (l 5) (c 5)] 29)).alloc (.cells #[.int .i64 0,.int .i64 0,.int .i64 0,.int .i64 0] 33)).heap.size ((w.alloc (.cells #[.slice (p 0) (l 0) (c 0),.slice (p 1) (l 1) (c 1),.slice (p 2) (l 2) (c 2),.slice (p 3) (l 3) (c 3),.slice (p 4) (l 4) (c 4),.slice (p 5) (l 5) (c 5)] 29)).alloc (.cells #[.int .i64 0,.int .i64 0,.int .i64 0,.int .i64 0] 33)) w8→w8.cell? ⟨w.heap.size,0,none⟩=some (.slice (p 0) (l 0) (c 0))∧w8.heap[w.heap.size+1]? = some (.cells #[.int .i64 0,.int .i64 0,.int .i64 0,.int .i64 0] 33 (0,0))∧Below w.heap.size w w8∧w.heap.size+1<w8.heap.size):=fun w8 hb=>by
    have hb0:Below w.heap.size w ((w.alloc (.cells #[.slice (p 0) (l 0) (c 0),.slice (p 1) (l 1) (c 1),.slice (p 2) (l 2) (c 2),.slice (p 3) (l 3) (c 3),.slice (p 4) (l 4) (c 4),.slice (p 5) (l 5) (c 5)] 29)).alloc (.cells #[.int .i64 0,.int .i64 0,.int .i64 0,.int .i64 0] 33)):=Bl
    have h9:=heap_alloc_new (w.alloc (.cells #[.slice (p 0) (l 0) (c 0),.slice (p 1) (l 1) (c 1),.slice (p 2) (l 2) (c 2),.slice (p 3) (l 3) (c 3),.slice (p 4) (l 4) (c 4),.slice (p 5) (l 5) (c 5)] 29)) (.cells #[.int .i64 0,.int .i64 0,.int .i64 0,.int .i64 0] 33 (0,0))
    rw [World.size_alloc] at h9
    exact ⟨keep hb (by simp [go_sem]),(hb.block _ (by simp)).trans h9,hb0.trans (hb.mono hb0.size),Nat.lt_of_lt_of_le (by simp) hb.size⟩
   unfold netV at HNO ⊢
   go_enter Tryz.func6,Tryz.ntmps6
   go_wp2_with fail
   refine (HNO.out _ Bl).mono ?_
   rintro e' w1 ⟨rfl,hb1⟩
   obtain ⟨f0,fR,fB,fz⟩:=HW.out w1 hb1
   have HB1:=hid hb1
   have FB:=hid fB
   have r0:=cell_in fR 0
   have r1:=cell_in fR 1
   have r2:=cell_in fR 2
   have r3:=cell_in fR 3
   simp only [List.getElem?_toArray,List.getElem?_cons_zero,List.getElem?_cons_succ] at r0 r1 r2 r3
   have z0:=frozen_in fR 0
   have z1:=frozen_in fR 1
   have z2:=frozen_in fR 2
   have z3:=frozen_in fR 3
   clear hb1 fB
   cases OK with
   | false =>
    have eA:AN=bad 1:=HAN.out
    subst eA
    clear HAN
    go_wp2
    refine bodyPost_ret (v:=askV (bad 1)) (by rw [results_cell_two rfl];go_simp;rfl) rfl ?_
    exact ⟨rfl,by have hbb:=FB.out;exact Bl⟩
   | true =>
    have HAN2:Hid (AN=askA (fun x=>nameAt s (l 0) (piece x)) (wordsL t.data.toList)):=HAN.out
    clear HAN
    have HSz:Hid (∀ y∈wordsL t.data.toList,y.length≤1048576):=fun y hy=>Nat.le_trans (words_small hy) (by simpa using ht)
    have HM1:=hid (keep FB.out HM.out)
    clear r0 r1 r2 r3 z0 z1 z2 z3 fR
    go_wp2_with fail
    go_region_with (go_at_call 16;refine (words_impl t m w1.drew (by omega) HM1.out).mono ?_;rintro e' w2 ⟨v2,rfl,ho2,hb2⟩;obtain ⟨a2,c2,rfl,ht2⟩:=TRow.of_own ho2 (Nat.le_refl _) HSz.out (fun y hy=>words_some hy);have HB2:Hid (Below w1.heap.size w1 w2):=hid ((Below.refl _ w1).drew.trans hb2);have HT2:=hid ht2;have f0' := keep HB2.out f0;clear ho2 hb2 ht2)
    all_goals
     have hz2:=HB2.out.size
     have hA:Hid (As w2.heap.size (w2.alloc (.cells #[.slice (p 0) (l 0) (c 0),.slice a2 (wordsL t.data.toList).length c2,.int .i64 0] 53)) (.slice (p 0) (l 0) (c 0)) a2 c2 (wordsL t.data.toList) 0):=hid ⟨heap_alloc_new _ _,HT2.out.under Bl⟩
     have HB3:Hid (Below w1.heap.size w1 (w2.alloc (.cells #[.slice (p 0) (l 0) (c 0),.slice a2 (wordsL t.data.toList).length c2,.int .i64 0] 53))):=hid (HB2.out.trans ((show Below w2.heap.size w2 _ from Bl).mono hz2))
     generalize (w2.alloc (.cells #[.slice (p 0) (l 0) (c 0),.slice a2 (wordsL t.data.toList).length c2,.int .i64 0] 53))=w3 at *
     have HN3:Hid (∀ w',Below w2.heap.size w3 w'→StrRow w' (p 0) (l 0) s):=fun w' hb=>by
      have h1:=FB.out.trans (HB3.out.mono (by have:=fz;omega))
      exact HN.out.routers.below (h1.trans (hb.mono (by have:=FB.out.size;omega)))
     go_wp2_with fail
     refine (question_impl w2.heap.size (p 0) (l 0) (c 0) s a2 c2 (wordsL t.data.toList) w3 HN3.out hA.out).mono ?_
     rintro e' w4 ⟨rfl,hb4⟩
     rw [← HAN2.out]
     have HB4:=hid (HB3.out.trans (hb4.mono hz2))
     have hb40:Below ((w.alloc (.cells #[.slice (p 0) (l 0) (c 0),.slice (p 1) (l 1) (c 1),.slice (p 2) (l 2) (c 2),.slice (p 3) (l 3) (c 3),.slice (p 4) (l 4) (c 4),.slice (p 5) (l 5) (c 5)] 29)).alloc (.cells #[.int .i64 0,.int .i64 0,.int .i64 0,.int .i64 0] 33)).heap.size ((w.alloc (.cells #[.slice (p 0) (l 0) (c 0),.slice (p 1) (l 1) (c 1),.slice (p 2) (l 2) (c 2),.slice (p 3) (l 3) (c 3),.slice (p 4) (l 4) (c 4),.slice (p 5) (l 5) (c 5)] 29)).alloc (.cells #[.int .i64 0,.int .i64 0,.int .i64 0,.int .i64 0] 33)) w4:=HB1.out.trans (HB4.out.mono HB1.out.size)
     obtain ⟨f0,fR,fB,fz4⟩:=HW.out w4 hb40
     have FB4:=hid fB
     have r0:=cell_in fR 0
     have r1:=cell_in fR 1
     have r2:=cell_in fR 2
     have r3:=cell_in fR 3
     simp only [List.getElem?_toArray,List.getElem?_cons_zero,List.getElem?_cons_succ] at r0 r1 r2 r3
     have z0:=frozen_in fR 0
     have z1:=frozen_in fR 1
     have z2:=frozen_in fR 2
     have z3:=frozen_in fR 3
     have FR:=hid fR
     clear hb4 hb40 fB fR HAN2 hA HN3 HB4 HB3 HB2 HT2 HB1 HW
     obtain ⟨k0,k1,k2,k3,k4,k5⟩:=AN
     simp only [askV]
     go_wp2
     have hR4:=set4 (x0:=.int .i64 k0) (x1:=.int .i64 k1) (x2:=.int .i64 k2) (x3:=.int .i64 k3) FR.out
     have HB5:Below w.heap.size w ((((w4.setCell ⟨w.heap.size+1,0,none⟩ (.int .i64 k0)).setCell ⟨w.heap.size+1,1,none⟩ (.int .i64 k1)).setCell ⟨w.heap.size+1,2,none⟩ (.int .i64 k2)).setCell ⟨w.heap.size+1,3,none⟩ (.int .i64 k3)):=by have hbb:=FB4.out;exact Bl
     clear r0 r1 r2 r3 z0 z1 z2 z3 FR
     generalize (((w4.setCell ⟨w.heap.size+1,0,none⟩ (.int .i64 k0)).setCell ⟨w.heap.size+1,1,none⟩ (.int .i64 k1)).setCell ⟨w.heap.size+1,2,none⟩ (.int .i64 k2)).setCell ⟨w.heap.size+1,3,none⟩ (.int .i64 k3)=w20 at *
     have r0:=cell_in hR4 0
     have r1:=cell_in hR4 1
     have r2:=cell_in hR4 2
     have r3:=cell_in hR4 3
     simp only [List.getElem?_toArray,List.getElem?_cons_zero,List.getElem?_cons_succ] at r0 r1 r2 r3
     refine bodyPost_ret (v:=askV ⟨k0,k1,k2,k3,k4,k5⟩) (by rw [results_cell_two rfl];go_simp;rfl) rfl ?_
     exact ⟨rfl,HB5⟩
end Go.Proofs.YthompjbplddkgaaGreatDoor.askFace
namespace Go.Proofs.YthompjbplddkgaaGreatDoor.netSpec
open Go.RowKit Go.Deep base names netSem
set_option maxHeartbeats 400000 in
theorem in_spec (n low high:Int) (w:World) :
  Calls Tryz.prog 21 #[.int .i64 n,.int .i64 low,.int .i64 high] w fun e w'=>e=.returned (.bool (inB n low high))∧w' = w:=by
 go_enter Tryz.func21,Tryz.ntmps21
 go_wp2
 all_goals
  go_ret
  refine ⟨ret_bool ?_,rfl⟩
  rw [Bool.eq_iff_iff];simp [inB, *];try omega
set_option maxHeartbeats 400000 in
theorem place_spec (a:Option Addr) (len cap:Nat) (s:Ss) (t:ByteArray) (w:World) (hr:StrRow w a len s) :
  Calls Tryz.prog 46 #[.slice a len cap,.string t] w fun e w'=>e=.returned (.int .i64 (nameAt s len t))∧w' = w:=by
 have hmost:=hr.most
 unfold maxLen at hmost
 have HC:=hid hr.cell
 clear hr
 go_enter Tryz.func46,Tryz.ntmps46
 go_wp2
 go_loop [5] (fun i=>∃ k:Nat,k≤len∧i=.int .i64 k∧∀ j,j<k→same s t j=false) (fun i=>len - (intOf i).toNat)
 case atStart=>exact ⟨0,Nat.zero_le _,rfl,fun j hj=>absurd hj (Nat.not_lt_zero _)⟩
 case round =>
  obtain ⟨k,hk,rfl,ha⟩:=hrel
  have HA:=hid ha
  clear ha
  by_cases hlt:k<len
  · obtain ⟨b,off,rfl,hc⟩:=HC.out k hlt
    by_cases he:(s k).toList=t.toList
    · have hq:((s k).toList == t.toList)=true:=by simp [he]
      have HE:=hid (show same s t k=true from decide_eq_true he)
      clear he
      go_wp2
      go_ret
      exact ⟨ret_int (firstAt_hit hlt HE.out HA.out).symm,rfl⟩
    · have hq:((s k).toList == t.toList)=false:=beq_eq_false_iff_ne.2 he
      have HE:=hid (show same s t k=false from decide_eq_false he)
      clear he
      go_wp2
      go_round
      case rel =>
       refine ⟨k+1,by omega,by go_num,fun j hj=>?_⟩
       by_cases e:j=k
       · subst e;exact HE.out
       · exact HA.out j (by omega)
      case measure=>simp [intOf];omega
  · have e:k=len:=by omega
    subst e
    go_wp2
    go_ret
    exact ⟨ret_int (firstAt_none HA.out).symm,rfl⟩
set_option maxHeartbeats 800000 in
theorem link_spec (p:Option Addr) (len cap:Nat) (g:R) (a b:Int) (w:World) (hr:Row 3 w p len g) :
  Calls Tryz.prog 29 #[.slice p len cap,.int .i64 a,.int .i64 b] w fun e w'=>e=.returned (.int .i64 (linkAt g len a b))∧w' = w:=by
 have hmost:=hr.most
 unfold maxLen at hmost
 have HR:=hid hr
 clear hr
 go_enter Tryz.func29,Tryz.ntmps29
 go_wp2
 go_loop [7] (fun i=>∃ k:Nat,k≤len∧i=.int .i64 k∧∀ j,j<k→hit g a b j=false) (fun i=>len - (intOf i).toNat)
 case atStart=>exact ⟨0,Nat.zero_le _,rfl,fun j hj=>absurd hj (Nat.not_lt_zero _)⟩
 case round =>
  obtain ⟨k,hk,rfl,ha⟩:=hrel
  have HA:=hid ha
  clear ha
  by_cases hlt:k<len
  · obtain ⟨b0,off,rfl,c0,c1,c2⟩:=HR.out.at3 hlt
    obtain ⟨D,hD⟩:∃ D,hit g a b k=D:=⟨_,rfl⟩
    have HQ:=hid hD
    have hE:decide (g k 0=a∧g k 1=b∨g k 0=b∧g k 1=a)=D:=hD
    clear hD
    generalize g k 0=x at *
    generalize g k 1=y at *
    generalize g k 2=z at *
    obtain ⟨p1,e1⟩:∃ p,(x == a)=p:=⟨_,rfl⟩
    obtain ⟨p2,e2⟩:∃ p,(y == b)=p:=⟨_,rfl⟩
    obtain ⟨p3,e3⟩:∃ p,(x == b)=p:=⟨_,rfl⟩
    obtain ⟨p4,e4⟩:∃ p,(y == a)=p:=⟨_,rfl⟩
    have HD:D=(p1 && p2 || p3 && p4):=by
     rw [← hE,← e1,← e2,← e3,← e4,Bool.eq_iff_iff]
     simp
    clear hE
    cases p1 <;> cases p2 <;> cases p3 <;> cases p4
    all_goals
     subst HD
     go_wp2
     first
     | (go_ret;exact ⟨ret_int (firstAt_hit hlt HQ.out HA.out).symm,rfl⟩)
     | (go_round
        case rel =>
         refine ⟨k+1,by omega,by go_num,fun j hj=>?_⟩
         by_cases e:j=k
         · subst e;exact HQ.out
         · exact HA.out j (by omega)
        case measure=>simp [intOf];omega)
  · have e:k=len:=by omega
    subst e
    go_wp2
    go_ret
    exact ⟨ret_int (firstAt_none HA.out).symm,rfl⟩
set_option maxHeartbeats 800000 in
theorem rising_spec (a:Option Addr) (len cap:Nat) (zs:List Int) (r:Nat) (w:World) (hr:IntRow w a len zs) (hm:r≤maxLen) :
  Calls Tryz.prog 44 #[.slice a len cap,.int .i64 r] w fun e w'=>e=.returned (.bool (risingB zs len r))∧∃ n,w' = w.drewN n:=by
 obtain ⟨hlen,hmost,hcell⟩:=hr
 unfold maxLen at hmost
 have HC:=hid hcell
 have HM:=hid hm
 unfold maxLen at hm
 clear hlen hcell
 go_enter Tryz.func44,Tryz.ntmps44
 go_wp2
 go_loopw [5] (fun i wr=>∃ k n:Nat,k≤len∧i=.int .i64 k∧(∀ j,j<k→risesB zs r j=true)∧wr=w.drewN n) (fun i _=>len - (intOf i).toNat)
 case atStart=>exact ⟨0,0,Nat.zero_le _,rfl,fun j hj=>absurd hj (Nat.not_lt_zero _),rfl⟩
 case round =>
  obtain ⟨k,n,hk,rfl,ha,hw⟩:=hrel
  have HA:=hid ha
  have HW:=hid hw
  clear ha
  by_cases hlt:k<len
  · obtain ⟨b,off,rfl,hc0⟩:=HC.out k hlt
    have hc:wr.cell? ⟨b,off+k,none⟩=some (.int .i64 (zAt zs k)):=by rw [hw];simpa [zAt] using hc0
    have HQ:Hid (risesB zs r k=(inB (zAt zs k) 0 (r - 1) && (decide (k=0) || decide (zAt zs (k - 1)<zAt zs k)))):=rfl
    obtain ⟨p1,e1⟩:∃ p,inB (zAt zs k) 0 (r - 1)=p:=⟨_,rfl⟩
    rw [e1] at HQ
    cases p1 with
    | false =>
     have HF:=hid (show risesB zs r k=false from HQ.out)
     clear hw hc0
     generalize zAt zs k=z at *
     go_wp2
     go_quiet (first|(go_at_call 21;exact Calls.quiet_of_same (in_spec _ _ _ _)))
     go_wp2
     go_ret
     exact ⟨ret_bool (allN_false hlt HF.out).symm,n+nq,by rw [HW.out,World.drewN_drewN]⟩
    | true =>
     by_cases hk0:k=0
     · have HF:=hid (show risesB zs r k=true by rw [HQ.out,decide_eq_true hk0];rfl)
       have ip3:decide ((0:Int)<(k:Int))=false:=decide_eq_false (by omega)
       have ip4:decide (0<k)=false:=decide_eq_false (by omega)
       clear hw hc0 hk0
       generalize zAt zs k=z at *
       go_wp2
       go_quiet (first|(go_at_call 21;exact Calls.quiet_of_same (in_spec _ _ _ _)))
       go_wp2
       go_roundw
       case rel =>
        refine ⟨k+1,n+nq,by omega,by go_num,fun j hj=>?_,by rw [HW.out,World.drewN_drewN]⟩
        by_cases e:j=k
        · subst e;exact HF.out
        · exact HA.out j (by omega)
       case measure=>simp [intOf];omega
     · obtain ⟨m,hm1⟩:∃ m,k=m+1:=⟨k - 1,by omega⟩
       obtain ⟨b',off',hab,hd0⟩:=HC.out m (by omega)
       cases hab
       have hd:wr.cell? ⟨b,off+m,none⟩=some (.int .i64 (zAt zs m)):=by rw [hw];simpa [zAt] using hd0
       have ek:k - 1=m:=by omega
       have ip:(k:Int) - 1=(m:Int):=by omega
       have ip1:(m:Int)<(len:Int):=by omega
       have ip2:(k:Int)<(len:Int):=by omega
       have ip3:decide ((0:Int)<(k:Int))=true:=decide_eq_true (by omega)
       have ip4:decide (0<k)=true:=decide_eq_true (by omega)
       have HQ2:Hid (risesB zs r k=decide (zAt zs m<zAt zs k)):=by
        show _=_
        rw [HQ.out,ek,decide_eq_false hk0];rfl
       have HM1:=hid hm1
       clear hw hc0 hd0 hm1 ek HQ
       obtain ⟨p2,e2⟩:∃ p,decide (zAt zs k≤zAt zs m)=p:=⟨_,rfl⟩
       have HF:Hid (risesB zs r k = !p2):=by
        show _=_
        rw [HQ2.out,← e2,Bool.eq_iff_iff];simp
       clear HQ2
       generalize zAt zs k=z at *
       generalize zAt zs m=y at *
       cases p2 with
       | true =>
        go_wp2
        go_quiet (first|(go_at_call 21;exact Calls.quiet_of_same (in_spec _ _ _ _)))
        go_wp2
        go_ret
        exact ⟨ret_bool (allN_false hlt HF.out).symm,n+nq,by rw [HW.out,World.drewN_drewN]⟩
       | false =>
        go_wp2
        go_quiet (first|(go_at_call 21;exact Calls.quiet_of_same (in_spec _ _ _ _)))
        go_wp2
        go_roundw
        case rel =>
         refine ⟨k+1,n+nq,by omega,by go_num,fun j hj=>?_,by rw [HW.out,World.drewN_drewN]⟩
         by_cases e:j=k
         · subst e;exact HF.out
         · exact HA.out j (by omega)
        case measure=>simp [intOf];omega
  · have e:k=len:=by omega
    subst e
    go_wp2
    go_ret
    exact ⟨ret_bool (allN_of HA.out).symm,n,by first|exact HW.out|rfl⟩
end Go.Proofs.YthompjbplddkgaaGreatDoor.netSpec
