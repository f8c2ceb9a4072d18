import Derived.Test.YthompjbplddkgaaGreatDoorAskSpec
import Derived.Test.YthompjbplddkgaaGreatDoorNetOKSpec
set_option linter.unusedVariables false
namespace Go.Proofs.YthompjbplddkgaaGreatDoor.askFaceS
open Go.RowKit Go.Deep Go base names netSem netOKSpec numbers askWords askSem askTake askImpl askFace askSpec
set_option maxHeartbeats 3200000 in
set_option maxRecDepth 8000 in
theorem readAsk_spec (p:Nat→Option Addr) (l c:Nat→Nat) (s:Ss) (g:R) (o e:List Int) (x f:R) (t:ByteArray) (w:World) (h:NetIs w p l s g o e x f) (hc0:l 0≤c 0) (hc1:l 1≤c 1) (ht:t.size≤1048576) :
  Calls Tryz.prog 7 #[netV p l c,.string t] w fun e' w'=>e' = .returned (askV (rdA t.size (netB l s g o e x f) (fun x=>nameAt s (l 0) (piece x)) (wordsL t.data.toList)))∧Below w.heap.size w w' := by
 have HN:=hid h
 clear h
 unfold rdA
 by_cases hbig:65536<t.size
 · rw [if_pos hbig]
   have d0:decide ((65536:Int)<(t.size:Int))=true:=decide_eq_true (by omega)
   unfold netV
   go_enter Tryz.func7,Tryz.ntmps7
   go_wp2
   refine bodyPost_ret (v:=askV (bad 2)) (by rw [askImpl.results_cell_two rfl];go_simp;rfl) rfl ?_
   exact ⟨rfl,Bl⟩
 · rw [if_neg hbig]
   have d0:decide ((65536:Int)<(t.size:Int))=false:=decide_eq_false (by omega)
   obtain ⟨OK,hOK⟩:∃ q,netB l s g o e x f=q:=⟨_,rfl⟩
   have HOK:=hid hOK
   rw [hOK]
   clear hOK
   have HNO:Hid (∀ w',Below w.heap.size w w'→Calls Tryz.prog 18 #[netV p l c] w' fun e' w''=>e' = .returned (.bool OK)∧Below w'.heap.size w' w''):=fun w' hb=>by
    rw [← HOK.out]
    exact netOK_spec p l c s g o e x f w' (HN.out.below hb) hc0 hc1
   obtain ⟨AN,hAN⟩:∃ q,(if OK=true then askA (fun x=>nameAt s (l 0) (piece x)) (wordsL t.data.toList) else bad 1)=q:=⟨_,rfl⟩
   have HAN:=hid hAN.symm
   rw [hAN]
   clear hAN
   have HW:Hid (∀ w8:World,Below ((w.alloc (.cells #[.slice (p 0) (l 0) (c 0),.slice (p 1) (l 1) (c 1),.slice (p 2) (l 2) (c 2),.slice (p 3) (l 3) (c 3),.slice (p 4) (l 4) (c 4),.slice (p 5) (l 5) (c 5)] 29)).alloc (.cells #[.int .i64 0,.int .i64 0,.int .i64 0,.int .i64 0] 33)).heap.size ((w.alloc (.cells #[.slice (p 0) (l 0) (c 0),.slice (p 1) (l 1) (c 1),.slice (p 2) (l 2) (c 2),.slice (p 3) (l 3) (c 3),.slice (p 4) (l 4) (c 4),.slice (p 5) (l 5) (c 5)] 29)).alloc (.cells #[.int .i64 0,.int .i64 0,.int .i64 0,.int .i64 0] 33)) w8→(w8.cell? ⟨w.heap.size,0,none⟩=some (.slice (p 0) (l 0) (c 0))∧w8.cell? ⟨w.heap.size,1,none⟩=some (.slice (p 1) (l 1) (c 1))∧w8.cell? ⟨w.heap.size,2,none⟩=some (.slice (p 2) (l 2) (c 2))∧w8.cell? ⟨w.heap.size,3,none⟩=some (.slice (p 3) (l 3) (c 3))∧w8.cell? ⟨w.heap.size,4,none⟩=some (.slice (p 4) (l 4) (c 4))∧w8.cell? ⟨w.heap.size,5,none⟩=some (.slice (p 5) (l 5) (c 5)))∧w8.heap[w.heap.size+1]? = some (.cells #[.int .i64 0,.int .i64 0,.int .i64 0,.int .i64 0] 33 (0,0))∧Below w.heap.size w w8∧w.heap.size+1<w8.heap.size):=fun w8 hb=>by
    have hb0:Below w.heap.size w ((w.alloc (.cells #[.slice (p 0) (l 0) (c 0),.slice (p 1) (l 1) (c 1),.slice (p 2) (l 2) (c 2),.slice (p 3) (l 3) (c 3),.slice (p 4) (l 4) (c 4),.slice (p 5) (l 5) (c 5)] 29)).alloc (.cells #[.int .i64 0,.int .i64 0,.int .i64 0,.int .i64 0] 33)):=Bl
    have h9:=heap_alloc_new (w.alloc (.cells #[.slice (p 0) (l 0) (c 0),.slice (p 1) (l 1) (c 1),.slice (p 2) (l 2) (c 2),.slice (p 3) (l 3) (c 3),.slice (p 4) (l 4) (c 4),.slice (p 5) (l 5) (c 5)] 29)) (.cells #[.int .i64 0,.int .i64 0,.int .i64 0,.int .i64 0] 33 (0,0))
    rw [World.size_alloc] at h9
    exact ⟨⟨keep hb (by simp [go_sem]),keep hb (by simp [go_sem]),keep hb (by simp [go_sem]),keep hb (by simp [go_sem]),keep hb (by simp [go_sem]),keep hb (by simp [go_sem])⟩,(hb.block _ (by simp)).trans h9,hb0.trans (hb.mono hb0.size),Nat.lt_of_lt_of_le (by simp) hb.size⟩
   unfold netV at HNO ⊢
   go_enter Tryz.func7,Tryz.ntmps7
   go_wp2_with fail
   refine (HNO.out _ Bl).mono ?_
   rintro e' w1 ⟨rfl,hb1⟩
   obtain ⟨⟨f0,f1,f2,f3,f4,f5⟩,fR,fB,fz⟩:=HW.out w1 hb1
   have HB1:=hid hb1
   have FB:=hid fB
   have r0:=cell_in fR 0
   have r1:=cell_in fR 1
   have r2:=cell_in fR 2
   have r3:=cell_in fR 3
   simp only [List.getElem?_toArray,List.getElem?_cons_zero,List.getElem?_cons_succ] at r0 r1 r2 r3
   have z0:=frozen_in fR 0
   have z1:=frozen_in fR 1
   have z2:=frozen_in fR 2
   have z3:=frozen_in fR 3
   clear hb1 fB
   cases OK with
   | false =>
    have eA:AN=bad 1:=HAN.out
    subst eA
    clear HAN
    go_wp2
    refine bodyPost_ret (v:=askV (bad 1)) (by rw [askImpl.results_cell_two rfl];go_simp;rfl) rfl ?_
    exact ⟨rfl,by have hbb:=FB.out;exact Bl⟩
   | true =>
    have HAN2:Hid (AN=askA (fun x=>nameAt s (l 0) (piece x)) (wordsL t.data.toList)):=HAN.out
    clear HAN
    have HSz:Hid (∀ y∈wordsL t.data.toList,y.length≤1048576):=fun y hy=>Nat.le_trans (words_small hy) (by simpa using ht)
    clear r0 r1 r2 r3 z0 z1 z2 z3 fR
    go_wp2_with fail
    go_region_with (first
     | (go_at_call 19;have was9:=one9;refine (ask_spec p l c s a2 c2 (wordsL t.data.toList) w2 (HN.out.routers.below (FB.out.trans (HB2.out.mono FB.out.size))) HT2.out).mono ?_;rintro e' w3 ⟨rfl,hb3⟩;rw [← HAN2.out];have HB3:Hid (Below w1.heap.size w1 w3):=hid (HB2.out.trans (hb3.mono HB2.out.size));obtain ⟨-,fR,fB,fz3⟩:=HW.out w3 (HB1.out.trans (HB3.out.mono HB1.out.size));have FB3:=hid fB;have FR:=hid fR;have r0:=cell_in fR 0;have r1:=cell_in fR 1;have r2:=cell_in fR 2;have r3:=cell_in fR 3;simp only [List.getElem?_toArray,List.getElem?_cons_zero,List.getElem?_cons_succ] at r0 r1 r2 r3;have z0:=frozen_in fR 0;have z1:=frozen_in fR 1;have z2:=frozen_in fR 2;have z3:=frozen_in fR 3;clear hb3 fB fR;obtain ⟨k0,k1,k2,k3,k4,k5⟩:=AN;simp only [askV])
     | (go_at_call 20;refine (words_spec t w1.drew (by omega)).mono ?_;rintro e' w2 ⟨v2,rfl,ho2,hb2⟩;obtain ⟨a2,c2,rfl,ht2⟩:=TRow.of_own ho2 (Nat.le_refl _) HSz.out (fun y hy=>words_some hy);have HB2:Hid (Below w1.heap.size w1 w2):=hid ((Below.refl _ w1).drew.trans hb2);have HT2:=hid ht2;have g0:=keep HB2.out f0;have g1:=keep HB2.out f1;have g2:=keep HB2.out f2;have g3:=keep HB2.out f3;have g4:=keep HB2.out f4;have g5:=keep HB2.out f5;clear ho2 hb2 ht2;have one9:True:=trivial))
    all_goals
     go_wp2
     have hR4:=set4 (x0:=.int .i64 k0) (x1:=.int .i64 k1) (x2:=.int .i64 k2) (x3:=.int .i64 k3) FR.out
     have HB5:Below w.heap.size w ((((w3.setCell ⟨w.heap.size+1,0,none⟩ (.int .i64 k0)).setCell ⟨w.heap.size+1,1,none⟩ (.int .i64 k1)).setCell ⟨w.heap.size+1,2,none⟩ (.int .i64 k2)).setCell ⟨w.heap.size+1,3,none⟩ (.int .i64 k3)):=by have hbb:=FB3.out;exact Bl
     clear r0 r1 r2 r3 z0 z1 z2 z3 FR
     generalize (((w3.setCell ⟨w.heap.size+1,0,none⟩ (.int .i64 k0)).setCell ⟨w.heap.size+1,1,none⟩ (.int .i64 k1)).setCell ⟨w.heap.size+1,2,none⟩ (.int .i64 k2)).setCell ⟨w.heap.size+1,3,none⟩ (.int .i64 k3)=w20 at *
     have r0:=cell_in hR4 0
     have r1:=cell_in hR4 1
     have r2:=cell_in hR4 2
     have r3:=cell_in hR4 3
     simp only [List.getElem?_toArray,List.getElem?_cons_zero,List.getElem?_cons_succ] at r0 r1 r2 r3
     refine bodyPost_ret (v:=askV ⟨k0,k1,k2,k3,k4,k5⟩) (by rw [askImpl.results_cell_two rfl];go_simp;rfl) rfl ?_
     exact ⟨rfl,HB5⟩
end Go.Proofs.YthompjbplddkgaaGreatDoor.askFaceS
namespace Go.Proofs.YthompjbplddkgaaGreatDoor.verSem
variable {D E S : Type}
def rowT (ST : D→E→List S) (d : D) (es : List E) : List (D × E × S) := es.flatMap fun e=>(ST d e).map fun s=>(d,e,s)
def trips (ST : D→E→List S) (ds : List D) (es : List E) : List (D × E × S) := ds.flatMap fun d=>rowT ST d es
theorem row_app (ST:D→E→List S) (d:D) (xs ys:List E):rowT ST d (xs ++ ys)=rowT ST d xs ++ rowT ST d ys:=by unfold rowT;rw [List.flatMap_append]
theorem row_one (ST:D→E→List S) (d:D) (e:E):rowT ST d [e]=(ST d e).map fun s=>(d,e,s):=by simp [rowT]
theorem trips_app (ST:D→E→List S) (xs ys:List D) (es:List E):trips ST (xs ++ ys) es=trips ST xs es ++ trips ST ys es:=by unfold trips;rw [List.flatMap_append]
theorem trips_one (ST:D→E→List S) (d:D) (es:List E):trips ST [d] es=rowT ST d es:=by simp [trips]
theorem take_next {A:Type} {l:List A} {k:Nat} {a:A} (h:l[k]? = some a):l.take (k+1)=l.take k ++ [a]:=by
 obtain ⟨hk,e⟩:=List.getElem?_eq_some_iff.1 h
 rw [List.take_succ_eq_append_getElem hk,e]
theorem parts {A:Type} {l:List A} {k:Nat} {a:A} (h:l[k]? = some a):l=l.take k ++ [a] ++ l.drop (k+1):=by
 rw [← take_next h,List.take_append_drop]
theorem trips_at (ST:D→E→List S) {ds:List D} {es:List E} {m q k:Nat} {d:D} {e:E} {s:S} (hd:ds[m]? = some d) (he:es[q]? = some e) (hs:(ST d e)[k]? = some s) :
  ∃ rest,trips ST ds es=(trips ST (ds.take m) es ++ rowT ST d (es.take q) ++ ((ST d e).take k).map fun s=>(d,e,s)) ++ (d,e,s)::rest:=by
 refine ⟨((ST d e).drop (k+1)).map (fun s=>(d,e,s)) ++ rowT ST d (es.drop (q+1)) ++ trips ST (ds.drop (m+1)) es,?_⟩
 have h1:trips ST ds es=trips ST (ds.take m) es ++ rowT ST d es ++ trips ST (ds.drop (m+1)) es:=by
  conv=>lhs;rw [parts hd]
  rw [trips_app,trips_app,trips_one]
 have h2:rowT ST d es=rowT ST d (es.take q) ++ ((ST d e).map fun s=>(d,e,s)) ++ rowT ST d (es.drop (q+1)):=by
  conv=>lhs;rw [parts he]
  rw [row_app,row_app,row_one]
 have h3:((ST d e).map fun s=>(d,e,s))=(((ST d e).take k).map fun s=>(d,e,s)) ++ [(d,e,s)] ++ (((ST d e).drop (k+1)).map fun s=>(d,e,s)):=by
  conv=>lhs;rw [parts hs]
  simp
 rw [h1,h2,h3]
 simp
end Go.Proofs.YthompjbplddkgaaGreatDoor.verSem
namespace Go.Proofs.YthompjbplddkgaaGreatDoor.copy
open Go.RowKit Go.Deep base
theorem Tryz.info_int : (Tryz.prog.info? 3).map (fun i=>(i.zero,i.size,i.bytes))=some (some (.int .i64 0),1,8):=by kernel_rfl
structure Copied (w : World) (N : Nat) (zss : List (List Int)) : Prop where
 outer:w.rowIs N 25 zss.length (fun i=>.slice (some ⟨N+1+i,0,none⟩) (zss[i]?.getD []).length (zss[i]?.getD []).length)
 inner:∀ i,i<zss.length→w.rowIs (N+1+i) 3 (zss[i]?.getD []).length (fun j=>.int .i64 ((zss[i]?.getD [])[j]?.getD 0))
theorem Copied.below {w w1:World} {N:Nat} {zss:List (List Int)} (h:Copied w N zss) (hb:Below w.heap.size w w1):Copied w1 N zss :=
 ⟨h.outer.of_block (hb.block _ h.outer.lt),fun i hi=>(h.inner i hi).of_block (hb.block _ (h.inner i hi).lt)⟩
end Go.Proofs.YthompjbplddkgaaGreatDoor.copy
