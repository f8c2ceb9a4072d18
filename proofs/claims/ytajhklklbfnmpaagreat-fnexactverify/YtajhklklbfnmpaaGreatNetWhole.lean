import Derived.Test.YtajhklklbfnmpaaGreatNetCopy
set_option linter.unusedVariables false
namespace Go.Proofs.YtajhklklbfnmpaaGreat.netWhole
open Go.RowKit Go.Deep base copy netSem netCopy
set_option maxHeartbeats 800000 in
theorem szNet (p : Nat→Option Addr) (l c : Nat→Nat) (s : Ss) (g : R) (o e : List Int) (x f : R) (left : Int) (w : World) (h : NetIs w p l s g o e x f) (h0 : 0≤left) (h1 : left≤1048576) :
  Calls Tryz.prog 4 #[netV p l c,.int .i64 left] w fun e' w'=>∃ r:Int,e' = .returned (.int .i64 r)∧Below w.heap.size w w'∧-1≤r∧r≤left∧(0≤r→∀ i,i < 6→l i≤1048576):=by
 have HN:=hid h
 have m0:=h.routers.most
 have m1:=h.links.most
 have m2:=h.origins.most
 have m3:=h.externals.most
 have m4:=h.imports.most
 have m5:=h.filters.most
 clear h
 have C1:∀ w8:World,Below ((w.alloc (.cells #[.slice (p 0) (l 0) (c 0),.slice (p 1) (l 1) (c 1),.slice (p 2) (l 2) (c 2),.slice (p 3) (l 3) (c 3),.slice (p 4) (l 4) (c 4),.slice (p 5) (l 5) (c 5)] 28))).heap.size (w.alloc (.cells #[.slice (p 0) (l 0) (c 0),.slice (p 1) (l 1) (c 1),.slice (p 2) (l 2) (c 2),.slice (p 3) (l 3) (c 3),.slice (p 4) (l 4) (c 4),.slice (p 5) (l 5) (c 5)] 28)) w8→w8.cell? ⟨w.heap.size,0,none⟩=some (.slice (p 0) (l 0) (c 0))∧w8.cell? ⟨w.heap.size,1,none⟩=some (.slice (p 1) (l 1) (c 1))∧w8.cell? ⟨w.heap.size,2,none⟩=some (.slice (p 2) (l 2) (c 2))∧w8.cell? ⟨w.heap.size,3,none⟩=some (.slice (p 3) (l 3) (c 3))∧w8.cell? ⟨w.heap.size,4,none⟩=some (.slice (p 4) (l 4) (c 4))∧w8.cell? ⟨w.heap.size,5,none⟩=some (.slice (p 5) (l 5) (c 5))∧Below w.heap.size w w8 :=
  fun w8 hb=>⟨keep hb (by simp [go_sem]),keep hb (by simp [go_sem]),keep hb (by simp [go_sem]),keep hb (by simp [go_sem]),keep hb (by simp [go_sem]),keep hb (by simp [go_sem]),(show Below w.heap.size w _ from Bl).trans (hb.mono (by simp))⟩
 have HC1:=hid C1
 clear C1
 unfold netV
 go_enter Tryz.func4,Tryz.ntmps4
 go_wp2_with fail
 refine (szStringS (p 0) (l 0) (c 0) s left _ (HN.out.routers.below Bl) h0 h1).mono ?_
 rintro e' w1 ⟨r0,rfl,ha0,hb0,hc0,n,hw⟩
 have hb1:=below_drewN (w.alloc (.cells #[.slice (p 0) (l 0) (c 0),.slice (p 1) (l 1) (c 1),.slice (p 2) (l 2) (c 2),.slice (p 3) (l 3) (c 3),.slice (p 4) (l 4) (c 4),.slice (p 5) (l 5) (c 5)] 28)) n
 rw [← hw] at hb1
 clear hw
 obtain ⟨q0,q1,q2,q3,q4,q5,hB⟩:=HC1.out w1 hb1
 have B1:=hid hB
 have HC0:=hid hc0
 clear hb1 hB hc0
 by_cases hneg:r0 < 0
 · go_wp2
   go_ret
   exact ⟨_,rfl,B1.out,by omega,by omega,by omega⟩
 by_cases hn1:r0 < (l 1:Int)
 · go_wp2_with fail
   refine (szLinkS (p 1) (l 1) (c 1) (r0) _ m1 (by omega) (by omega)).mono ?_
   rintro e' w2 ⟨rfl,rfl⟩
   rw [if_pos (by omega)]
   go_wp2
   go_ret
   exact ⟨_,rfl,by first | exact B1.out | assumption,by omega,by omega,by omega⟩
 go_wp2_with fail
 refine (szLinkS (p 1) (l 1) (c 1) (r0) _ m1 (by omega) (by omega)).mono ?_
 rintro e' w2 ⟨rfl,rfl⟩
 rw [if_neg (by omega)]
 by_cases hn2:r0 - (l 1:Int) < (l 2:Int)
 · go_wp2_with fail
   refine (szIntS (p 2) (l 2) (c 2) (r0 - (l 1:Int)) _ m2 (by omega) (by omega)).mono ?_
   rintro e' w2 ⟨rfl,rfl⟩
   rw [if_pos (by omega)]
   go_wp2
   go_ret
   exact ⟨_,rfl,by first | exact B1.out | assumption,by omega,by omega,by omega⟩
 go_wp2_with fail
 refine (szIntS (p 2) (l 2) (c 2) (r0 - (l 1:Int)) _ m2 (by omega) (by omega)).mono ?_
 rintro e' w3 ⟨rfl,rfl⟩
 rw [if_neg (by omega)]
 by_cases hn3:r0 - (l 1:Int) - (l 2:Int) < (l 3:Int)
 · go_wp2_with fail
   refine (szIntS (p 3) (l 3) (c 3) (r0 - (l 1:Int) - (l 2:Int)) _ m3 (by omega) (by omega)).mono ?_
   rintro e' w2 ⟨rfl,rfl⟩
   rw [if_pos (by omega)]
   go_wp2
   go_ret
   exact ⟨_,rfl,by first | exact B1.out | assumption,by omega,by omega,by omega⟩
 go_wp2_with fail
 refine (szIntS (p 3) (l 3) (c 3) (r0 - (l 1:Int) - (l 2:Int)) _ m3 (by omega) (by omega)).mono ?_
 rintro e' w4 ⟨rfl,rfl⟩
 rw [if_neg (by omega)]
 by_cases hn4:r0 - (l 1:Int) - (l 2:Int) - (l 3:Int) < (l 4:Int)
 · go_wp2_with fail
   refine (szImportS (p 4) (l 4) (c 4) (r0 - (l 1:Int) - (l 2:Int) - (l 3:Int)) _ m4 (by omega) (by omega)).mono ?_
   rintro e' w2 ⟨rfl,rfl⟩
   rw [if_pos (by omega)]
   go_wp2
   go_ret
   exact ⟨_,rfl,by first | exact B1.out | assumption,by omega,by omega,by omega⟩
 go_wp2_with fail
 refine (szImportS (p 4) (l 4) (c 4) (r0 - (l 1:Int) - (l 2:Int) - (l 3:Int)) _ m4 (by omega) (by omega)).mono ?_
 rintro e' w5 ⟨rfl,rfl⟩
 rw [if_neg (by omega)]
 by_cases hn5:r0 - (l 1:Int) - (l 2:Int) - (l 3:Int) - (l 4:Int) < (l 5:Int)
 · go_wp2_with fail
   refine (szFilterS (p 5) (l 5) (c 5) (r0 - (l 1:Int) - (l 2:Int) - (l 3:Int) - (l 4:Int)) _ m5 (by omega) (by omega)).mono ?_
   rintro e' w2 ⟨rfl,rfl⟩
   rw [if_pos (by omega)]
   go_wp2
   go_ret
   exact ⟨_,rfl,by first | exact B1.out | assumption,by omega,by omega,by omega⟩
 go_wp2_with fail
 refine (szFilterS (p 5) (l 5) (c 5) (r0 - (l 1:Int) - (l 2:Int) - (l 3:Int) - (l 4:Int)) _ m5 (by omega) (by omega)).mono ?_
 rintro e' w6 ⟨rfl,rfl⟩
 rw [if_neg (by omega)]
 go_wp2
 go_ret
 refine ⟨_,rfl,by first | exact B1.out | assumption,by omega,by omega,fun _ i hi=>?_⟩
 have:=HC0.out (by omega)
 match i,hi with
 | 0,_=>omega
 | 1,_=>omega
 | 2,_=>omega
 | 3,_=>omega
 | 4,_=>omega
 | 5,_=>omega
 | i+6,hi=>omega
structure TN (S : Nat) (w : World) (p : Nat→Option Addr) (l c : Nat→Nat) (v : Nat→Value) : Prop where
 box:∀ i,i < 6→w.cell? ⟨S,i,none⟩=some (.slice (p i) (l i) (c i))
 res:∀ i,i < 6→w.cell? ⟨S+1,i,none⟩=some (.slice none 0 0)
 resF:∀ i,i < 6→w.frozen? ⟨S+1,i,none⟩=false
 out:∀ i,i < 6→w.cell? ⟨S+1+1,i,none⟩=some (v i)
 outF:∀ i,i < 6→w.frozen? ⟨S+1+1,i,none⟩=false
 size:S+1+1 < w.heap.size
theorem TN.below {S : Nat} {w w1 : World} {p : Nat→Option Addr} {l c : Nat→Nat} {v : Nat→Value} (h : TN S w p l c v) (hb : Below w.heap.size w w1) : TN S w1 p l c v :=
 ⟨fun i hi=>keep hb (h.box i hi),fun i hi=>keep hb (h.res i hi),fun i hi=>(hb.frozen (p:=⟨S+1,i,none⟩) (Nat.lt_trans (Nat.lt_succ_self _) h.size)).trans (h.resF i hi),fun i hi=>keep hb (h.out i hi),fun i hi=>(hb.frozen (p:=⟨S+1+1,i,none⟩) h.size).trans (h.outF i hi),Nat.lt_of_lt_of_le h.size hb.size⟩
theorem TN.set {S : Nat} {w : World} {p : Nat→Option Addr} {l c : Nat→Nat} {v : Nat→Value} (h : TN S w p l c v) (k : Nat) (hk : k < 6) (x : Value) : TN S (w.setCell ⟨S+1+1,k,none⟩ x) p l c (fun i=>if i=k then x else v i) := by
 refine ⟨fun i hi=>?_,fun i hi=>?_,fun i hi=>?_,fun i hi=>?_,fun i hi=>?_,?_⟩
 · have:=h.box i hi;simpa [go_sem] using this
 · have:=h.res i hi;simpa [go_sem] using this
 · have:=h.resF i hi;simpa [go_sem] using this
 · have h1:=h.out i hi
   have h2:=h.out k hk
   by_cases e:i=k
   · subst e;simp [go_sem,h2]
   · rw [if_neg e];simpa [go_sem,e,Ne.symm e] using h1
 · have:=h.outF i hi;simpa [go_sem] using this
 · simpa using h.size
structure Copied (B : Nat) (w : World) (N : Nat→Nat) (l : Nat→Nat) (s : Ss) (g : R) (o e : List Int) (x f : R) : Prop where
 low:B≤N 0
 up:N 0 < N 1∧N 1 < N 2∧N 2 < N 3∧N 3 < N 4∧N 4 < N 5
 lt:N 5 < w.heap.size
 routers:LaidS w (N 0) (l 0) (l 0) s
 links:Laid 110 3 w (N 1) (l 1) (l 1) g
 origins:w.rowIs (N 2) 3 (l 2) (fun i=>.int .i64 (o[i]?.getD 0))
 externals:w.rowIs (N 3) 3 (l 3) (fun i=>.int .i64 (e[i]?.getD 0))
 imports:Laid 114 5 w (N 4) (l 4) (l 4) x
 filters:Laid 118 4 w (N 5) (l 5) (l 5) f
theorem Copied.below {B : Nat} {w w1 : World} {N l : Nat→Nat} {s : Ss} {g x f : R} {o e : List Int} (h : Copied B w N l s g o e x f) (hb : Below w.heap.size w w1) : Copied B w1 N l s g o e x f :=
 ⟨h.low,h.up,Nat.lt_of_lt_of_le h.lt hb.size,h.routers.below hb,h.links.below hb,h.origins.of_block (hb.block _ h.origins.lt),h.externals.of_block (hb.block _ h.externals.lt),h.imports.below hb,h.filters.below hb⟩
theorem Copied.set {B : Nat} {w : World} {N l : Nat→Nat} {s : Ss} {g y f : R} {o e : List Int} (h : Copied B w N l s g o e y f) {x : Addr} (hx : x.block < N 0) (v : Value) : Copied B (w.setCell x v) N l s g o e y f := by
 obtain ⟨u0,u1,u2,u3,u4⟩:=h.up
 exact ⟨h.low,h.up,by have:=h.lt;simpa using this,h.routers.set (by omega) v,h.links.set (by omega) v,h.origins.of_block (Below.heap_setCell _ _ _ _ (by omega)),h.externals.of_block (Below.heap_setCell _ _ _ _ (by omega)),h.imports.set (by omega) v,h.filters.set (by omega) v⟩
theorem Copied.net {B : Nat} {w : World} {N l : Nat→Nat} {s : Ss} {g x f : R} {o e : List Int} (h : Copied B w N l s g o e x f) (hl : ∀ i,i < 6→l i≤maxLen) (hs : ∀ i,i < l 0→(s i).size≤maxLen) (ho : o.length=l 2) (he : e.length=l 3) : NetIs w (fun i=>some ⟨N i,0,none⟩) l s g o e x f :=
 ⟨h.routers.is (hl 0 (by decide)) hs,h.links.is (hl 1 (by decide)),IntRow.of_rowIs' ho (hl 2 (by decide)) h.origins,IntRow.of_rowIs' he (hl 3 (by decide)) h.externals,h.imports.is (hl 4 (by decide)),h.filters.is (hl 5 (by decide))⟩
set_option maxHeartbeats 3200000 in
theorem toNet (p : Nat→Option Addr) (l c : Nat→Nat) (s : Ss) (g : R) (o e : List Int) (x f : R) (w : World) (h : NetIs w p l s g o e x f) (hl : ∀ i,i < 6→l i≤1048576) :
  Calls Tryz.prog 6 #[netV p l c] w fun e' w'=>∃ N:Nat→Nat,e' = .returned (netV (fun i=>some ⟨N i,0,none⟩) l l)∧Below w.heap.size w w'∧Copied w.heap.size w' N l s g o e x f:=by
 have HN:=hid h
 have HL:=hid hl
 clear h hl
 have T0:TN w.heap.size (((w.alloc (.cells #[.slice (p 0) (l 0) (c 0),.slice (p 1) (l 1) (c 1),.slice (p 2) (l 2) (c 2),.slice (p 3) (l 3) (c 3),.slice (p 4) (l 4) (c 4),.slice (p 5) (l 5) (c 5)] 28)).alloc (.cells #[.slice none 0 0,.slice none 0 0,.slice none 0 0,.slice none 0 0,.slice none 0 0,.slice none 0 0] 41)).alloc (.cells #[.slice none 0 0,.slice none 0 0,.slice none 0 0,.slice none 0 0,.slice none 0 0,.slice none 0 0] 41)) p l c (fun _=>.slice none 0 0):=by
  refine ⟨fun i hi=>?_,fun i hi=>?_,fun i hi=>?_,fun i hi=>?_,fun i hi=>?_,by simp⟩
  all_goals
   match i,hi with
   | 0,_=>simp [go_sem]
   | 1,_=>simp [go_sem]
   | 2,_=>simp [go_sem]
   | 3,_=>simp [go_sem]
   | 4,_=>simp [go_sem]
   | 5,_=>simp [go_sem]
   | i+6,hi=>exact absurd hi (by omega)
 have HT0:=hid T0
 clear T0
 have H0:Hid (Below w.heap.size w (((w.alloc (.cells #[.slice (p 0) (l 0) (c 0),.slice (p 1) (l 1) (c 1),.slice (p 2) (l 2) (c 2),.slice (p 3) (l 3) (c 3),.slice (p 4) (l 4) (c 4),.slice (p 5) (l 5) (c 5)] 28)).alloc (.cells #[.slice none 0 0,.slice none 0 0,.slice none 0 0,.slice none 0 0,.slice none 0 0,.slice none 0 0] 41)).alloc (.cells #[.slice none 0 0,.slice none 0 0,.slice none 0 0,.slice none 0 0,.slice none 0 0,.slice none 0 0] 41))):=Bl
 unfold netV
 go_enter Tryz.func6,Tryz.ntmps6
 go_wp2_with fail
 refine (toStringS (p 0) (l 0) (c 0) s _ (HN.out.routers.below H0.out) (HL.out 0 (by decide))).mono ?_
 rintro e' w1 ⟨N0,rfl,hN,hb,hx⟩
 have HT1:=hid (HT0.out.below hb)
 have H1:=hid (H0.out.trans (hb.mono H0.out.size))
 have hN0:w.heap.size+1+1+1≤N0:=by simpa using hN
 have X0:=hid hx
 have hlt0:N0 < w1.heap.size:=hx.row.choose_spec.1.lt
 have G0:Hid (w.heap.size+1+1+1≤N0∧True):=by
  show _∧_
  exact ⟨hN0,trivial⟩
 have L0:=hid hlt0
 clear hN hb hx hlt0 hN0
 have fo:w1.cell? ⟨w.heap.size+1+1,0,none⟩=some (.slice none 0 0):=HT1.out.out 0 (by decide)
 have ff:=HT1.out.outF 0 (by decide)
 have fs:=HT1.out.size
 have fb:=HT1.out.box 1 (by decide)
 go_wp2_with fail
 refine (toLinkS (p 1) (l 1) (c 1) g _ (HN.out.links.below (H1.out.setCell (show w.heap.size≤w.heap.size+1+1 by omega) _)) (HL.out 1 (by decide))).mono ?_
 rintro e' w2 ⟨N1,rfl,hN,hb,hx⟩
 have HT2:=hid ((HT1.out.set 0 (by decide) (.slice (some ⟨N0,0,none⟩) (l 0) (l 0))).below hb)
 have H2:=hid ((H1.out.setCell (show w.heap.size≤w.heap.size+1+1 by omega) _).trans (hb.mono (H1.out.setCell (show w.heap.size≤w.heap.size+1+1 by omega) _).size))
 have hN1:w1.heap.size≤N1:=by simpa using hN
 have X0:=hid ((X0.out.set (x:=⟨w.heap.size+1+1,0,none⟩) (show w.heap.size+1+1 ≠ N0 by have:=G0.out;omega) _).below hb)
 have X1:=hid hx
 have hlt1:N1 < w2.heap.size:=hx.row.choose_spec.1.lt
 have G1:Hid (w.heap.size+1+1+1≤N1∧N0 < N1):=by
  show _∧_
  exact ⟨by have:=G0.out;have:=L0.out;omega,by have:=L0.out;omega⟩
 have L1:=hid hlt1
 clear hN hb hx hlt1 hN1
 clear fo ff fs fb
 have fo:w2.cell? ⟨w.heap.size+1+1,1,none⟩=some (.slice none 0 0):=HT2.out.out 1 (by decide)
 have ff:=HT2.out.outF 1 (by decide)
 have fs:=HT2.out.size
 have fb:=HT2.out.box 2 (by decide)
 go_wp2_with fail
 refine (toIntN (p 2) (l 2) (c 2) o _ (HN.out.origins.below (H2.out.setCell (show w.heap.size≤w.heap.size+1+1 by omega) _)) (HL.out 2 (by decide))).mono ?_
 rintro e' w3 ⟨N2,rfl,hN,hb,hx,-⟩
 have HT3:=hid ((HT2.out.set 1 (by decide) (.slice (some ⟨N1,0,none⟩) (l 1) (l 1))).below hb)
 have H3:=hid ((H2.out.setCell (show w.heap.size≤w.heap.size+1+1 by omega) _).trans (hb.mono (H2.out.setCell (show w.heap.size≤w.heap.size+1+1 by omega) _).size))
 have hN2:w2.heap.size≤N2:=by simpa using hN
 have X0:=hid ((X0.out.set (x:=⟨w.heap.size+1+1,1,none⟩) (show w.heap.size+1+1 ≠ N0 by have:=G0.out;omega) _).below hb)
 have X1:=hid ((X1.out.set (x:=⟨w.heap.size+1+1,1,none⟩) (show w.heap.size+1+1 ≠ N1 by have:=G1.out;omega) _).below hb)
 have X2:=hid hx
 have hlt2:N2 < w3.heap.size:=hx.lt
 have G2:Hid (w.heap.size+1+1+1≤N2∧N1 < N2):=by
  show _∧_
  exact ⟨by have:=G1.out;have:=L1.out;omega,by have:=L1.out;omega⟩
 have L2:=hid hlt2
 clear hN hb hx hlt2 hN2
 clear fo ff fs fb
 have fo:w3.cell? ⟨w.heap.size+1+1,2,none⟩=some (.slice none 0 0):=HT3.out.out 2 (by decide)
 have ff:=HT3.out.outF 2 (by decide)
 have fs:=HT3.out.size
 have fb:=HT3.out.box 3 (by decide)
 go_wp2_with fail
 refine (toIntN (p 3) (l 3) (c 3) e _ (HN.out.externals.below (H3.out.setCell (show w.heap.size≤w.heap.size+1+1 by omega) _)) (HL.out 3 (by decide))).mono ?_
 rintro e' w4 ⟨N3,rfl,hN,hb,hx,-⟩
 have HT4:=hid ((HT3.out.set 2 (by decide) (.slice (some ⟨N2,0,none⟩) (l 2) (l 2))).below hb)
 have H4:=hid ((H3.out.setCell (show w.heap.size≤w.heap.size+1+1 by omega) _).trans (hb.mono (H3.out.setCell (show w.heap.size≤w.heap.size+1+1 by omega) _).size))
 have hN3:w3.heap.size≤N3:=by simpa using hN
 have X0:=hid ((X0.out.set (x:=⟨w.heap.size+1+1,2,none⟩) (show w.heap.size+1+1 ≠ N0 by have:=G0.out;omega) _).below hb)
 have X1:=hid ((X1.out.set (x:=⟨w.heap.size+1+1,2,none⟩) (show w.heap.size+1+1 ≠ N1 by have:=G1.out;omega) _).below hb)
 have X2:=hid ((X2.out.of_block (Below.heap_setCell _ _ _ _ (show N2 ≠ w.heap.size+1+1 by have:=G2.out;omega))).of_block (hb.block _ (X2.out.of_block (Below.heap_setCell _ _ _ _ (show N2 ≠ w.heap.size+1+1 by have:=G2.out;omega))).lt))
 have X3:=hid hx
 have hlt3:N3 < w4.heap.size:=hx.lt
 have G3:Hid (w.heap.size+1+1+1≤N3∧N2 < N3):=by
  show _∧_
  exact ⟨by have:=G2.out;have:=L2.out;omega,by have:=L2.out;omega⟩
 have L3:=hid hlt3
 clear hN hb hx hlt3 hN3
 clear fo ff fs fb
 have fo:w4.cell? ⟨w.heap.size+1+1,3,none⟩=some (.slice none 0 0):=HT4.out.out 3 (by decide)
 have ff:=HT4.out.outF 3 (by decide)
 have fs:=HT4.out.size
 have fb:=HT4.out.box 4 (by decide)
 go_wp2_with fail
 refine (toImportS (p 4) (l 4) (c 4) x _ (HN.out.imports.below (H4.out.setCell (show w.heap.size≤w.heap.size+1+1 by omega) _)) (HL.out 4 (by decide))).mono ?_
 rintro e' w5 ⟨N4,rfl,hN,hb,hx⟩
 have HT5:=hid ((HT4.out.set 3 (by decide) (.slice (some ⟨N3,0,none⟩) (l 3) (l 3))).below hb)
 have H5:=hid ((H4.out.setCell (show w.heap.size≤w.heap.size+1+1 by omega) _).trans (hb.mono (H4.out.setCell (show w.heap.size≤w.heap.size+1+1 by omega) _).size))
 have hN4:w4.heap.size≤N4:=by simpa using hN
 have X0:=hid ((X0.out.set (x:=⟨w.heap.size+1+1,3,none⟩) (show w.heap.size+1+1 ≠ N0 by have:=G0.out;omega) _).below hb)
 have X1:=hid ((X1.out.set (x:=⟨w.heap.size+1+1,3,none⟩) (show w.heap.size+1+1 ≠ N1 by have:=G1.out;omega) _).below hb)
 have X2:=hid ((X2.out.of_block (Below.heap_setCell _ _ _ _ (show N2 ≠ w.heap.size+1+1 by have:=G2.out;omega))).of_block (hb.block _ (X2.out.of_block (Below.heap_setCell _ _ _ _ (show N2 ≠ w.heap.size+1+1 by have:=G2.out;omega))).lt))
 have X3:=hid ((X3.out.of_block (Below.heap_setCell _ _ _ _ (show N3 ≠ w.heap.size+1+1 by have:=G3.out;omega))).of_block (hb.block _ (X3.out.of_block (Below.heap_setCell _ _ _ _ (show N3 ≠ w.heap.size+1+1 by have:=G3.out;omega))).lt))
 have X4:=hid hx
 have hlt4:N4 < w5.heap.size:=hx.row.choose_spec.1.lt
 have G4:Hid (w.heap.size+1+1+1≤N4∧N3 < N4):=by
  show _∧_
  exact ⟨by have:=G3.out;have:=L3.out;omega,by have:=L3.out;omega⟩
 have L4:=hid hlt4
 clear hN hb hx hlt4 hN4
 clear fo ff fs fb
 have fo:w5.cell? ⟨w.heap.size+1+1,4,none⟩=some (.slice none 0 0):=HT5.out.out 4 (by decide)
 have ff:=HT5.out.outF 4 (by decide)
 have fs:=HT5.out.size
 have fb:=HT5.out.box 5 (by decide)
 go_wp2_with fail
 refine (toFilterS (p 5) (l 5) (c 5) f _ (HN.out.filters.below (H5.out.setCell (show w.heap.size≤w.heap.size+1+1 by omega) _)) (HL.out 5 (by decide))).mono ?_
 rintro e' w6 ⟨N5,rfl,hN,hb,hx⟩
 have HT6:=hid ((HT5.out.set 4 (by decide) (.slice (some ⟨N4,0,none⟩) (l 4) (l 4))).below hb)
 have H6:=hid ((H5.out.setCell (show w.heap.size≤w.heap.size+1+1 by omega) _).trans (hb.mono (H5.out.setCell (show w.heap.size≤w.heap.size+1+1 by omega) _).size))
 have hN5:w5.heap.size≤N5:=by simpa using hN
 have X0:=hid ((X0.out.set (x:=⟨w.heap.size+1+1,4,none⟩) (show w.heap.size+1+1 ≠ N0 by have:=G0.out;omega) _).below hb)
 have X1:=hid ((X1.out.set (x:=⟨w.heap.size+1+1,4,none⟩) (show w.heap.size+1+1 ≠ N1 by have:=G1.out;omega) _).below hb)
 have X2:=hid ((X2.out.of_block (Below.heap_setCell _ _ _ _ (show N2 ≠ w.heap.size+1+1 by have:=G2.out;omega))).of_block (hb.block _ (X2.out.of_block (Below.heap_setCell _ _ _ _ (show N2 ≠ w.heap.size+1+1 by have:=G2.out;omega))).lt))
 have X3:=hid ((X3.out.of_block (Below.heap_setCell _ _ _ _ (show N3 ≠ w.heap.size+1+1 by have:=G3.out;omega))).of_block (hb.block _ (X3.out.of_block (Below.heap_setCell _ _ _ _ (show N3 ≠ w.heap.size+1+1 by have:=G3.out;omega))).lt))
 have X4:=hid ((X4.out.set (x:=⟨w.heap.size+1+1,4,none⟩) (show w.heap.size+1+1 ≠ N4 by have:=G4.out;omega) _).below hb)
 have X5:=hid hx
 have hlt5:N5 < w6.heap.size:=hx.row.choose_spec.1.lt
 have G5:Hid (w.heap.size+1+1+1≤N5∧N4 < N5):=by
  show _∧_
  exact ⟨by have:=G4.out;have:=L4.out;omega,by have:=L4.out;omega⟩
 have L5:=hid hlt5
 clear hN hb hx hlt5 hN5
 clear fo ff fs fb
 have fo:w6.cell? ⟨w.heap.size+1+1,5,none⟩=some (.slice none 0 0):=HT6.out.out 5 (by decide)
 have ff:=HT6.out.outF 5 (by decide)
 have fs:=HT6.out.size
 have r0:=HT6.out.res 0 (by decide)
 have r1:=HT6.out.res 1 (by decide)
 have r2:=HT6.out.res 2 (by decide)
 have r3:=HT6.out.res 3 (by decide)
 have r4:=HT6.out.res 4 (by decide)
 have r5:=HT6.out.res 5 (by decide)
 have s0:=HT6.out.resF 0 (by decide)
 have s1:=HT6.out.resF 1 (by decide)
 have s2:=HT6.out.resF 2 (by decide)
 have s3:=HT6.out.resF 3 (by decide)
 have s4:=HT6.out.resF 4 (by decide)
 have s5:=HT6.out.resF 5 (by decide)
 have o0:w6.cell? ⟨w.heap.size+1+1,0,none⟩=some (.slice (some ⟨N0,0,none⟩) (l 0) (l 0)):=HT6.out.out 0 (by decide)
 have o1:w6.cell? ⟨w.heap.size+1+1,1,none⟩=some (.slice (some ⟨N1,0,none⟩) (l 1) (l 1)):=HT6.out.out 1 (by decide)
 have o2:w6.cell? ⟨w.heap.size+1+1,2,none⟩=some (.slice (some ⟨N2,0,none⟩) (l 2) (l 2)):=HT6.out.out 2 (by decide)
 have o3:w6.cell? ⟨w.heap.size+1+1,3,none⟩=some (.slice (some ⟨N3,0,none⟩) (l 3) (l 3)):=HT6.out.out 3 (by decide)
 have o4:w6.cell? ⟨w.heap.size+1+1,4,none⟩=some (.slice (some ⟨N4,0,none⟩) (l 4) (l 4)):=HT6.out.out 4 (by decide)
 go_wp2
 refine bodyPost_ret (v:=.agg #[.slice (some ⟨N0,0,none⟩) (l 0) (l 0),.slice (some ⟨N1,0,none⟩) (l 1) (l 1),.slice (some ⟨N2,0,none⟩) (l 2) (l 2),.slice (some ⟨N3,0,none⟩) (l 3) (l 3),.slice (some ⟨N4,0,none⟩) (l 4) (l 4),.slice (some ⟨N5,0,none⟩) (l 5) (l 5)]) (by simp [results,Tryz.results6,go_sem,r0,r1,r2,r3,r4,r5]) rfl ⟨fun i=>match i with | 0=>N0 | 1=>N1 | 2=>N2 | 3=>N3 | 4=>N4 | _=>N5,rfl,?_,?_⟩
 · exact (((((((H6.out.setCell (by simp;omega) _).setCell (by simp) _).setCell (by simp) _).setCell (by simp) _).setCell (by simp) _).setCell (by simp) _).setCell (by simp) _)
 · have g0:=G0.out
   have g1:=G1.out
   have g2:=G2.out
   have g3:=G3.out
   have g4:=G4.out
   have g5:=G5.out
   have HC:Copied w.heap.size w6 (fun i=>match i with | 0=>N0 | 1=>N1 | 2=>N2 | 3=>N3 | 4=>N4 | _=>N5) l s g o e x f :=
    ⟨show w.heap.size≤N0 by omega,⟨g1.2,g2.2,g3.2,g4.2,g5.2⟩,L5.out,X0.out,X1.out,X2.out,X3.out,X4.out,X5.out⟩
   exact (((((((HC.set (show w.heap.size+1+1 < N0 by omega) _).set (show w.heap.size+1 < N0 by omega) _).set (show w.heap.size+1 < N0 by omega) _).set (show w.heap.size+1 < N0 by omega) _).set (show w.heap.size+1 < N0 by omega) _).set (show w.heap.size+1 < N0 by omega) _).set (show w.heap.size+1 < N0 by omega) _)
set_option maxHeartbeats 1600000 in
theorem eqNet (p q : Nat→Option Addr) (l c d : Nat→Nat) (s : Ss) (g : R) (o e : List Int) (x f : R) (w : World) (h : NetIs w p l s g o e x f) (h' : NetIs w q l s g o e x f) :
  Calls Tryz.prog 10 #[netV p l c,netV q l d] w fun e' w'=>e' = .returned (.bool true)∧Below w.heap.size w w' := by
 have HN:=hid h
 have HN' := hid h'
 clear h h'
 have C1:∀ w8:World,Below (((w.alloc (.cells #[.slice (p 0) (l 0) (c 0),.slice (p 1) (l 1) (c 1),.slice (p 2) (l 2) (c 2),.slice (p 3) (l 3) (c 3),.slice (p 4) (l 4) (c 4),.slice (p 5) (l 5) (c 5)] 41)).alloc (.cells #[.slice (q 0) (l 0) (d 0),.slice (q 1) (l 1) (d 1),.slice (q 2) (l 2) (d 2),.slice (q 3) (l 3) (d 3),.slice (q 4) (l 4) (d 4),.slice (q 5) (l 5) (d 5)] 41))).heap.size ((w.alloc (.cells #[.slice (p 0) (l 0) (c 0),.slice (p 1) (l 1) (c 1),.slice (p 2) (l 2) (c 2),.slice (p 3) (l 3) (c 3),.slice (p 4) (l 4) (c 4),.slice (p 5) (l 5) (c 5)] 41)).alloc (.cells #[.slice (q 0) (l 0) (d 0),.slice (q 1) (l 1) (d 1),.slice (q 2) (l 2) (d 2),.slice (q 3) (l 3) (d 3),.slice (q 4) (l 4) (d 4),.slice (q 5) (l 5) (d 5)] 41)) w8→(w8.cell? ⟨w.heap.size,0,none⟩=some (.slice (p 0) (l 0) (c 0))∧w8.cell? ⟨w.heap.size,1,none⟩=some (.slice (p 1) (l 1) (c 1))∧w8.cell? ⟨w.heap.size,2,none⟩=some (.slice (p 2) (l 2) (c 2))∧w8.cell? ⟨w.heap.size,3,none⟩=some (.slice (p 3) (l 3) (c 3))∧w8.cell? ⟨w.heap.size,4,none⟩=some (.slice (p 4) (l 4) (c 4))∧w8.cell? ⟨w.heap.size,5,none⟩=some (.slice (p 5) (l 5) (c 5))∧w8.cell? ⟨w.heap.size+1,0,none⟩=some (.slice (q 0) (l 0) (d 0))∧w8.cell? ⟨w.heap.size+1,1,none⟩=some (.slice (q 1) (l 1) (d 1))∧w8.cell? ⟨w.heap.size+1,2,none⟩=some (.slice (q 2) (l 2) (d 2))∧w8.cell? ⟨w.heap.size+1,3,none⟩=some (.slice (q 3) (l 3) (d 3))∧w8.cell? ⟨w.heap.size+1,4,none⟩=some (.slice (q 4) (l 4) (d 4))∧w8.cell? ⟨w.heap.size+1,5,none⟩=some (.slice (q 5) (l 5) (d 5)))∧NetIs w8 p l s g o e x f∧NetIs w8 q l s g o e x f∧Below w.heap.size w w8 :=
  fun w8 hb=>⟨⟨keep hb (by simp [go_sem]),keep hb (by simp [go_sem]),keep hb (by simp [go_sem]),keep hb (by simp [go_sem]),keep hb (by simp [go_sem]),keep hb (by simp [go_sem]),keep hb (by simp [go_sem]),keep hb (by simp [go_sem]),keep hb (by simp [go_sem]),keep hb (by simp [go_sem]),keep hb (by simp [go_sem]),keep hb (by simp [go_sem])⟩,(HN.out.below Bl).below hb,(HN'.out.below Bl).below hb,(show Below w.heap.size w _ from Bl).trans (hb.mono (by simp;omega))⟩
 have HC1:=hid C1
 clear C1
 unfold netV
 have H0:Hid (Below (((w.alloc (.cells #[.slice (p 0) (l 0) (c 0),.slice (p 1) (l 1) (c 1),.slice (p 2) (l 2) (c 2),.slice (p 3) (l 3) (c 3),.slice (p 4) (l 4) (c 4),.slice (p 5) (l 5) (c 5)] 41)).alloc (.cells #[.slice (q 0) (l 0) (d 0),.slice (q 1) (l 1) (d 1),.slice (q 2) (l 2) (d 2),.slice (q 3) (l 3) (d 3),.slice (q 4) (l 4) (d 4),.slice (q 5) (l 5) (d 5)] 41))).heap.size ((w.alloc (.cells #[.slice (p 0) (l 0) (c 0),.slice (p 1) (l 1) (c 1),.slice (p 2) (l 2) (c 2),.slice (p 3) (l 3) (c 3),.slice (p 4) (l 4) (c 4),.slice (p 5) (l 5) (c 5)] 41)).alloc (.cells #[.slice (q 0) (l 0) (d 0),.slice (q 1) (l 1) (d 1),.slice (q 2) (l 2) (d 2),.slice (q 3) (l 3) (d 3),.slice (q 4) (l 4) (d 4),.slice (q 5) (l 5) (d 5)] 41)) ((w.alloc (.cells #[.slice (p 0) (l 0) (c 0),.slice (p 1) (l 1) (c 1),.slice (p 2) (l 2) (c 2),.slice (p 3) (l 3) (c 3),.slice (p 4) (l 4) (c 4),.slice (p 5) (l 5) (c 5)] 41)).alloc (.cells #[.slice (q 0) (l 0) (d 0),.slice (q 1) (l 1) (d 1),.slice (q 2) (l 2) (d 2),.slice (q 3) (l 3) (d 3),.slice (q 4) (l 4) (d 4),.slice (q 5) (l 5) (d 5)] 41))):=Below.refl _ _
 have M0:=hid (HC1.out _ H0.out).2
 have dO:decide (o=o)=true:=decide_eq_true rfl
 have dE:decide (e=e)=true:=decide_eq_true rfl
 go_enter Tryz.func10,Tryz.ntmps10
 go_wp2_with fail
 refine (eqStringS (p 0) (q 0) (l 0) (c 0) (d 0) s _ M0.out.1.routers M0.out.2.1.routers).mono ?_
 rintro e' w1 ⟨rfl,n,hw⟩
 have hb:=below_drewN ((w.alloc (.cells #[.slice (p 0) (l 0) (c 0),.slice (p 1) (l 1) (c 1),.slice (p 2) (l 2) (c 2),.slice (p 3) (l 3) (c 3),.slice (p 4) (l 4) (c 4),.slice (p 5) (l 5) (c 5)] 41)).alloc (.cells #[.slice (q 0) (l 0) (d 0),.slice (q 1) (l 1) (d 1),.slice (q 2) (l 2) (d 2),.slice (q 3) (l 3) (d 3),.slice (q 4) (l 4) (d 4),.slice (q 5) (l 5) (d 5)] 41)) n
 rw [← hw] at hb
 clear hw
 have H1:=hid (H0.out.trans (hb.mono H0.out.size))
 have M1:=hid (HC1.out _ H1.out).2
 obtain ⟨⟨-,fa,-,-,-,-,-,fb,-,-,-,-⟩,-⟩:=HC1.out _ H1.out
 clear hb
 go_wp2_with fail
 refine (eqLinkS (p 1) (q 1) (l 1) (c 1) (d 1) g _ M1.out.1.links M1.out.2.1.links).mono ?_
 rintro e' w2 ⟨rfl,hb⟩
 have H2:=hid (H1.out.trans (hb.mono H1.out.size))
 have M2:=hid (HC1.out _ H2.out).2
 clear fa fb
 obtain ⟨⟨-,-,fa,-,-,-,-,-,fb,-,-,-⟩,-⟩:=HC1.out _ H2.out
 clear hb
 go_wp2_with fail
 refine (eqIntS (p 2) (q 2) (l 2) (l 2) (c 2) (d 2) o o _ M2.out.1.origins M2.out.2.1.origins).mono ?_
 rintro e' w3 ⟨rfl,n,hw⟩
 have hb:=below_drewN w2 n
 rw [← hw] at hb
 clear hw
 have H3:=hid (H2.out.trans (hb.mono H2.out.size))
 have M3:=hid (HC1.out _ H3.out).2
 clear fa fb
 obtain ⟨⟨-,-,-,fa,-,-,-,-,-,fb,-,-⟩,-⟩:=HC1.out _ H3.out
 clear hb
 go_wp2_with fail
 refine (eqIntS (p 3) (q 3) (l 3) (l 3) (c 3) (d 3) e e _ M3.out.1.externals M3.out.2.1.externals).mono ?_
 rintro e' w4 ⟨rfl,n,hw⟩
 have hb:=below_drewN w3 n
 rw [← hw] at hb
 clear hw
 have H4:=hid (H3.out.trans (hb.mono H3.out.size))
 have M4:=hid (HC1.out _ H4.out).2
 clear fa fb
 obtain ⟨⟨-,-,-,-,fa,-,-,-,-,-,fb,-⟩,-⟩:=HC1.out _ H4.out
 clear hb
 go_wp2_with fail
 refine (eqImportS (p 4) (q 4) (l 4) (c 4) (d 4) x _ M4.out.1.imports M4.out.2.1.imports).mono ?_
 rintro e' w5 ⟨rfl,hb⟩
 have H5:=hid (H4.out.trans (hb.mono H4.out.size))
 have M5:=hid (HC1.out _ H5.out).2
 clear fa fb
 obtain ⟨⟨-,-,-,-,-,fa,-,-,-,-,-,fb⟩,-⟩:=HC1.out _ H5.out
 clear hb
 go_wp2_with fail
 refine (eqFilterS (p 5) (q 5) (l 5) (c 5) (d 5) f _ M5.out.1.filters M5.out.2.1.filters).mono ?_
 rintro e' w6 ⟨rfl,hb⟩
 have H6:=hid (H5.out.trans (hb.mono H5.out.size))
 have M6:=hid (HC1.out _ H6.out).2
 clear hb
 go_wp2
 go_ret
 exact ⟨rfl,M6.out.2.2⟩
end Go.Proofs.YtajhklklbfnmpaaGreat.netWhole
