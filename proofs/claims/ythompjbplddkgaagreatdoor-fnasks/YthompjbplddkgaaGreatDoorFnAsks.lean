/- For all codes: the line drawn out of them is read alike by both sides, and where it is a question, its verdict's text is the same; the library's tables are as their initialisers lay them. -/
import Derived.Test.YthompjbplddkgaaGreatDoorPart37
import Derived.Test.YthompjbplddkgaaGreatDoorSayFace
import Derived.Test.YthompjbplddkgaaGreatDoorPart50
import Derived.Test.YthompjbplddkgaaGreatDoorCards
import Derived.Test.YthompjbplddkgaaGreatDoorTie
import Derived.OpenVars
import Derived.SevenTiedAt
import Derived.Deep.DeepHandedRow
import Derived.Lib.LaidTab
import Derived.LaidSub
import Derived.Shelf.Vars
import GoSem.PinnedTables
set_option linter.unusedVariables false
namespace Go.Proofs.YthompjbplddkgaaGreatDoor.fnAsks
open Go.ChangeShapes Go.WideShapes Go.ChangeAt Go.RowKit Go.Deep Go.Joins base args byteArgs netSem netMath netBytes netLines netOf source askWords askSem askMath askFace askFaceS askOf askVer sayText sayFace propSem
set_option linter.unusedSimpArgs false
theorem rd_eq {n:Nat} (h:n≤65536) (nm:Wd→Int) (W:List Wd):rdA n true nm W=askA nm W:=by
 unfold rdA
 rw [if_neg (by omega),if_pos rfl]
set_option maxHeartbeats 6400000 in
set_option maxRecDepth 8000 in
theorem walk (a0 a1:Option Addr) (len0 len1 cap0 cap1:Nat) (w:World) (hby0:Bytes w a0 len0) (hby1:Bytes w a1 len1) (hm0:len0≤maxLen) (hm1:len1≤maxLen) (ht:TabW w) (m:Int) (hm:w.cell? ⟨1,0,none⟩=some (.int .i64 m)) :
  Calls Tryz.prog 3 #[.slice a0 len0 cap0,.slice a1 len1 cap1] w fun e w'=>e=.returned (.bool true)∧Below w.heap.size w w' := by
 unfold maxLen at hm0 hm1
 have HBy0:=hid hby0
 have HBy1:=hid hby1
 have HT:=hid ht
 have HM:=hid hm
 clear hby0 hby1 ht hm
 by_cases h0:1048576<len0
 · go_enter Tryz.func3,Tryz.ntmps3
   go_wp2
   go_ret
   exact ⟨rfl,Bl⟩
 have hl0:len0≤1048576:=by omega
 have hl0':(len0:Int)≤1048576:=by omega
 by_cases h1:1048576<len1
 · go_enter Tryz.func3,Tryz.ntmps3
   go_wp2
   go_ret
   exact ⟨rfl,Bl⟩
 have hl1:len1≤1048576:=by omega
 have hl1':(len1:Int)≤1048576:=by omega
 go_enter Tryz.func3,Tryz.ntmps3
 go_wp2_with fail
 refine (netOf_spec a0 len0 cap0 _ HBy0.out hl0).mono ?_
 rintro e9 w1 ⟨p,l,c,g,o,e,x,f,rfl,hN,hB,⟨hc0,hc1⟩,hb1⟩
 have HB1:=hid hb1
 obtain ⟨hr1,hr4⟩:=netB_in hB
 have HAs:Hid (∀ w8,Below w1.heap.size w1 w8→Calls Tryz.prog 5 #[.slice a1 len1 cap1,netV p l c] w8 fun e' w'=>(∃ t:ByteArray,e' = .returned (.string t)∧t.size≤6000)∧Below w8.heap.size w8 w'):=hid (fun w8 hb=>by
  obtain ⟨bb,off,hp,-⟩:=hN.routers.cell 0 (by omega)
  refine askOf_spec a1 len1 cap1 bb off p l c w8 (fun i hi=>by obtain ⟨bb,off,e,x,hx,hc⟩:=HBy1.out i hi;exact ⟨bb,off,e,x,hx,keep (hb1.trans (hb.mono hb1.size)) hc⟩) hl1 hp (fun i hi=>?_) hr1 (by omega)
  obtain ⟨b',off',hp',hc'⟩:=hN.routers.cell i hi
  rw [hp] at hp'
  cases hp'
  exact ⟨_,keep hb hc',(good hB).name i hi⟩)
 have HRI:Hid (∀ (t:ByteArray),t.size≤6000→∀ w8,Below w1.heap.size w1 w8→Calls Tryz.prog 6 #[netV p l c,.string t] w8 fun e' w'=>e' = .returned (askV (askA (fun x=>nameAt sN (l 0) (piece x)) (wordsL t.data.toList)))∧Below w8.heap.size w8 w'):=hid (fun t ht w8 hb=>by
  have h9:=readAsk_impl p l c sN g o e x f t m w8 (hN.below hb) hc0 hc1 (by omega) (keep (hb1.trans (hb.mono hb1.size)) HM.out)
  rw [hB,rd_eq (by omega)] at h9
  exact h9)
 have HRS:Hid (∀ (t:ByteArray),t.size≤6000→∀ w8,Below w1.heap.size w1 w8→Calls Tryz.prog 7 #[netV p l c,.string t] w8 fun e' w'=>e' = .returned (askV (askA (fun x=>nameAt sN (l 0) (piece x)) (wordsL t.data.toList)))∧Below w8.heap.size w8 w'):=hid (fun t ht w8 hb=>by
  have h9:=readAsk_spec p l c sN g o e x f t w8 (hN.below hb) hc0 hc1 (by omega)
  rw [hB,rd_eq (by omega)] at h9
  exact h9)
 have HRt:Hid (∀ W:List Wd,Right (l 0) (askA (fun x=>nameAt sN (l 0) (piece x)) W)):=hid (fun W=>ask_right (fun y=>(firstAt_bounds _ _).2) W)
 have HVe:Hid (∀ (k0 k1 k2 k3:Int) (kN:Nat),propB true (l 0) k0 k1 k2 k3=true→kN≤1→∀ w8,Below w1.heap.size w1 w8→Calls Tryz.prog 8 #[netV p l c,.agg #[.int .i64 k0,.int .i64 k1,.int .i64 k2,.int .i64 k3],.int .i64 (kN:Int)] w8 fun e' w'=>∃ hv n D E V pt x1 x2 x3 x4 x5 x6,e' = .returned (.tuple #[VerV hv n D E V pt x1 x2 x3 x4 x5 x6,.int .i64 0])∧(∀ w9,Below w'.heap.size w' w9→Calls Tryz.prog 9 #[netV p l c,VerV hv n D E V pt x1 x2 x3 x4 x5 x6] w9 fun e' w'=>e' = .returned (.tuple #[.string (sayB l sN g e hv n D E V pt),.int .i64 0])∧Below w9.heap.size w9 w')∧(∀ w9,Below w'.heap.size w' w9→Calls Tryz.prog 10 #[netV p l c,VerV hv n D E V pt x1 x2 x3 x4 x5 x6] w9 fun e' w'=>e' = .returned (.tuple #[.string (sayB l sN g e hv n D E V pt),.int .i64 0])∧Below w9.heap.size w9 w')∧Below w8.heap.size w8 w'):=hid (fun k0 k1 k2 k3 kN hp hk w8 hb=>by
  refine (verify_right p l c sN g o e x f k0 k1 k2 k3 kN w8 (hN.below hb) hc0 hc1 (by rw [hB];exact hp) hk).mono ?_
  rintro e' w' ⟨hv,n,D,E,V,pt,x1,x2,x3,x4,x5,x6,rfl,hs,oD,oE,oV,hb2⟩
  have rD:=bools_row oD rfl
  have rE:=ints_row oE rfl
  have rV:=ints_row oV rfl
  have hb12:Below w1.heap.size w1 w' := hb.trans (hb2.mono hb.size)
  have hN2:=hN.below hb12
  have ht2:=HT.out.below (hb1.trans (hb12.mono hb1.size))
  have q1:=(good hB).l1
  have q3:=(good hB).l3
  have hfew:D.length≤4096∧E.length≤4096∧V.length≤4096:=by
   cases hv with
   | true=>obtain ⟨e1,e2,e3⟩:=hs.emp rfl;omega
   | false=>have e1:=hs.d rfl;have e2:=hs.e rfl;have e3:=hs.v rfl;omega
  have z1:=hs.n1
  have z2:=hs.p1
  refine ⟨hv,n,D,E,V,pt,x1,x2,x3,x4,x5,x6,rfl,fun w9 hb9=>?_,fun w9 hb9=>?_,hb2⟩
  · exact vtext_impl p l c sN g o e x f w9 hv n pt D E V x1 x2 x3 x4 x5 x6 (hN2.below hb9) hc0 hc1 hB hs.n0 (by omega) hs.p0 (by omega) hs.ez (fun h9=>⟨hs.d h9,hs.e h9,hs.v h9,hs.vz h9⟩) (rD.below hb9) (rE.below hb9) (rV.below hb9) (ht2.below hb9)
  · exact vtext_spec p l c sN g o e x f w9 hv n pt D E V x1 x2 x3 x4 x5 x6 (hN2.below hb9) hc0 hc1 hB hs.n0 (by omega) hs.p0 (by omega) hs.ez (fun h9=>⟨hs.d h9,hs.e h9,hs.v h9,hs.vz h9⟩) (rD.below hb9) (rE.below hb9) (rV.below hb9) hfew)
 have HPr:Hid (∀ (k0 k1 k2 k3:Int),propB true (l 0) k0 k1 k2 k3=true→∀ w8,Below w1.heap.size w1 w8→Calls Tryz.prog 11 #[netV p l c,.agg #[.int .i64 k0,.int .i64 k1,.int .i64 k2,.int .i64 k3]] w8 fun e' w'=>e' = .returned (.bool true)∧Below w8.heap.size w8 w'):=hid (fun k0 k1 k2 k3 hp w8 hb=>by
  have h9:=propSpec.prop_spec p l c sN g o e x f k0 k1 k2 k3 w8 (hN.below hb) hc0 hc1
  rw [hB,hp] at h9
  exact h9)
 clear hN hB hr1 hr4 hb1
 unfold netV at HAs HRI HRS HVe HPr
 unfold netV
 have CN:Hid (∀ w8:World,Below (w1.alloc (.cells #[.slice (p 0) (l 0) (c 0),.slice (p 1) (l 1) (c 1),.slice (p 2) (l 2) (c 2),.slice (p 3) (l 3) (c 3),.slice (p 4) (l 4) (c 4),.slice (p 5) (l 5) (c 5)] 29)).heap.size (w1.alloc (.cells #[.slice (p 0) (l 0) (c 0),.slice (p 1) (l 1) (c 1),.slice (p 2) (l 2) (c 2),.slice (p 3) (l 3) (c 3),.slice (p 4) (l 4) (c 4),.slice (p 5) (l 5) (c 5)] 29)) w8→(w8.cell? ⟨w1.heap.size,0,none⟩=some (.slice (p 0) (l 0) (c 0))∧w8.cell? ⟨w1.heap.size,1,none⟩=some (.slice (p 1) (l 1) (c 1))∧w8.cell? ⟨w1.heap.size,2,none⟩=some (.slice (p 2) (l 2) (c 2))∧w8.cell? ⟨w1.heap.size,3,none⟩=some (.slice (p 3) (l 3) (c 3))∧w8.cell? ⟨w1.heap.size,4,none⟩=some (.slice (p 4) (l 4) (c 4))∧w8.cell? ⟨w1.heap.size,5,none⟩=some (.slice (p 5) (l 5) (c 5)))∧Below w1.heap.size w1 w8):=hid (fun w8 hb=>⟨⟨keep hb (by simp [go_sem]),keep hb (by simp [go_sem]),keep hb (by simp [go_sem]),keep hb (by simp [go_sem]),keep hb (by simp [go_sem]),keep hb (by simp [go_sem])⟩,(show Below w1.heap.size w1 _ from Bl).trans (hb.mono (by simp))⟩)
 go_wp2_with fail
 generalize w1.alloc (.cells #[.slice (p 0) (l 0) (c 0),.slice (p 1) (l 1) (c 1),.slice (p 2) (l 2) (c 2),.slice (p 3) (l 3) (c 3),.slice (p 4) (l 4) (c 4),.slice (p 5) (l 5) (c 5)] 29)=w2 at *
 refine (HAs.out w2 (CN.out _ (Below.refl _ _)).2).mono ?_
 rintro e9 w3 ⟨⟨t,rfl,hts⟩,hb3⟩
 have H3:=hid hb3
 have HTs:=hid hts
 clear hb3 hts HAs
 obtain ⟨⟨r0,r1,r2,r3,r4,r5⟩,-⟩:=CN.out _ H3.out
 go_wp2_with fail
 refine (HRI.out t HTs.out w3 (CN.out _ H3.out).2).mono ?_
 rintro e9 w4 ⟨rfl,hb4⟩
 have HRt' := HRt.out (wordsL t.data.toList)
 have HSt:=hid (HRS.out t HTs.out)
 generalize askA (fun x=>nameAt sN (l 0) (piece x)) (wordsL t.data.toList)=AN at *
 obtain ⟨k0,k1,k2,k3,k4,k5⟩:=AN
 have HRT:=hid HRt'
 have H4:Hid (Below w2.heap.size w2 w4):=hid (H3.out.trans (hb4.mono H3.out.size))
 clear hb4 H3 HRt' HRt HRI HRS r0 r1 r2 r3 r4 r5
 simp only [askV] at HSt ⊢
 obtain ⟨⟨r0,r1,r2,r3,r4,r5⟩,-⟩:=CN.out _ H4.out
 have z1:=World.block_lt_of_cell? _ _ r0
 simp only at z1
 have CP:Hid (∀ w8:World,Below (w4.alloc (.cells #[.int .i64 k0,.int .i64 k1,.int .i64 k2,.int .i64 k3] 33)).heap.size (w4.alloc (.cells #[.int .i64 k0,.int .i64 k1,.int .i64 k2,.int .i64 k3] 33)) w8→(w8.cell? ⟨w4.heap.size,0,none⟩=some (.int .i64 k0)∧w8.cell? ⟨w4.heap.size,1,none⟩=some (.int .i64 k1)∧w8.cell? ⟨w4.heap.size,2,none⟩=some (.int .i64 k2)∧w8.cell? ⟨w4.heap.size,3,none⟩=some (.int .i64 k3))∧Below w2.heap.size w2 w8):=hid (fun w8 hb=>⟨⟨keep hb (by simp [go_sem]),keep hb (by simp [go_sem]),keep hb (by simp [go_sem]),keep hb (by simp [go_sem])⟩,H4.out.trans ((show Below w4.heap.size w4 _ from (show Below w4.heap.size w4 (w4.alloc (.cells #[.int .i64 k0,.int .i64 k1,.int .i64 k2,.int .i64 k3] 33)) from Bl).trans (hb.mono (by simp))).mono H4.out.size)⟩)
 go_wp2_with fail
 generalize w4.alloc (.cells #[.int .i64 k0,.int .i64 k1,.int .i64 k2,.int .i64 k3] 33)=w5 at *
 refine (HSt.out w5 (CN.out _ (CP.out w5 (Below.refl _ _)).2).2).mono ?_
 rintro e9 w6 ⟨rfl,hb6⟩
 have H6:=hid hb6
 clear hb6 r0 r1 r2 r3 r4 r5 z1 HSt
 obtain ⟨⟨s0,s1,s2,s3⟩,hbn⟩:=CP.out _ H6.out
 obtain ⟨⟨r0,r1,r2,r3,r4,r5⟩,-⟩:=CN.out _ hbn
 have z1:=World.block_lt_of_cell? _ _ r0
 have z2:=World.block_lt_of_cell? _ _ s0
 simp only at z1 z2
 have CQ:Hid (∀ w8:World,Below (w6.alloc (.cells #[.int .i64 k0,.int .i64 k1,.int .i64 k2,.int .i64 k3] 33)).heap.size (w6.alloc (.cells #[.int .i64 k0,.int .i64 k1,.int .i64 k2,.int .i64 k3] 33)) w8→(w8.cell? ⟨w6.heap.size,0,none⟩=some (.int .i64 k0)∧w8.cell? ⟨w6.heap.size,1,none⟩=some (.int .i64 k1)∧w8.cell? ⟨w6.heap.size,2,none⟩=some (.int .i64 k2)∧w8.cell? ⟨w6.heap.size,3,none⟩=some (.int .i64 k3))∧Below w5.heap.size w5 w8):=hid (fun w8 hb=>⟨⟨keep hb (by simp [go_sem]),keep hb (by simp [go_sem]),keep hb (by simp [go_sem]),keep hb (by simp [go_sem])⟩,H6.out.trans ((show Below w6.heap.size w6 _ from (show Below w6.heap.size w6 (w6.alloc (.cells #[.int .i64 k0,.int .i64 k1,.int .i64 k2,.int .i64 k3] 33)) from Bl).trans (hb.mono (by simp))).mono H6.out.size)⟩)
 have d0:(k0 != k0)=false:=by simp
 have d1:(k1 != k1)=false:=by simp
 have d2:(k2 != k2)=false:=by simp
 have d3:(k3 != k3)=false:=by simp
 have d4:(k4 != k4)=false:=by simp
 have d5:(k5 != k5)=false:=by simp
 clear hbn
 by_cases hk:k5=0
 · subst hk
   have hPr:=HRT.out rfl
   have HPk:=hid (HPr.out k0 k1 k2 k3 (prop_right hPr))
   have hk4:0≤k4∧k4≤2:=hPr.2.2.2.1
   obtain ⟨kN,hkN⟩:∃ kN:Nat,min k4 1=(kN:Int):=⟨(min k4 1).toNat,by omega⟩
   have HVk:=hid (HVe.out k0 k1 k2 k3 kN (prop_right hPr) (by omega))
   have HkN:=hid hkN
   clear HVe HPr hPr hk4 HRT hkN
   go_wp2_with fail
   rw [HkN.out]
   clear s0 s1 s2 s3 r0 r1 r2 r3 r4 r5 z1 z2
   generalize w6.alloc (.cells #[.int .i64 k0,.int .i64 k1,.int .i64 k2,.int .i64 k3] 33)=w7 at *
   refine (HVk.out w7 (CN.out _ (CP.out _ (CQ.out w7 (Below.refl _ _)).2).2).2).mono ?_
   rintro e9 w8 ⟨hv,n,D,E,V,pt,x1,x2,x3,x4,x5,x6,rfl,hti,hts,hb8⟩
   unfold VerV at hti hts ⊢
   have HTi:=hid hti
   have HTs:=hid hts
   have H8:=hid hb8
   clear hti hts hb8 HVk HkN
   obtain ⟨⟨s0,s1,s2,s3⟩,hbn⟩:=CP.out _ (CQ.out _ H8.out).2
   obtain ⟨⟨r0,r1,r2,r3,r4,r5⟩,-⟩:=CN.out _ hbn
   have z1:=World.block_lt_of_cell? _ _ r0
   have z2:=World.block_lt_of_cell? _ _ s0
   simp only at z1 z2
   clear hbn
   obtain ⟨nD,hnD⟩:∃ q,D.length=q:=⟨_,rfl⟩
   obtain ⟨nE,hnE⟩:∃ q,E.length=q:=⟨_,rfl⟩
   obtain ⟨nV,hnV⟩:∃ q,V.length=q:=⟨_,rfl⟩
   rw [hnD,hnE,hnV] at HTi HTs ⊢
   obtain ⟨TX,hTX⟩:∃ q,sayB l sN g e hv n D E V pt=q:=⟨_,rfl⟩
   rw [hTX] at HTi HTs
   clear hnD hnE hnV hTX
   have qx:(TX.toList == TX.toList)=true:=by simp
   have CV:Hid (∀ w9:World,Below (w8.alloc (.cells #[.bool hv,.int .i64 n,.slice x1 nD x4,.slice x2 nE x5,.slice x3 nV x6,.int .i64 pt] 38)).heap.size (w8.alloc (.cells #[.bool hv,.int .i64 n,.slice x1 nD x4,.slice x2 nE x5,.slice x3 nV x6,.int .i64 pt] 38)) w9→(w9.cell? ⟨w8.heap.size,0,none⟩=some (.bool hv)∧w9.cell? ⟨w8.heap.size,1,none⟩=some (.int .i64 n)∧w9.cell? ⟨w8.heap.size,2,none⟩=some (.slice x1 nD x4)∧w9.cell? ⟨w8.heap.size,3,none⟩=some (.slice x2 nE x5)∧w9.cell? ⟨w8.heap.size,4,none⟩=some (.slice x3 nV x6)∧w9.cell? ⟨w8.heap.size,5,none⟩=some (.int .i64 pt))∧Below w8.heap.size w8 w9):=hid (fun w9 hb=>⟨⟨keep hb (by simp [go_sem]),keep hb (by simp [go_sem]),keep hb (by simp [go_sem]),keep hb (by simp [go_sem]),keep hb (by simp [go_sem]),keep hb (by simp [go_sem])⟩,(show Below w8.heap.size w8 (w8.alloc (.cells #[.bool hv,.int .i64 n,.slice x1 nD x4,.slice x2 nE x5,.slice x3 nV x6,.int .i64 pt] 38)) from Bl).trans (hb.mono (by simp))⟩)
   go_wp2_with fail
   generalize w8.alloc (.cells #[.bool hv,.int .i64 n,.slice x1 nD x4,.slice x2 nE x5,.slice x3 nV x6,.int .i64 pt] 38)=w9 at *
   refine (HTi.out w9 (CV.out _ (Below.refl _ _)).2).mono ?_
   rintro e9 wa ⟨rfl,hba⟩
   have Ha:=hid hba
   clear hba r0 r1 r2 r3 r4 r5 s0 s1 s2 s3 z1 z2
   obtain ⟨⟨v0,v1,v2,v3,v4,v5⟩,hbv⟩:=CV.out _ Ha.out
   obtain ⟨⟨s0,s1,s2,s3⟩,hbn⟩:=CP.out _ (CQ.out _ (H8.out.trans (hbv.mono H8.out.size))).2
   obtain ⟨⟨r0,r1,r2,r3,r4,r5⟩,-⟩:=CN.out _ hbn
   clear hbn
   go_wp2_with fail
   refine (HTs.out wa hbv).mono ?_
   rintro e9 wb ⟨rfl,hbb⟩
   have Hb:=hid (Ha.out.trans (hbb.mono Ha.out.size))
   clear hbb hbv r0 r1 r2 r3 r4 r5 s0 s1 s2 s3 v0 v1 v2 v3 v4 v5
   obtain ⟨-,hbv⟩:=CV.out _ Hb.out
   obtain ⟨⟨s0,s1,s2,s3⟩,hbn⟩:=CP.out _ (CQ.out _ (H8.out.trans (hbv.mono H8.out.size))).2
   obtain ⟨⟨r0,r1,r2,r3,r4,r5⟩,hbw⟩:=CN.out _ hbn
   have HBw:=hid hbw
   clear hbn hbv hbw
   go_wp2_with fail
   refine (HPk.out wb HBw.out).mono ?_
   rintro e9 wc ⟨rfl,hbc⟩
   have Hc:=hid (HB1.out.trans ((HBw.out.trans (hbc.mono HBw.out.size)).mono HB1.out.size))
   clear hbc r0 r1 r2 r3 r4 r5 s0 s1 s2 s3
   go_wp2
   go_ret
   exact ⟨rfl,Hc.out⟩
 · have d6:(k5 != 0)=true:=by simp [hk]
   have hB6:=(CN.out _ (CP.out _ H6.out).2).2
   have HB6:=hid (HB1.out.trans (hB6.mono HB1.out.size))
   clear hB6
   go_wp2
   go_ret
   exact ⟨rfl,HB6.out.trans ((show Below w6.heap.size w6 _ from Bl).mono HB6.out.size)⟩
theorem own : ownKnob Tryz.prog.godebug=none := by kernel_rfl
theorem laidOut : laidOutB Tryz.prog=true := by kernel_rfl
/- The library's tables as their initialisers lay them. -/
def b64Ints : List Int := [0,1,56,2,57,49,28,3,61,58,42,50,38,29,17,4,62,47,59,36,45,43,51,22,53,39,33,30,24,18,12,5,63,55,48,27,60,41,37,16,46,35,44,21,52,32,23,11,54,26,40,15,34,20,31,10,25,14,19,9,13,8,7,6]
def laidAs (l : List Value) : Obj→Obj
 | .cells _ t frozen=>.cells l.toArray t frozen
 | o=>o
def b32Tab : List Value := ([0,1,28,2,29,14,24,3,30,22,20,15,25,17,4,8,31,27,13,23,21,19,16,7,26,12,18,6,11,5,10,9] : List Int).map (Value.int .u8)
def gB32 : Nat := 4
def b64Tab : List Value := b64Ints.map (Value.int .u8)
def gB64 : Nat := 5
def powTab : List Value := Lib.pow10Tab.map (Value.int .u64)
def gPow : Nat := 0
def accTab : List Value := ([128,191,160,191,128,159,144,191,128,143,0,0,0,0,0,0,0,0,0,0,0,0,0,0,0,0,0,0,0,0,0,0] : List Int).map (Value.int .u8)
def gAcc : Nat := 3
def firstTab : List Value := Pinned.utf8FirstZ.map fun n : Nat=>Value.int .u8 (n : Int)
def gFirst : Nat := 2
theorem max_len {W:World} (h:W.ShapedOpen Tryz.prog):∃ m,W.cell? ⟨1,0,none⟩=some (.int .i64 m) :=
 cell_of_shapedOpen_int (t:=3) (zero:=#[.int .i64 0]) h (of_decide_eq_true (by kernel_rfl)) (by kernel_rfl) rfl (by kernel_rfl) (by kernel_rfl) Tryz.underlying3
theorem powtab {W:World} (h:laidMetH Tryz.prog Rows.fnAsksRow.laid W):TabW W:=by
 have h1 := h.filter (fun x => x.1 == "internal/strconv.uint64pow10")
 have h2 : laidMet Tryz.prog [("internal/strconv.uint64pow10", Lib.tabData .u64 Lib.pow10Tab)] W := h1
 exact Lib.tabIs_of_head (g:=0) (t:=164) (e:=145) (n:=20) (by kernel_rfl) (by kernel_rfl) Tryz.underlying164 Tryz.underlying145 (by kernel_rfl) (by kernel_rfl) h2
theorem laid_met (os:Os):laidMet Tryz.prog Rows.fnAsksRow.laid (({ World.holding Tryz.prog os ⟨#[],#[],[]⟩ with heap:=((((((World.holding Tryz.prog os ⟨#[],#[],[]⟩).heap.modify gB32 (laidAs b32Tab)).modify gB64 (laidAs b64Tab)).modify gPow (laidAs powTab)).modify gAcc (laidAs accTab)).modify gFirst (laidAs firstTab)) }:World).forCall (fun _ _=>0) ⟨#[],#[.slice none 0 0,.slice none 0 0],[]⟩).memory :=
 laidMet_of_run' 8 (by kernel_rfl) (by kernel_rfl)
theorem reads (os:Os) {H:Type} (enc:TypeId × Value→H):∃ places,DataW.whole enc Tryz.prog (({ World.holding Tryz.prog os ⟨#[],#[],[]⟩ with heap:=((((((World.holding Tryz.prog os ⟨#[],#[],[]⟩).heap.modify gB32 (laidAs b32Tab)).modify gB64 (laidAs b64Tab)).modify gPow (laidAs powTab)).modify gAcc (laidAs accTab)).modify gFirst (laidAs firstTab)) }:World).forCall (fun _ _=>0) ⟨#[],#[.slice none 0 0,.slice none 0 0],[]⟩).memory Tryz.f3.params.toList Rows.fnAsksSpec.vars false #[Value.slice none 0 0,.slice none 0 0].toList 8=some ([.nil,.nil],[],places) :=
 ⟨[],by kernel_rfl⟩
set_option maxRecDepth 100000 in
theorem contract (H:Type) (enc:TypeId × Value→H) (W:World) (base:Nat) (args:Array Value) (ds gs:List (DataW H)) (before:List MemPlace)
  (hval:∀ (j:Nat) t v,Tryz.f3.params[j]? = some t→args[j]? = some v→Value.okWide Tryz.prog W .any base t v)
  (hW:DataW.Whole enc Tryz.prog Tryz.f3.params.toList Rows.fnAsksSpec.vars false W args.toList ds gs before) (hL:laidMetH Tryz.prog Rows.fnAsksRow.laid W) (hsh:W.ShapedOpen Tryz.prog) :
  Calls Tryz.prog 3 args W fun e W'=>∃ v,e=.returned v∧Rows.fnAsksSpec.post enc Tryz.prog Tryz.f3 false true false false W args v W' := by
 have hW' := hW
 obtain ⟨p,q,hA0,hV,rfl,hfz,hnd⟩:=hW
 have hA:DataW.TrodAll enc Tryz.prog W 0 (fun _=>true) true Tryz.f3.params.toList args.toList ds p:=hA0
 rw [Tryz.params3] at hA hval
 obtain ⟨v0,vs0,d0,ds0,p0,q0,hargs,rfl,rfl,h0,r0⟩:=trodAll_cons hA
 obtain ⟨v1,vs1,d1,ds1,p1,q1,rfl,rfl,rfl,h1,r1⟩:=trodAll_cons r0
 obtain ⟨rfl,rfl,rfl⟩:=trodAll_nil r1
 obtain rfl:args=#[v0,v1]:=by cases args;simp_all
 obtain ⟨rfl,rfl⟩:=trodVars_none hV
 have k0:=h0
 have lt0:∀ x∈p0,x.block<W.heap.size:=by obtain ⟨m,hm⟩:=k0;exact DataW.trod_lt m _ _ _ hm
 obtain ⟨a0,la0,ca0,rfl⟩:=okWide_slice Tryz.underlying22 (hval 0 22 v0 rfl rfl)
 have hba0:source.Bytes W a0 la0∧la0≤maxLen:=by
  obtain ⟨fuel,hf⟩:=h0
  obtain ⟨a',l',c',e,hb⟩:=bytes_of_trod Tryz.underlying22 Tryz.underlying5 (by kernel_rfl) (by simpa [Value.cells] using hf)
  cases e
  exact hb
 have k1:=h1
 have lt1:∀ x∈p1,x.block<W.heap.size:=by obtain ⟨m,hm⟩:=k1;exact DataW.trod_lt m _ _ _ hm
 obtain ⟨a1,la1,ca1,rfl⟩:=okWide_slice Tryz.underlying22 (hval 1 22 v1 rfl rfl)
 have hba1:source.Bytes W a1 la1∧la1≤maxLen:=by
  obtain ⟨fuel,hf⟩:=h1
  obtain ⟨a',l',c',e,hb⟩:=bytes_of_trod Tryz.underlying22 Tryz.underlying5 (by kernel_rfl) (by simpa [Value.cells] using hf)
  cases e
  exact hb
 obtain ⟨m,hm⟩:=max_len hsh
 clear hA0
 refine (walk a0 a1 la0 la1 ca0 ca1 W hba0.1 hba1.1 hba0.2 hba1.2 (powtab hL) m hm).mono fun e W' ⟨he,bel⟩=>?_
 subst he
 exact ⟨_,rfl,_,_,_,[],_,[],hW',trodAll_mk1 (shut_bool Tryz.underlying4 _),(trodAll_cons_mk (Below.trod laidOut (by kernel_rfl) (of_decide_eq_true (by kernel_rfl)) k0 bel lt0) (trodAll_cons_mk (Below.trod laidOut (by kernel_rfl) (of_decide_eq_true (by kernel_rfl)) k1 bel lt1) trodAll_mk0)),rfl,bel.frame _,fun h=>by cases h⟩
set_option maxRecDepth 100000 in
theorem lifted (os:Os) (started:os.Started) (H:Type) (enc:TypeId × Value→H) (F:Stop.Interp) :
  ReturnsInHanded {} Tryz.checked os 3 .any ((OpenSpec.ofChange Rows.fnAsksSpec).preRow enc Tryz.prog Tryz.f3 Rows.fnAsksRow.domain false Rows.fnAsksRow.laid) (((OpenSpec.ofChange Rows.fnAsksSpec).at F).post enc Tryz.prog Tryz.f3 false true false false):=by
 obtain ⟨places,hx⟩:=reads os enc
 refine returnsInHanded_of_row (C:=Tryz.checked) (s:=OpenSpec.ofChange Rows.fnAsksSpec) own started (by kernel_rfl) Tryz.func3
  (witness_row_at (enc:=enc) (C:=Tryz.checked) false ({ World.holding Tryz.prog os ⟨#[],#[],[]⟩ with heap:=((((((World.holding Tryz.prog os ⟨#[],#[],[]⟩).heap.modify gB32 (laidAs b32Tab)).modify gB64 (laidAs b64Tab)).modify gPow (laidAs powTab)).modify gAcc (laidAs accTab)).modify gFirst (laidAs firstTab)) }:World) #[.slice none 0 0,.slice none 0 0] rfl (by kernel_rfl) (by kernel_rfl) (by kernel_rfl)
   (OpenSpec.preRow_of_cond 8 hx (by kernel_rfl) (fun k hk=>by cases hk) (by kernel_rfl) (laid_met os))) ?_
 intro W base args ds gs before hval hW _ _ _ hL hsh _
 exact contract H enc W base args ds gs before hval hW hL hsh
theorem said : Rows.FnAsksSaid :=
 OpenClaim.holds_of_cond 3 Tryz.f3 rfl rfl rfl rfl rfl rfl rfl ⟨rfl,rfl,rfl,rfl,rfl⟩ rfl rfl rfl rfl rfl (by kernel_rfl) Tryz.func3 (by kernel_rfl)
  (of_decide_eq_true (by kernel_rfl)) (by unfold Func.isWrapper;first|(rw [if_pos (by decide +kernel)];kernel_rfl)|(rw [if_neg (by decide +kernel)];exact ⟨rfl,rfl⟩))
  (fun os started H enc _ F=>by rw [OpenClaim.pre_eq_preRow];exact lifted os started H enc F)
theorem plain (f : FuncId) (fn : Func) (hf : Tryz.pinned.checked.prog.funcNamed "loop.example/g00159/laws.FnAsks" = some f) (hfn : Tryz.pinned.checked.prog.funcs[f]? = some fn) :
  false=Tryz.pinned.checked.prog.looks []∧∀ (j:Nat) t,fn.params[j]? = some t→Tryz.pinned.checked.prog.wantsStandIn t=false:=by
 obtain rfl : f = 3 := Option.some.inj ((show Tryz.prog.funcNamed "loop.example/g00159/laws.FnAsks" = some 3 by kernel_rfl).symm.trans hf) |>.symm
 obtain rfl:fn=Tryz.f3:=(Option.some.inj (Tryz.func3.symm.trans hfn)).symm
 refine ⟨by kernel_rfl,fun j t ht=>?_⟩
 rw [Tryz.params3] at ht
 obtain rfl:t=22:=by
  have:=Array.mem_of_getElem? ht
  simpa using this
 exact (show Tryz.prog.wantsStandIn 22=false by kernel_rfl)
end Go.Proofs.YthompjbplddkgaaGreatDoor.fnAsks
namespace Go.Proofs.YthompjbplddkgaaGreatDoor
theorem fnAsks_holds : Rows.FnAsksCardSaid :=
 Claim7.holds_tied_plain_at .later [] _ _ _ _ fnAsks.said (fun _ h=>by cases h) (by kernel_rfl) (fun _ h=>by cases h) fnAsks_row_tie rfl ⟨rfl,rfl⟩ (by kernel_rfl) rfl fnAsks.plain (by kernel_rfl)
end Go.Proofs.YthompjbplddkgaaGreatDoor
