import Derived.Test.YtcfnohiboknfoaaGreatPart50
set_option linter.unusedVariables false
namespace Go.Proofs.YtcfnohiboknfoaaGreat.verFaceI
open Go.RowKit Go.Deep Go base copy names netSem netImpl netSpec routeRow nbSem candSem prodSem ssSem rofSem downsSpec envsSpec downsTwo stateTwo verSem verSpec verdictImpl verMath propSem rtsRow faultSpec verFaceS hopBetween
set_option maxRecDepth 100000 in
set_option maxHeartbeats 6400000 in
theorem verify_impl (p:Nat→Option Addr) (l c:Nat→Nat) (s:Ss) (g:R) (og ex:List Int) (x f:R) (kind fr pp way k:Int) (w:World) (h:NetIs w p l s g og ex x f) (hc0:l 0≤c 0) (hc1:l 1≤c 1) :
  Calls Tryz.prog 8 #[netV p l c,.agg #[.int .i64 kind,.int .i64 fr,.int .i64 pp,.int .i64 way],.int .i64 k] w fun e' w'=>∃ v,e' = .returned (.tuple #[v,.int .i64 (verC (propB (netB l s g og ex x f) (l 0) kind fr pp way) k)])∧VerAns w' w.heap.size (verC (propB (netB l s g og ex x f) (l 0) kind fr pp way) k) (stP g og ex x l) (downsP (l 1) (k.toNat+1)) (prod (fun _=>[0,1,2]) (l 3)) (fun st=>faultAt (rF st) f (l 5) (l 0) kind pp way fr.toNat) v∧VAp v∧Below w.heap.size w w' := by
 have HN:=hid h
 have HP:Hid (∀ W:World,Below w.heap.size w W→Calls Tryz.prog 11 #[netV p l c,.agg #[.int .i64 kind,.int .i64 fr,.int .i64 pp,.int .i64 way]] W fun e' w'=>e' = .returned (.bool (propB (netB l s g og ex x f) (l 0) kind fr pp way))∧Below W.heap.size W w'):=hid (fun W hb=>propImpl.prop_impl p l c s g og ex x f kind fr pp way W (h.below hb) hc0 hc1)
 obtain ⟨ok,hok⟩:∃ b,propB (netB l s g og ex x f) (l 0) kind fr pp way=b:=⟨_,rfl⟩
 have HOK:=hid hok
 rw [hok]
 simp only [hok] at HP
 obtain ⟨fa,hfa⟩:∃ fa:List Rt→Int,(fun st=>faultAt (rF st) f (l 5) (l 0) kind pp way fr.toNat)=fa:=⟨_,rfl⟩
 have HFa:Hid (∀ st,faultAt (rF st) f (l 5) (l 0) kind pp way fr.toNat=fa st):=hid (fun st=>by rw [← hfa])
 rw [hfa]
 clear hok hfa h
 have C1:∀ w8:World,Below (((w.alloc (.cells #[.slice (p 0) (l 0) (c 0),.slice (p 1) (l 1) (c 1),.slice (p 2) (l 2) (c 2),.slice (p 3) (l 3) (c 3),.slice (p 4) (l 4) (c 4),.slice (p 5) (l 5) (c 5)] 29)).alloc (.cells #[.int .i64 kind,.int .i64 fr,.int .i64 pp,.int .i64 way] 32)).alloc (.cells #[.bool false,.int .i64 0,.slice none 0 0,.slice none 0 0,.slice none 0 0,.int .i64 0] 37)).heap.size (((w.alloc (.cells #[.slice (p 0) (l 0) (c 0),.slice (p 1) (l 1) (c 1),.slice (p 2) (l 2) (c 2),.slice (p 3) (l 3) (c 3),.slice (p 4) (l 4) (c 4),.slice (p 5) (l 5) (c 5)] 29)).alloc (.cells #[.int .i64 kind,.int .i64 fr,.int .i64 pp,.int .i64 way] 32)).alloc (.cells #[.bool false,.int .i64 0,.slice none 0 0,.slice none 0 0,.slice none 0 0,.int .i64 0] 37)) w8→(w8.cell? ⟨w.heap.size,0,none⟩=some (.slice (p 0) (l 0) (c 0))∧w8.cell? ⟨w.heap.size,1,none⟩=some (.slice (p 1) (l 1) (c 1))∧w8.cell? ⟨w.heap.size,2,none⟩=some (.slice (p 2) (l 2) (c 2))∧w8.cell? ⟨w.heap.size,3,none⟩=some (.slice (p 3) (l 3) (c 3))∧w8.cell? ⟨w.heap.size,4,none⟩=some (.slice (p 4) (l 4) (c 4))∧w8.cell? ⟨w.heap.size,5,none⟩=some (.slice (p 5) (l 5) (c 5))∧w8.cell? ⟨w.heap.size+1,0,none⟩=some (.int .i64 kind)∧w8.cell? ⟨w.heap.size+1,1,none⟩=some (.int .i64 fr)∧w8.cell? ⟨w.heap.size+1,2,none⟩=some (.int .i64 pp)∧w8.cell? ⟨w.heap.size+1,3,none⟩=some (.int .i64 way))∧w8.heap[w.heap.size+2]? = some (.cells #[.bool false,.int .i64 0,.slice none 0 0,.slice none 0 0,.slice none 0 0,.int .i64 0] 37 (0,0))∧Below w.heap.size w w8∧w.heap.size+3≤w8.heap.size:=fun w8 hb=>by
  refine ⟨⟨keep hb (by simp [go_sem]),keep hb (by simp [go_sem]),keep hb (by simp [go_sem]),keep hb (by simp [go_sem]),keep hb (by simp [go_sem]),keep hb (by simp [go_sem]),keep hb (by simp [go_sem]),keep hb (by simp [go_sem]),keep hb (by simp [go_sem]),keep hb (by simp [go_sem])⟩,?_,(show Below w.heap.size w _ from Bl).trans (hb.mono (by simp;omega)),by have:=hb.size;simpa using this⟩
  have h9:=heap_alloc_new ((w.alloc (.cells #[.slice (p 0) (l 0) (c 0),.slice (p 1) (l 1) (c 1),.slice (p 2) (l 2) (c 2),.slice (p 3) (l 3) (c 3),.slice (p 4) (l 4) (c 4),.slice (p 5) (l 5) (c 5)] 29)).alloc (.cells #[.int .i64 kind,.int .i64 fr,.int .i64 pp,.int .i64 way] 32)) (.cells #[.bool false,.int .i64 0,.slice none 0 0,.slice none 0 0,.slice none 0 0,.int .i64 0] 37)
  rw [show ((w.alloc (.cells #[.slice (p 0) (l 0) (c 0),.slice (p 1) (l 1) (c 1),.slice (p 2) (l 2) (c 2),.slice (p 3) (l 3) (c 3),.slice (p 4) (l 4) (c 4),.slice (p 5) (l 5) (c 5)] 29)).alloc (.cells #[.int .i64 kind,.int .i64 fr,.int .i64 pp,.int .i64 way] 32)).heap.size=w.heap.size+2 by simp] at h9
  exact (hb.block _ (by simp)).trans h9
 have HC1:=hid C1
 clear C1
 unfold netV at HP ⊢
 go_enter Tryz.func8,Tryz.ntmps8
 go_wp2_with fail
 refine (HP.out _ Bl).mono ?_
 rintro e1 w1 ⟨rfl,hb1⟩
 obtain ⟨⟨q0,q1,q2,q3,q4,q5,q6,q7,q8,q9⟩,hres,hB1,hz1⟩:=HC1.out _ hb1
 have B1:=hid hB1
 have HRes:=hid hres
 have r0:w1.cell? ⟨w.heap.size+2,0,none⟩=some (.bool false):=by simp [World.cell?,hres]
 have z0:w1.frozen? ⟨w.heap.size+2,0,none⟩=false:=by simp [World.frozen?,hres]
 have r1:w1.cell? ⟨w.heap.size+2,1,none⟩=some (.int .i64 0):=by simp [World.cell?,hres]
 have z1:w1.frozen? ⟨w.heap.size+2,1,none⟩=false:=by simp [World.frozen?,hres]
 have r2:w1.cell? ⟨w.heap.size+2,2,none⟩=some (.slice none 0 0):=by simp [World.cell?,hres]
 have z2:w1.frozen? ⟨w.heap.size+2,2,none⟩=false:=by simp [World.frozen?,hres]
 have r3:w1.cell? ⟨w.heap.size+2,3,none⟩=some (.slice none 0 0):=by simp [World.cell?,hres]
 have z3:w1.frozen? ⟨w.heap.size+2,3,none⟩=false:=by simp [World.frozen?,hres]
 have r4:w1.cell? ⟨w.heap.size+2,4,none⟩=some (.slice none 0 0):=by simp [World.cell?,hres]
 have z4:w1.frozen? ⟨w.heap.size+2,4,none⟩=false:=by simp [World.frozen?,hres]
 have r5:w1.cell? ⟨w.heap.size+2,5,none⟩=some (.int .i64 0):=by simp [World.cell?,hres]
 have z5:w1.frozen? ⟨w.heap.size+2,5,none⟩=false:=by simp [World.frozen?,hres]
 clear hb1 hB1 hres HC1
 cases ok with
 | false =>
  have HC:Hid (verC false k=1):=hid rfl
  go_wp2_with fail
  refine bodyPost_ret (v:=.tuple #[zeroV,.int .i64 1]) (by simp [results,Tryz.results8,go_sem,zeroV,r0,r1,r2,r3,r4,r5]) rfl ⟨zeroV,by rw [HC.out],by unfold VerAns;rw [HC.out,if_neg (by decide)],(show VAp zeroV from vap_of (fun gq h1 _=>by simp [Value.ownBlock] at h1)),?_⟩
  exact six_below B1.out (by omega)
 | true =>
  obtain ⟨kb,hkb⟩:∃ b,inB k 0 2=b:=⟨_,rfl⟩
  have HKb:=hid hkb
  have HIn:Hid (∀ W:World,Calls Tryz.prog 20 #[.int .i64 k,.int .i64 0,.int .i64 2] W fun e w'=>e=.returned (.bool kb)∧w' = W):=hid (fun W=>by have:=within_impl k 0 2 W;rw [hkb] at this;exact this)
  clear hkb
  go_wp2_with fail
  refine (HIn.out _).mono ?_
  rintro e2 w2 ⟨rfl,hw2⟩
  have hw2:=hw2.symm
  subst hw2
  cases kb with
  | false =>
   have HC:Hid (verC true k=5):=hid (by unfold verC;rw [HKb.out];rfl)
   go_wp2_with fail
   refine bodyPost_ret (v:=.tuple #[zeroV,.int .i64 5]) (by simp [results,Tryz.results8,go_sem,zeroV,r0,r1,r2,r3,r4,r5]) rfl ⟨zeroV,by rw [HC.out],by unfold VerAns;rw [HC.out,if_neg (by decide)],(show VAp zeroV from vap_of (fun gq h1 _=>by simp [Value.ownBlock] at h1)),?_⟩
   exact six_below B1.out (by omega)
  | true =>
   have HC:Hid (verC true k=0):=hid (by unfold verC;rw [HKb.out];rfl)
   obtain ⟨hok,hf0,hf1,hp0,hp1⟩:=prop_facts HOK.out
   obtain ⟨hfine,hn1,hL,hE,h12,hgi,hxi⟩:=net_facts hok
   have h4:=hfine.few
   obtain ⟨kN,hkN⟩:∃ kN:Nat,k=(kN:Int):=⟨k.toNat,by have:=HKb.out;unfold inB at this;simp only [decide_eq_true_eq] at this;omega⟩
   have hk2:kN≤2:=by have:=HKb.out;unfold inB at this;simp only [decide_eq_true_eq] at this;omega
   obtain ⟨fN,hfN⟩:∃ fN:Nat,fr=(fN:Int):=⟨fr.toNat,by omega⟩
   subst hkN
   subst hfN
   have hfl:fN<l 0:=by omega
   simp only [Int.toNat_natCast] at HFa ⊢
   obtain ⟨W2,hW2⟩:∃ W2,(w1.alloc (.cells (sceneNew.newCells p l c) 79)).alloc (.cells #[.pointer (some ⟨w1.heap.size,0,none⟩),.int .i64 kind,.int .i64 (fN:Int),.int .i64 pp,.int .i64 way,.int .i64 0] 84)=W2:=⟨_,rfl⟩
   have hb2:Below w1.heap.size w1 W2:=by rw [← hW2];exact Bl
   have hbw2:Below w.heap.size w W2:=B1.out.trans (hb2.mono B1.out.size)
   have hN2:=HN.out.below hbw2
   have hrow:=sceneNew.new_row p l c w1
   have hrow2:W2.rowIs w1.heap.size 79 57 (sceneNew.newF p l c):=by
    rw [← hW2]
    exact hrow.of_block (Below.heap_alloc _ _ _ hrow.lt)
   have hlk:W2.heap[w1.heap.size+1]? = some (.cells #[.pointer (some ⟨w1.heap.size,0,none⟩),.int .i64 kind,.int .i64 (fN:Int),.int .i64 pp,.int .i64 way,.int .i64 0] 84 (0,0)):=by
    rw [← hW2]
    have h9:=World.alloc_heap_new (w1.alloc (.cells (sceneNew.newCells p l c) 79)) (.cells #[.pointer (some ⟨w1.heap.size,0,none⟩),.int .i64 kind,.int .i64 (fN:Int),.int .i64 pp,.int .i64 way,.int .i64 0] 84)
    rwa [World.size_alloc] at h9
   have hz2:W2.heap.size=w1.heap.size+2:=by rw [← hW2];simp
   have hlow:∀ i a q,1≤i→i≤5→0<l i→p i=some ⟨a,q,none⟩→a<w.heap.size:=fun i a q i1 i5 h0 he=>by
    match i,i1,i5,h0,he with
    | 1,_,_,h0,he=>exact sceneNew.row_lt (by decide) HN.out.links a q h0 he
    | 2,_,_,h0,he=>exact sceneNew.int_lt HN.out.origins a q h0 he
    | 3,_,_,h0,he=>exact sceneNew.int_lt HN.out.externals a q h0 he
    | 4,_,_,h0,he=>exact sceneNew.row_lt (by decide) HN.out.imports a q h0 he
    | 5,_,_,h0,he=>exact sceneNew.row_lt (by decide) HN.out.filters a q h0 he
    | 0,h,_,_,_=>omega
    | i+6,_,h,_,_=>omega
   have HVe:Hid (Calls Tryz.prog 21 #[.pointer (some ⟨w1.heap.size+1,0,none⟩),.int .i64 (kN:Int)] W2 fun e w'=>∃ v,e=.returned v∧IsVer w' W2.heap.size (stP g og ex x l) (downsP (l 1) (kN+1)) (prod (fun _=>[0,1,2]) (l 3)) fa v∧VAp v∧Below w1.heap.size W2 w'):=hid (by
    have h9:=verdict_impl (w1.heap.size+1) w1.heap.size W2.heap.size kN kind pp way fN (sceneNew.newF p l c) p l c g x f og ex W2 hlk (.inl ⟨hrow2,sceneNew.new_hf p l c,rfl,rfl⟩) (Nat.le_refl _) (fun i hi=>by
      match i,hi with
      | 0,_=>rfl
      | 1,_=>rfl
      | 2,_=>rfl
      | 3,_=>rfl
      | 4,_=>rfl
      | 5,_=>rfl
      | i+6,hi=>omega)
     ⟨rfl,rfl,hN2.links,hN2.imports,hgi,hxi,h12,fun a q h0 he=>by have:=hlow 1 a q (by omega) (by omega) h0 he;omega,fun a q h0 he=>by have:=hlow 4 a q (by omega) (by omega) h0 he;omega⟩ hN2.origins hN2.externals hN2.filters
     (fun i a q i1 i5 h0 he=>by have:=hlow i a q i1 i5 h0 he;exact ⟨by omega,by omega⟩) hfine hn1 hfl ⟨hp0,hp1⟩ hL (by omega) hk2 (trips_few kN h4 hL (by omega) hk2)
    refine h9.mono ?_
    rintro e9 w9 ⟨v9,rfl,hv9,ha9,hd9⟩
    have efa:(fun st=>faultAt (rF st) f (l 5) (l 0) kind pp way fN)=fa:=funext HFa.out
    rw [efa] at hv9
    exact ⟨v9,rfl,hv9,ha9,hd9.os,hd9.tape,hd9.output,hd9.size,fun q hq=>hd9.blk q (by omega) (by omega)⟩)
   have HB2:=hid hb2
   have hW2' := hW2
   unfold sceneNew.newCells at hW2'
   have HW2:=hid hW2'
   have HZ2:=hid hz2
   have g6:(w1.alloc (.cells (sceneNew.newCells p l c) 79)).cell? ⟨w.heap.size+1,0,none⟩=some (.int .i64 kind):=keep (show Below w1.heap.size w1 _ from Bl) q6
   have g7:(w1.alloc (.cells (sceneNew.newCells p l c) 79)).cell? ⟨w.heap.size+1,1,none⟩=some (.int .i64 (fN:Int)):=keep (show Below w1.heap.size w1 _ from Bl) q7
   have g8:(w1.alloc (.cells (sceneNew.newCells p l c) 79)).cell? ⟨w.heap.size+1,2,none⟩=some (.int .i64 pp):=keep (show Below w1.heap.size w1 _ from Bl) q8
   have g9:(w1.alloc (.cells (sceneNew.newCells p l c) 79)).cell? ⟨w.heap.size+1,3,none⟩=some (.int .i64 way):=keep (show Below w1.heap.size w1 _ from Bl) q9
   unfold sceneNew.newCells at g6 g7 g8 g9
   clear hok hf0 hf1 hp0 hp1 hfine hn1 hL hE h12 hgi hxi h4 hk2 hfl hb2 hbw2 hN2 hrow hrow2 hlk hW2 hW2' hlow hz2
   go_wp2_with fail
   rw [HW2.out]
   refine HVe.out.mono ?_
   rintro e3 w3 ⟨v,rfl,hv,ha3,hb3⟩
   obtain ⟨hd,n9,x1,n1,y1,x2,n2,y2,x3,n3,y3,pt,hvf⟩:=ver_form hv
   subst hvf
   have HV3:=hid hv
   have HA3:=hid ha3
   have hb13:Below w1.heap.size w1 w3:=HB2.out.trans hb3
   have HB3:=hid (B1.out.trans (hb13.mono B1.out.size))
   have hres3:=(hb13.block _ (Array.getElem?_eq_some_iff.1 HRes.out).1).trans HRes.out
   have r0:w3.cell? ⟨w.heap.size+2,0,none⟩=some (.bool false):=by simp [World.cell?,hres3]
   have z0:w3.frozen? ⟨w.heap.size+2,0,none⟩=false:=by simp [World.frozen?,hres3]
   have r1:w3.cell? ⟨w.heap.size+2,1,none⟩=some (.int .i64 0):=by simp [World.cell?,hres3]
   have z1:w3.frozen? ⟨w.heap.size+2,1,none⟩=false:=by simp [World.frozen?,hres3]
   have r2:w3.cell? ⟨w.heap.size+2,2,none⟩=some (.slice none 0 0):=by simp [World.cell?,hres3]
   have z2:w3.frozen? ⟨w.heap.size+2,2,none⟩=false:=by simp [World.frozen?,hres3]
   have r3:w3.cell? ⟨w.heap.size+2,3,none⟩=some (.slice none 0 0):=by simp [World.cell?,hres3]
   have z3:w3.frozen? ⟨w.heap.size+2,3,none⟩=false:=by simp [World.frozen?,hres3]
   have r4:w3.cell? ⟨w.heap.size+2,4,none⟩=some (.slice none 0 0):=by simp [World.cell?,hres3]
   have z4:w3.frozen? ⟨w.heap.size+2,4,none⟩=false:=by simp [World.frozen?,hres3]
   have r5:w3.cell? ⟨w.heap.size+2,5,none⟩=some (.int .i64 0):=by simp [World.cell?,hres3]
   have z5:w3.frozen? ⟨w.heap.size+2,5,none⟩=false:=by simp [World.frozen?,hres3]
   clear hv ha3 hb3 hb13 hres3
   go_wp2_with fail
   refine bodyPost_ret (v:=.tuple #[.agg #[.bool hd,.int .i64 n9,.slice x1 n1 y1,.slice x2 n2 y2,.slice x3 n3 y3,.int .i64 pt],.int .i64 0]) (by simp [results,Tryz.results8,go_sem,r0,r1,r2,r3,r4,r5]) rfl ⟨_,by rw [HC.out],by unfold VerAns;rw [HC.out,if_pos rfl];exact ver_six HV3.out (by have:=HZ2.out;omega) (by have:=HZ2.out;omega),HA3.out,?_⟩
   exact six_below HB3.out (by omega)
end Go.Proofs.YtcfnohiboknfoaaGreat.verFaceI
namespace Go.Proofs.YtcfnohiboknfoaaGreat.fnFewer
open Go.ChangeShapes Go.WideShapes Go.ChangeAt Go.RowKit Go.Deep Go.Joins Go base copy args netSem netMath routeRow intsOwn rtsRow source netOf prodSem downsSpec downsTwo verSem verSpec verdictImpl verMath propSem propDraw propOf sameVer verCont
open lawNets hiding OwnBools
theorem brow {B:Nat} {w:World} {a:Option Addr} {n c:Nat} {zs:List Bool} (h:OwnBools B w (.slice a n c) zs):BoolRow w a n zs:=by
 obtain ⟨a',c',e,hr⟩:=lawNets.OwnBools.form (show lawNets.OwnBools B w _ zs from h)
 injection e with e1 e2 e3
 subst e1
 subst e2
 exact hr
theorem irow {B:Nat} {w:World} {a:Option Addr} {n c:Nat} {zs:List Int} (h:OwnInts B w (.slice a n c) zs):IntRow w a n zs:=by
 obtain ⟨a',c',e,hr⟩:=OwnInts.form h
 injection e with e1 e2 e3
 subst e1
 subst e2
 exact hr
set_option maxHeartbeats 12800000 in
set_option maxRecDepth 16000 in
theorem walk (aC aM:Option Addr) (lC cC lM cM:Nat) (w:World) (hC:Bytes w aC lC) (hM:Bytes w aM lM) (hlC:lC≤maxLen) (hlM:lM≤maxLen) :
  Calls Tryz.prog 4 #[.slice aC lC cC,.slice aM lM cM] w fun e w'=>e=.returned (.bool true)∧Below w.heap.size w w' := by
 have HC:=hid hC
 have HM:=hid hM
 unfold maxLen at hlC hlM
 clear hC hM
 by_cases h1:1048576<lC
 · have i1:decide ((1048576:Int)<(lC:Int))=true:=decide_eq_true (by omega)
   go_enter Tryz.func4,Tryz.ntmps4
   go_wp2
   go_ret
   exact ⟨rfl,Bl⟩
 have i1:decide ((1048576:Int)<(lC:Int))=false:=decide_eq_false (by omega)
 by_cases h2:1048576<lM
 · have i2:decide ((1048576:Int)<(lM:Int))=true:=decide_eq_true (by omega)
   go_enter Tryz.func4,Tryz.ntmps4
   go_wp2
   go_ret
   exact ⟨rfl,Bl⟩
 have i2:decide ((1048576:Int)<(lM:Int))=false:=decide_eq_false (by omega)
 go_enter Tryz.func4,Tryz.ntmps4
 go_wp2_with fail
 refine (netOf_spec aC lC cC _ HC.out (by omega)).mono ?_
 rintro e' w1 ⟨p,l,c,g,o,e,x,f,rfl,hn,hnr,hnc,hb⟩
 obtain ⟨hl0,hl1,hl3,hcost⟩:=net_small hnr
 have HN1:=hid hn
 have HNr:=hid hnr
 have HNc:=hid hnc
 have HB1:=hid hb
 clear hn hnr hnc hb hcost
 unfold netV
 have HPo:=hid (fun (W:World) (hb:Bytes W aM lM)=>propertyOf_spec aM lM cM p l c W hb (by omega) (by omega) (by omega))
 unfold netV at HPo
 go_wp2_with fail
 obtain ⟨w2,hWe⟩:∃ w2,w1.alloc (.cells #[.slice (p 0) (l 0) (c 0),.slice (p 1) (l 1) (c 1),.slice (p 2) (l 2) (c 2),.slice (p 3) (l 3) (c 3),.slice (p 4) (l 4) (c 4),.slice (p 5) (l 5) (c 5)] 29)=w2:=⟨_,rfl⟩
 have hA1:Below w1.heap.size w1 w2:=by rw [← hWe];exact Bl
 have hzn:w2.heap.size=w1.heap.size+1:=by rw [← hWe];simp
 have hcn:World.cell? w2 ⟨w1.heap.size,0,none⟩=some (.slice (p 0) (l 0) (c 0))∧World.cell? w2 ⟨w1.heap.size,1,none⟩=some (.slice (p 1) (l 1) (c 1))∧World.cell? w2 ⟨w1.heap.size,2,none⟩=some (.slice (p 2) (l 2) (c 2))∧World.cell? w2 ⟨w1.heap.size,3,none⟩=some (.slice (p 3) (l 3) (c 3))∧World.cell? w2 ⟨w1.heap.size,4,none⟩=some (.slice (p 4) (l 4) (c 4))∧World.cell? w2 ⟨w1.heap.size,5,none⟩=some (.slice (p 5) (l 5) (c 5)):=by rw [← hWe];simp [go_sem]
 rw [hWe]
 have HB2:=hid (HB1.out.trans (hA1.mono HB1.out.size))
 have HK:Hid (∀ w8:World,Below w2.heap.size w2 w8→(World.cell? w8 ⟨w1.heap.size,0,none⟩=some (.slice (p 0) (l 0) (c 0))∧World.cell? w8 ⟨w1.heap.size,1,none⟩=some (.slice (p 1) (l 1) (c 1))∧World.cell? w8 ⟨w1.heap.size,2,none⟩=some (.slice (p 2) (l 2) (c 2))∧World.cell? w8 ⟨w1.heap.size,3,none⟩=some (.slice (p 3) (l 3) (c 3))∧World.cell? w8 ⟨w1.heap.size,4,none⟩=some (.slice (p 4) (l 4) (c 4))∧World.cell? w8 ⟨w1.heap.size,5,none⟩=some (.slice (p 5) (l 5) (c 5)))∧NetIs w8 p l sN g o e x f∧Below w.heap.size w w8):=hid fun w8 h=>by
  obtain ⟨a0,a1,a2,a3,a4,a5⟩:=hcn
  exact ⟨⟨keep h a0,keep h a1,keep h a2,keep h a3,keep h a4,keep h a5⟩,(HN1.out.below hA1).below h,HB2.out.trans (h.mono HB2.out.size)⟩
 clear hcn hA1 HN1 HB1 hWe
 refine (HPo.out _ (bytes_below HM.out HB2.out)).mono ?_
 rintro e' w3 ⟨⟨kind,fr,pp,way,rfl,hp⟩,hb3⟩
 have HP:Hid (propB (netB l sN g o e x f) (l 0) kind fr pp way=true):=hid (by rw [HNr.out];exact prop_in hp)
 have HB3:=hid hb3
 clear hp hb3 HPo
 obtain ⟨⟨q0,q1,q2,q3,q4,q5⟩,-,-⟩:=HK.out w3 HB3.out
 have zq:w1.heap.size<w3.heap.size:=by have:=HB3.out.size;omega
 obtain ⟨R,hR⟩:=trips_more (stP g o e x l) (l 1) (prod (fun _=>[0,1,2]) (l 3))
 obtain ⟨hv0,n0,D0,E0,V0,pt0,hv1,n1,D1,E1,V1,pt1,hor,hF0,hF1⟩:=content2 (stP g o e x l) (downsP (l 1) 1) (downsP (l 1) 2) (prod (fun _=>[0,1,2]) (l 3)) (fun st=>faultSpec.faultAt (rF st) f (l 5) (l 0) kind pp way fr.toNat) R hR (fun d hd=>by rw [downs_len hd];omega) (fun d hd=>by rw [prod_len hd];omega) (fun d e' st hst=>by rw [st_len st hst];omega)
 have hC0:verC (propB (netB l sN g o e x f) (l 0) kind fr pp way) 0=0:=by rw [HP.out];rfl
 have hC1:verC (propB (netB l sN g o e x f) (l 0) kind fr pp way) 1=0:=by rw [HP.out];rfl
 have HI0:Hid (∀ W:World,NetIs W p l sN g o e x f→Calls Tryz.prog 8 #[.agg #[.slice (p 0) (l 0) (c 0),.slice (p 1) (l 1) (c 1),.slice (p 2) (l 2) (c 2),.slice (p 3) (l 3) (c 3),.slice (p 4) (l 4) (c 4),.slice (p 5) (l 5) (c 5)],.agg #[.int .i64 kind,.int .i64 fr,.int .i64 pp,.int .i64 way],.int .i64 0] W fun e' w'=>∃ (x1 x2 x3:Option Addr) (x4 x5 x6:Nat),e' = .returned (.tuple #[.agg #[.bool hv0,.int .i64 n0,.slice x1 D0.length x4,.slice x2 E0.length x5,.slice x3 V0.length x6,.int .i64 pt0],.int .i64 0])∧OwnBools W.heap.size w' (.slice x1 D0.length x4) D0∧OwnInts W.heap.size w' (.slice x2 E0.length x5) E0∧OwnInts W.heap.size w' (.slice x3 V0.length x6) V0∧Below W.heap.size W w'):=hid (fun W hn=>by
  have h9:=verFaceI.verify_impl p l c sN g o e x f kind fr pp way 0 W hn HNc.out.1 HNc.out.2
  rw [hC0] at h9
  refine h9.mono ?_
  rintro e' w' ⟨v,rfl,hva,-,hb⟩
  obtain ⟨x1,x2,x3,x4,x5,x6,rfl,o1,o2,o3⟩:=hF0 _ _ _ hva
  exact ⟨x1,x2,x3,x4,x5,x6,rfl,o1,o2,o3,hb⟩)
 have HI1:Hid (∀ W:World,NetIs W p l sN g o e x f→Calls Tryz.prog 8 #[.agg #[.slice (p 0) (l 0) (c 0),.slice (p 1) (l 1) (c 1),.slice (p 2) (l 2) (c 2),.slice (p 3) (l 3) (c 3),.slice (p 4) (l 4) (c 4),.slice (p 5) (l 5) (c 5)],.agg #[.int .i64 kind,.int .i64 fr,.int .i64 pp,.int .i64 way],.int .i64 1] W fun e' w'=>∃ (x1 x2 x3:Option Addr) (x4 x5 x6:Nat),e' = .returned (.tuple #[.agg #[.bool hv1,.int .i64 n1,.slice x1 D1.length x4,.slice x2 E1.length x5,.slice x3 V1.length x6,.int .i64 pt1],.int .i64 0])∧OwnBools W.heap.size w' (.slice x1 D1.length x4) D1∧OwnInts W.heap.size w' (.slice x2 E1.length x5) E1∧OwnInts W.heap.size w' (.slice x3 V1.length x6) V1∧Below W.heap.size W w'):=hid (fun W hn=>by
  have h9:=verFaceI.verify_impl p l c sN g o e x f kind fr pp way 1 W hn HNc.out.1 HNc.out.2
  rw [hC1] at h9
  refine h9.mono ?_
  rintro e' w' ⟨v,rfl,hva,-,hb⟩
  obtain ⟨x1,x2,x3,x4,x5,x6,rfl,o1,o2,o3⟩:=hF1 _ _ _ hva
  exact ⟨x1,x2,x3,x4,x5,x6,rfl,o1,o2,o3,hb⟩)
 have HS1:Hid (∀ W:World,NetIs W p l sN g o e x f→Calls Tryz.prog 9 #[.agg #[.slice (p 0) (l 0) (c 0),.slice (p 1) (l 1) (c 1),.slice (p 2) (l 2) (c 2),.slice (p 3) (l 3) (c 3),.slice (p 4) (l 4) (c 4),.slice (p 5) (l 5) (c 5)],.agg #[.int .i64 kind,.int .i64 fr,.int .i64 pp,.int .i64 way],.int .i64 1] W fun e' w'=>∃ (x1 x2 x3:Option Addr) (x4 x5 x6:Nat),e' = .returned (.tuple #[.agg #[.bool hv1,.int .i64 n1,.slice x1 D1.length x4,.slice x2 E1.length x5,.slice x3 V1.length x6,.int .i64 pt1],.int .i64 0])∧OwnBools W.heap.size w' (.slice x1 D1.length x4) D1∧OwnInts W.heap.size w' (.slice x2 E1.length x5) E1∧OwnInts W.heap.size w' (.slice x3 V1.length x6) V1∧Below W.heap.size W w'):=hid (fun W hn=>by
  have h9:=verFaceS.verify_spec p l c sN g o e x f kind fr pp way 1 W hn HNc.out.1 HNc.out.2
  rw [hC1] at h9
  refine h9.mono ?_
  rintro e' w' ⟨v,rfl,hva,hb⟩
  obtain ⟨x1,x2,x3,x4,x5,x6,rfl,o1,o2,o3⟩:=hF1 _ _ _ hva
  exact ⟨x1,x2,x3,x4,x5,x6,rfl,o1,o2,o3,hb⟩)
 have HOr:=hid hor
 clear hF0 hF1 hR hC0 hC1 hor
 go_wp2_with fail
 obtain ⟨W3,hWe⟩:∃ W3,w3.alloc (.cells #[.int .i64 kind,.int .i64 fr,.int .i64 pp,.int .i64 way] 32)=W3:=⟨_,rfl⟩
 have hb:Below w3.heap.size w3 W3:=by rw [← hWe];exact Bl
 have XP:Hid (∀ w8:World,Below W3.heap.size W3 w8→(World.cell? w8 ⟨w1.heap.size,0,none⟩=some (.slice (p 0) (l 0) (c 0))∧World.cell? w8 ⟨w1.heap.size,1,none⟩=some (.slice (p 1) (l 1) (c 1))∧World.cell? w8 ⟨w1.heap.size,2,none⟩=some (.slice (p 2) (l 2) (c 2))∧World.cell? w8 ⟨w1.heap.size,3,none⟩=some (.slice (p 3) (l 3) (c 3))∧World.cell? w8 ⟨w1.heap.size,4,none⟩=some (.slice (p 4) (l 4) (c 4))∧World.cell? w8 ⟨w1.heap.size,5,none⟩=some (.slice (p 5) (l 5) (c 5)))∧(World.cell? w8 ⟨w3.heap.size,0,none⟩=some (.int .i64 kind)∧World.cell? w8 ⟨w3.heap.size,1,none⟩=some (.int .i64 fr)∧World.cell? w8 ⟨w3.heap.size,2,none⟩=some (.int .i64 pp)∧World.cell? w8 ⟨w3.heap.size,3,none⟩=some (.int .i64 way))∧NetIs w8 p l sN g o e x f∧Below w.heap.size w w8∧w1.heap.size<w8.heap.size∧w3.heap.size<w8.heap.size):=hid (fun w8 h=>by
  obtain ⟨g1,g2,g3⟩:=HK.out w8 (HB3.out.trans ((hb.trans (h.mono hb.size)).mono HB3.out.size))
  have h9:W3.heap.size=w3.heap.size+1:=by rw [← hWe];simp
  have h8:=h.size
  refine ⟨g1,⟨keep h ?_,keep h ?_,keep h ?_,keep h ?_⟩,g2,g3,by omega,by omega⟩
  · rw [← hWe];simp [go_sem]
  · rw [← hWe];simp [go_sem]
  · rw [← hWe];simp [go_sem]
  rw [← hWe];simp [go_sem])
 rw [hWe]
 have HBW3:Hid (Below W3.heap.size W3 W3):=hid Bz
 clear hWe hb q0 q1 q2 q3 q4 q5 zq HK
 obtain ⟨⟨q0,q1,q2,q3,q4,q5⟩,⟨y0,y1,y2,y3⟩,-,-,hz1,hz⟩:=XP.out W3 HBW3.out
 refine (HI0.out W3 (XP.out W3 HBW3.out).2.2.1).mono ?_
 rintro e' w5 ⟨a1,a2,a3,a4,a5,a6,rfl,o1,o2,o3,hb⟩
 have HBw5:=hid (HBW3.out.trans (hb.mono HBW3.out.size))
 clear hb
 clear q0 q1 q2 q3 q4 q5 y0 y1 y2 y3 hz hz1
 obtain ⟨⟨q0,q1,q2,q3,q4,q5⟩,⟨y0,y1,y2,y3⟩,-,-,hz1,hz⟩:=XP.out w5 HBw5.out
 go_wp2_with fail
 obtain ⟨W5,hWe⟩:∃ W9,w5.alloc (.cells #[.bool hv0,.int .i64 n0,.slice a1 D0.length a4,.slice a2 E0.length a5,.slice a3 V0.length a6,.int .i64 pt0] 37)=W9:=⟨_,rfl⟩
 have hb:Below w5.heap.size w5 W5:=by rw [← hWe];exact Bl
 have aB:Hid (W5.heap[w5.heap.size]? = some (.cells #[.bool hv0,.int .i64 n0,.slice a1 D0.length a4,.slice a2 E0.length a5,.slice a3 V0.length a6,.int .i64 pt0] 37 (0,0))):=hid (by rw [← hWe];exact World.alloc_heap_new _ _)
 have aO1:=hid (own_pass o1 hb)
 have aO2:=hid (own_pass o2 hb)
 have aO3:=hid (own_pass o3 hb)
 have HBW5:=hid (HBw5.out.trans (hb.mono HBw5.out.size))
 rw [hWe]
 clear hWe hb o1 o2 o3 hz hz1
 clear q0 q1 q2 q3 q4 q5 y0 y1 y2 y3
 obtain ⟨⟨q0,q1,q2,q3,q4,q5⟩,⟨y0,y1,y2,y3⟩,-,-,hz1,hz⟩:=XP.out W5 HBW5.out
 refine (HI1.out W5 (XP.out W5 HBW5.out).2.2.1).mono ?_
 rintro e' w6 ⟨b1,b2,b3,b4,b5,b6,rfl,o1,o2,o3,hb⟩
 have aB:=hid ((hb.block _ (Array.getElem?_eq_some_iff.1 aB.out).1).trans aB.out)
 have aO1:=hid (own_pass aO1.out hb)
 have aO2:=hid (own_pass aO2.out hb)
 have aO3:=hid (own_pass aO3.out hb)
 have HBw6:=hid (HBW5.out.trans (hb.mono HBW5.out.size))
 clear hb
 clear q0 q1 q2 q3 q4 q5 y0 y1 y2 y3 hz hz1
 obtain ⟨⟨q0,q1,q2,q3,q4,q5⟩,⟨y0,y1,y2,y3⟩,-,-,hz1,hz⟩:=XP.out w6 HBw6.out
 go_wp2_with fail
 obtain ⟨W6,hWe⟩:∃ W9,w6.alloc (.cells #[.bool hv1,.int .i64 n1,.slice b1 D1.length b4,.slice b2 E1.length b5,.slice b3 V1.length b6,.int .i64 pt1] 37)=W9:=⟨_,rfl⟩
 have hb:Below w6.heap.size w6 W6:=by rw [← hWe];exact Bl
 have bB:Hid (W6.heap[w6.heap.size]? = some (.cells #[.bool hv1,.int .i64 n1,.slice b1 D1.length b4,.slice b2 E1.length b5,.slice b3 V1.length b6,.int .i64 pt1] 37 (0,0))):=hid (by rw [← hWe];exact World.alloc_heap_new _ _)
 have aB:=hid ((hb.block _ (Array.getElem?_eq_some_iff.1 aB.out).1).trans aB.out)
 have aO1:=hid (own_pass aO1.out hb)
 have aO2:=hid (own_pass aO2.out hb)
 have aO3:=hid (own_pass aO3.out hb)
 have bO1:=hid (own_pass o1 hb)
 have bO2:=hid (own_pass o2 hb)
 have bO3:=hid (own_pass o3 hb)
 have HBW6:=hid (HBw6.out.trans (hb.mono HBw6.out.size))
 rw [hWe]
 clear hWe hb o1 o2 o3 hz hz1
 clear q0 q1 q2 q3 q4 q5 y0 y1 y2 y3
 obtain ⟨⟨q0,q1,q2,q3,q4,q5⟩,⟨y0,y1,y2,y3⟩,-,-,hz1,hz⟩:=XP.out W6 HBW6.out
 refine (HS1.out W6 (XP.out W6 HBW6.out).2.2.1).mono ?_
 rintro e' w7 ⟨d1,d2,d3,d4,d5,d6,rfl,o1,o2,o3,hb⟩
 have aB:=hid ((hb.block _ (Array.getElem?_eq_some_iff.1 aB.out).1).trans aB.out)
 have aO1:=hid (own_pass aO1.out hb)
 have aO2:=hid (own_pass aO2.out hb)
 have aO3:=hid (own_pass aO3.out hb)
 have bB:=hid ((hb.block _ (Array.getElem?_eq_some_iff.1 bB.out).1).trans bB.out)
 have bO1:=hid (own_pass bO1.out hb)
 have bO2:=hid (own_pass bO2.out hb)
 have bO3:=hid (own_pass bO3.out hb)
 have HBw7:=hid (HBW6.out.trans (hb.mono HBW6.out.size))
 clear hb
 clear q0 q1 q2 q3 q4 q5 y0 y1 y2 y3 hz hz1
 obtain ⟨⟨q0,q1,q2,q3,q4,q5⟩,⟨y0,y1,y2,y3⟩,-,-,hz1,hz⟩:=XP.out w7 HBw7.out
 obtain ⟨⟨u0,u1,u2,u3,u4,u5⟩,ul⟩:=six_cells bB.out
 go_wp2_with fail
 obtain ⟨W7,hWe⟩:∃ W9,w7.alloc (.cells #[.bool hv1,.int .i64 n1,.slice d1 D1.length d4,.slice d2 E1.length d5,.slice d3 V1.length d6,.int .i64 pt1] 37)=W9:=⟨_,rfl⟩
 have hb:Below w7.heap.size w7 W7:=by rw [← hWe];exact Bl
 have dB:Hid (W7.heap[w7.heap.size]? = some (.cells #[.bool hv1,.int .i64 n1,.slice d1 D1.length d4,.slice d2 E1.length d5,.slice d3 V1.length d6,.int .i64 pt1] 37 (0,0))):=hid (by rw [← hWe];exact World.alloc_heap_new _ _)
 have aB:=hid ((hb.block _ (Array.getElem?_eq_some_iff.1 aB.out).1).trans aB.out)
 have aO1:=hid (own_pass aO1.out hb)
 have aO2:=hid (own_pass aO2.out hb)
 have aO3:=hid (own_pass aO3.out hb)
 have bB:=hid ((hb.block _ (Array.getElem?_eq_some_iff.1 bB.out).1).trans bB.out)
 have bO1:=hid (own_pass bO1.out hb)
 have bO2:=hid (own_pass bO2.out hb)
 have bO3:=hid (own_pass bO3.out hb)
 have dO1:=hid (own_pass o1 hb)
 have dO2:=hid (own_pass o2 hb)
 have dO3:=hid (own_pass o3 hb)
 have HBW7:=hid (HBw7.out.trans (hb.mono HBw7.out.size))
 rw [hWe]
 clear hWe hb o1 o2 o3 hz hz1
 clear q0 q1 q2 q3 q4 q5 y0 y1 y2 y3
 obtain ⟨⟨q0,q1,q2,q3,q4,q5⟩,⟨y0,y1,y2,y3⟩,-,-,hz1,hz⟩:=XP.out W7 HBW7.out
 refine (same_ver hv1 n1 pt1 D1 E1 V1 b1 b2 b3 d1 d2 d3 b4 b5 b6 d4 d5 d6 W7 (brow bO1.out) (irow bO2.out) (irow bO3.out) (brow dO1.out) (irow dO2.out) (irow dO3.out)).mono ?_
 rintro e' w8 ⟨rfl,hb⟩
 have aB:=hid ((hb.block _ (Array.getElem?_eq_some_iff.1 aB.out).1).trans aB.out)
 have aO1:=hid (own_pass aO1.out hb)
 have aO2:=hid (own_pass aO2.out hb)
 have aO3:=hid (own_pass aO3.out hb)
 have bB:=hid ((hb.block _ (Array.getElem?_eq_some_iff.1 bB.out).1).trans bB.out)
 have bO1:=hid (own_pass bO1.out hb)
 have bO2:=hid (own_pass bO2.out hb)
 have bO3:=hid (own_pass bO3.out hb)
 have HBw8:=hid (HBW7.out.trans (hb.mono HBW7.out.size))
 clear hb u0 u1 u2 u3 u4 u5 ul dB dO1 dO2 dO3
 clear q0 q1 q2 q3 q4 q5 y0 y1 y2 y3 hz hz1
 obtain ⟨⟨u0,u1,u2,u3,u4,u5⟩,ul⟩:=six_cells aB.out
 obtain ⟨⟨v0,v1,v2,v3,v4,v5⟩,vl⟩:=six_cells bB.out
 rcases HOr.out with h0|⟨h0,h1,h2,h3,h4,h5,h6⟩
 · subst h0
   cases hv1
   · go_wp2
     go_ret
     exact ⟨rfl,(XP.out _ HBw8.out).2.2.2.1⟩
   go_wp2
   go_ret
   exact ⟨rfl,(XP.out _ HBw8.out).2.2.2.1⟩
 subst h0
 subst h1
 subst h2
 subst h3
 subst h4
 subst h5
 subst h6
 go_wp2_with fail
 refine (same_ver false n1 pt1 D1 E1 V1 a1 a2 a3 b1 b2 b3 a4 a5 a6 b4 b5 b6 w8 (brow aO1.out) (irow aO2.out) (irow aO3.out) (brow bO1.out) (irow bO2.out) (irow bO3.out)).mono ?_
 rintro e' w9 ⟨rfl,hb⟩
 have HBw9:=hid (HBw8.out.trans (hb.mono HBw8.out.size))
 clear hb
 go_wp2
 go_ret
 exact ⟨rfl,(XP.out _ HBw9.out).2.2.2.1⟩
theorem own : ownKnob Tryz.prog.godebug=none := by kernel_rfl
theorem laidOut : laidOutB Tryz.prog=true := by kernel_rfl
set_option maxRecDepth 100000 in
theorem lifted (os:Os) (started:os.Started) (H:Type) (enc:TypeId × Value→H) :
  ReturnsInHanded {} Tryz.checked os 4 .any (Rows.fnFewerSpec.pre6 enc Tryz.prog Tryz.f4 Rows.fnFewerRow.domain false) (Rows.fnFewerSpec.post enc Tryz.prog Tryz.f4 false true false false):=by
 refine returnsInHanded_of_change (C:=Tryz.checked) own started (by kernel_rfl) Tryz.func4
  (ChangeSpec.witness6 (enc:=enc) (C:=Tryz.checked) false ⟨#[],#[.slice none 0 0,.slice none 0 0],[]⟩ 8 (by kernel_rfl) (by kernel_rfl) (by kernel_rfl) (by kernel_rfl)) ?_
 intro W base args ds gs before hval0 hW hcnd _
 have hval:∀ (j:Nat) t v,Tryz.f4.params[j]? = some t→args[j]? = some v→Value.okWide Tryz.prog W .any base t v:=hval0
 have hW' := hW
 obtain ⟨p,q,hA0,hV,rfl,hfz,hnd⟩:=hW
 have hA:DataW.TrodAll enc Tryz.prog W 0 (fun _=>true) true Tryz.f4.params.toList args.toList ds p:=hA0
 rw [Tryz.params4] at hA hval
 obtain ⟨v0,vs0,d0,ds0,p0,q0,hargs,rfl,rfl,h0,r0⟩:=trodAll_cons hA
 obtain ⟨v1,vs1,d1,ds1,p1,q1,rfl,rfl,rfl,h1,r1⟩:=trodAll_cons r0
 obtain ⟨rfl,rfl,rfl⟩:=trodAll_nil r1
 obtain rfl:args=#[v0,v1]:=by cases args;simp_all
 obtain ⟨rfl,rfl⟩:=trodVars_none hV
 have k0:=h0
 have lt0:∀ x∈p0,x.block<W.heap.size:=by obtain ⟨m,hm⟩:=k0;exact DataW.trod_lt m _ _ _ hm
 have k1:=h1
 have lt1:∀ x∈p1,x.block<W.heap.size:=by obtain ⟨m,hm⟩:=k1;exact DataW.trod_lt m _ _ _ hm
 obtain ⟨aA,la,cA,rfl⟩:=okWide_slice Tryz.underlying22 (hval 0 22 v0 rfl rfl)
 obtain ⟨aB,lb,cB,rfl⟩:=okWide_slice Tryz.underlying22 (hval 1 22 v1 rfl rfl)
 obtain ⟨hA1,hA2⟩:Bytes W aA la∧la≤maxLen:=by
  obtain ⟨fuel,hf⟩:=h0
  obtain ⟨a',l',c',e,hb,hl⟩:=bytes_of_trod Tryz.underlying22 Tryz.underlying5 (by kernel_rfl) (by simpa [Value.cells] using hf)
  cases e
  exact ⟨hb,hl⟩
 obtain ⟨hB1,hB2⟩:Bytes W aB lb∧lb≤maxLen:=by
  obtain ⟨fuel,hf⟩:=h1
  obtain ⟨a',l',c',e,hb,hl⟩:=bytes_of_trod Tryz.underlying22 Tryz.underlying5 (by kernel_rfl) (by simpa [Value.cells] using hf)
  cases e
  exact ⟨hb,hl⟩
 clear hA0 hval0
 refine (walk aA aB la cA lb cB W hA1 hB1 hA2 hB2).mono fun e W' ⟨he,bel⟩=>?_
 subst he
 exact ⟨_,rfl,_,_,_,[],_,[],hW',trodAll_mk1 (shut_bool Tryz.underlying4 _),(trodAll_cons_mk (Below.trod laidOut (by kernel_rfl) (of_decide_eq_true (by kernel_rfl)) k0 bel lt0) (trodAll_cons_mk (Below.trod laidOut (by kernel_rfl) (of_decide_eq_true (by kernel_rfl)) k1 bel lt1) trodAll_mk0)),rfl,bel.frame _,fun h=>by cases h⟩
theorem over : Rows.fnFewerRow.holds Tryz.pinned (OpenSpec.ofChange Rows.fnFewerSpec) :=
 OpenClaim.holds_of_wide 4 Tryz.f4 rfl rfl rfl rfl rfl rfl rfl ⟨rfl,rfl,rfl,rfl,rfl⟩ rfl rfl rfl rfl rfl (by kernel_rfl) Tryz.func4 (by kernel_rfl)
  (of_decide_eq_true (by kernel_rfl)) (by unfold Func.isWrapper;first|(rw [if_pos (by decide +kernel)];kernel_rfl)|(rw [if_neg (by decide +kernel)];exact ⟨rfl,rfl⟩))
  (fun os started H enc _=>lifted os started H enc)
end Go.Proofs.YtcfnohiboknfoaaGreat.fnFewer
namespace Go.Proofs.YtcfnohiboknfoaaGreat
theorem fnFewer_holds : Rows.FnFewerSaid := fnFewer.over
end Go.Proofs.YtcfnohiboknfoaaGreat
