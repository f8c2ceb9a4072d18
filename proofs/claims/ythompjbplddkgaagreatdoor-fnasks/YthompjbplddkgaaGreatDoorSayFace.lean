import Derived.Test.YthompjbplddkgaaGreatDoorSayImpl
import Derived.Test.YthompjbplddkgaaGreatDoorSaySpec
set_option linter.unusedVariables false
namespace Go.Proofs.YthompjbplddkgaaGreatDoor.sayFace
open Go.RowKit Go.Deep Go base names netSem netImpl netSpec netParts netFace netOKImpl netLines netBytes netDeed sayText sayImpl saySpec prodB
def vsB (vs : List Int) (n vl : Nat) : Bool := decide (vl=n) && allN (fun i=>inB (zAt vs i) (-3) ((n : Int) - 1)) vl
set_option maxHeartbeats 800000 in
theorem vias_cl (v:Int) (q n:Nat) (w:World) (hq:w.cell? ⟨q,0,none⟩=some (.int .i64 (n:Int))) (hn:n≤maxLen) :
  Calls Tryz.prog 56 #[.int .i64 v,.pointer (some ⟨q,0,none⟩)] w fun e w'=>e=.returned (.bool (inB v (-3) ((n:Int) - 1)))∧w' = w:=by
 unfold maxLen at hn
 go_enter Tryz.func56,Tryz.ntmps56
 go_wp2_with (go_at_call 57;refine (within_impl _ _ _ _).mono ?_;rintro e w' ⟨rfl,rfl⟩)
 go_ret
 exact ⟨rfl,rfl⟩
set_option maxHeartbeats 800000 in
theorem all_vias (a:Option Addr) (n c q m:Nat) (z:List Int) (w:World) (hx:IntRow w a n z) (hq:w.cell? ⟨q,0,none⟩=some (.int .i64 (m:Int))) (hm:m≤maxLen) :
  Calls Tryz.prog 55 #[.slice a n c,.func (.func 56) #[] #[.pointer (some ⟨q,0,none⟩)]] w fun e w'=>e=.returned (.bool (allN (fun i=>inB (zAt z i) (-3) ((m:Int) - 1)) n))∧w' = w:=by
 have hmost:=hx.most
 unfold maxLen at hmost
 have HX:=hid hx
 have HQc:=hid hq
 have HMm:=hid hm
 clear hx hq hm
 go_enter Tryz.func55,Tryz.ntmps55
 go_wp2
 go_loop [9] (fun i=>∃ k:Nat,k≤n∧i=.int .i64 k∧∀ j,j<k→inB (zAt z j) (-3) ((m:Int) - 1)=true) (fun i=>n - (intOf i).toNat)
 case atStart=>exact ⟨0,Nat.zero_le _,rfl,fun j hj=>absurd hj (Nat.not_lt_zero _)⟩
 case round =>
  obtain ⟨k,hk,rfl,ha⟩:=hrel
  have HA:=hid ha
  clear ha
  by_cases hlt:k<n
  · obtain ⟨b,off,rfl,hc⟩:=HX.out.cell k hlt
    have HQ:Hid (zAt z k=z[k]?.getD 0):=hid rfl
    generalize z[k]?.getD 0=y at *
    obtain ⟨D,hD⟩:∃ D,inB y (-3) ((m:Int) - 1)=D:=⟨_,rfl⟩
    have HD:=hid hD
    have HE:Hid (inB (zAt z k) (-3) ((m:Int) - 1)=D):=hid (by rw [HQ.out];exact hD)
    clear hD
    go_wp2_with fail
    refine (vias_cl y q m _ HQc.out HMm.out).mono ?_
    rintro e' w1 ⟨rfl,hw⟩
    have hw:=hw.symm
    subst hw
    rw [HD.out]
    cases D with
    | true =>
     go_wp2
     go_round
     case rel =>
      refine ⟨k+1,by omega,by go_num,fun j hj=>?_⟩
      by_cases e:j=k
      · subst e;exact HE.out
      · exact HA.out j (by omega)
     case measure=>simp [intOf];omega
    | false =>
     go_wp2
     go_ret
     exact ⟨ret_bool (allN_false (p:=fun i=>inB (zAt z i) (-3) ((m:Int) - 1)) hlt HE.out).symm,rfl⟩
  · have e:k=n:=by omega
    subst e
    go_wp2
    go_ret
    exact ⟨ret_bool (allN_of (p:=fun i=>inB (zAt z i) (-3) ((m:Int) - 1)) HA.out).symm,rfl⟩
set_option maxHeartbeats 800000 in
theorem vias_impl (a:Option Addr) (vl vc n:Nat) (vs:List Int) (w:World) (hx:IntRow w a vl vs) (hn:n≤maxLen) :
  Calls Tryz.prog 25 #[.slice a vl vc,.int .i64 (n:Int)] w fun e w'=>e=.returned (.bool (vsB vs n vl))∧Below w.heap.size w w' := by
 have hmost:=hx.most
 have HAll:=hid (fun (W:World) (hb:Below w.heap.size w W) (q:Nat) (hq:W.cell? ⟨q,0,none⟩=some (.int .i64 (n:Int)))=>all_vias a vl vc q n vs W (hx.below hb) hq hn)
 unfold maxLen at hmost hn
 clear hx
 obtain ⟨V,hV⟩:∃ V,vsB vs n vl=V:=⟨_,rfl⟩
 have HV:=hid hV
 rw [hV]
 clear hV
 unfold vsB at HV
 have hmf:=mkfunc
 by_cases e1:vl=n
 · have d1:((vl:Int) == (n:Int))=true:=by simp [e1]
   have eV:allN (fun i=>inB (zAt vs i) (-3) ((n:Int) - 1)) vl=V:=by rw [← HV.out,decide_eq_true e1,Bool.true_and]
   have HEv:=hid eV
   clear eV HV e1
   go_enter Tryz.func25,Tryz.ntmps25
   go_wp2_with fail
   refine (HAll.out _ Bl _ (by simp [go_sem])).mono ?_
   rintro e' w1 ⟨rfl,hw⟩
   have HW:=hid hw
   rw [HEv.out]
   clear hw
   go_wp2
   go_ret
   exact ⟨rfl,by rw [HW.out];exact Bl⟩
 · have d1:((vl:Int) == (n:Int))=false:=by simp;omega
   have eV:V=false:=by rw [← HV.out,decide_eq_false e1];rfl
   subst eV
   clear HV e1
   go_enter Tryz.func25,Tryz.ntmps25
   go_wp2
   go_ret
   exact ⟨rfl,Bl⟩
theorem own_row {B:Nat} {w:World} {v:Value} {xs:List ByteArray} (h:OwnS B w v xs) (hn:xs≠[]):∃ g cap,v=.slice (some ⟨g,0,none⟩) xs.length cap∧(∀ j y,xs[j]? = some y→w.cell? ⟨g,0+j,none⟩=some (.string y))∧g<w.heap.size∧xs.length≤cap:=by
 obtain ⟨h1,h2⟩:=h
 rcases h2 with ⟨_,h0⟩|⟨g,cap,cur,rfl,hb,hh,hn,hm,hs,ht⟩
 · exact absurd (List.length_eq_zero_iff.1 h0) hn
 · refine ⟨g,cap,rfl,fun j y hy=>?_,(Array.getElem?_eq_some_iff.1 hh).1,hn⟩
   have hj:j<xs.length:=(List.getElem?_eq_some_iff.1 hy).1
   have h3:cur[j]? = some (.string y):=by
    have:(cur.toList.take (xs.length*1))[j]? = (xs.map Value.string)[j]?:=by rw [ht]
    rw [List.getElem?_take,if_pos (by omega)] at this
    rw [← Array.getElem?_toList,this,List.getElem?_map,hy]
    rfl
   simp [World.cell?,hh,h3]
set_option maxHeartbeats 3200000 in
set_option maxRecDepth 8000 in
theorem vtext_impl (p:Nat→Option Addr) (l c:Nat→Nat) (s:Ss) (g:R) (o e:List Int) (x f:R) (w:World) (hv:Bool) (n pt:Int) (D:List Bool) (E V:List Int) (x1 x2 x3:Option Addr) (x4 x5 x6:Nat) (h:NetIs w p l s g o e x f) (hc0:l 0≤c 0) (hc1:l 1≤c 1) (hB:netB l s g o e x f=true) (h0:0≤n) (h1:n≤1000000000) (h2:0≤pt) (h3:pt≤1000000000) (hE:∀ i,0≤zAt E i∧zAt E i≤2) (hD:hv=false→D.length=l 1∧E.length=l 3∧V.length=l 0∧∀ i,-3≤zAt V i∧zAt V i<l 0) (rD:BoolRow w x1 D.length D) (rE:IntRow w x2 E.length E) (rV:IntRow w x3 V.length V) (ht:TabW w) :
  Calls Tryz.prog 9 #[netV p l c,.agg #[.bool hv,.int .i64 n,.slice x1 D.length x4,.slice x2 E.length x5,.slice x3 V.length x6,.int .i64 pt]] w fun e' w'=>e' = .returned (.tuple #[.string (sayB l s g e hv n D E V pt),.int .i64 0])∧Below w.heap.size w w' := by
 have m0:=h.routers.most
 have m1:=h.links.most
 have m3:=h.externals.most
 unfold maxLen at m0 m1 m3
 have HOK:Hid (∀ W:World,Below w.heap.size w W→Calls Tryz.prog 15 #[netV p l c] W fun e' w'=>e' = .returned (.bool true)∧Below W.heap.size W w'):=hid (fun W hb=>by have:=netOK_impl p l c s g o e x f W (h.below hb) hc0 hc1;rw [hB] at this;exact this)
 cases hv with
 | true =>
  have HIt:Hid (∀ W:World,Below w.heap.size w W→Calls Tryz.prog 24 #[.int .i64 n] W fun e' w'=>e' = .returned (.string (numB n))∧Below W.heap.size W w'):=hid (fun W hb=>num_impl W h0 h1 (ht.below hb))
  have hz:=numB_size h0 h1
  have HLn:Hid (∀ W:World,Calls Tryz.prog 23 #[.slice (some ⟨W.heap.size,0,none⟩) 2 2] (W.alloc (.cells #[.string ⟨#[104,111,108,100,115]⟩,.string (numB n)] 9)) fun e' w'=>e' = .returned (.string (J (holdW n) ++ ⟨#[10]⟩))∧Below (W.alloc (.cells #[.string ⟨#[104,111,108,100,115]⟩,.string (numB n)] 9)).heap.size (W.alloc (.cells #[.string ⟨#[104,111,108,100,115]⟩,.string (numB n)] 9)) w'):=hid (fun W=>lineOf_impl W.heap.size 0 2 (holdW n) _ (fun j y hj=>by
   match j,hj with
   | 0,hj=>injection hj with hj;subst hj;simp [go_sem]
   | 1,hj=>injection hj with hj;subst hj;simp [go_sem]
   | j+2,hj=>cases hj) (by simp) (by simp [holdW]) (by simp [holdW]) (fun y hy=>by
   simp only [holdW,List.mem_cons,List.not_mem_nil,or_false] at hy
   rcases hy with rfl|rfl
   · decide
   · omega))
  unfold sayB
  rw [if_pos rfl]
  obtain ⟨t,ht9⟩:∃ t,numB n=t:=⟨_,rfl⟩
  obtain ⟨Z,hZ⟩:∃ Z,J (holdW n) ++ ⟨#[10]⟩=Z:=⟨_,rfl⟩
  rw [hZ] at HLn ⊢
  rw [ht9] at HIt HLn
  clear h hc0 hc1 hB h0 h1 h2 h3 hE hD rD rE rV ht hz ht9 hZ
  have HC:Hid (∀ w8:World,Below ((w.alloc (.cells #[.slice (p 0) (l 0) (c 0),.slice (p 1) (l 1) (c 1),.slice (p 2) (l 2) (c 2),.slice (p 3) (l 3) (c 3),.slice (p 4) (l 4) (c 4),.slice (p 5) (l 5) (c 5)] 29)).alloc (.cells #[.bool true,.int .i64 n,.slice x1 D.length x4,.slice x2 E.length x5,.slice x3 V.length x6,.int .i64 pt] 38)).heap.size ((w.alloc (.cells #[.slice (p 0) (l 0) (c 0),.slice (p 1) (l 1) (c 1),.slice (p 2) (l 2) (c 2),.slice (p 3) (l 3) (c 3),.slice (p 4) (l 4) (c 4),.slice (p 5) (l 5) (c 5)] 29)).alloc (.cells #[.bool true,.int .i64 n,.slice x1 D.length x4,.slice x2 E.length x5,.slice x3 V.length x6,.int .i64 pt] 38)) w8→(w8.cell? ⟨w.heap.size,0,none⟩=some (.slice (p 0) (l 0) (c 0))∧w8.cell? ⟨w.heap.size,1,none⟩=some (.slice (p 1) (l 1) (c 1))∧w8.cell? ⟨w.heap.size,2,none⟩=some (.slice (p 2) (l 2) (c 2))∧w8.cell? ⟨w.heap.size,3,none⟩=some (.slice (p 3) (l 3) (c 3))∧w8.cell? ⟨w.heap.size,4,none⟩=some (.slice (p 4) (l 4) (c 4))∧w8.cell? ⟨w.heap.size,5,none⟩=some (.slice (p 5) (l 5) (c 5))∧w8.cell? ⟨w.heap.size+1,0,none⟩=some (.bool true)∧w8.cell? ⟨w.heap.size+1,1,none⟩=some (.int .i64 n)∧w8.cell? ⟨w.heap.size+1,2,none⟩=some (.slice x1 D.length x4)∧w8.cell? ⟨w.heap.size+1,3,none⟩=some (.slice x2 E.length x5)∧w8.cell? ⟨w.heap.size+1,4,none⟩=some (.slice x3 V.length x6)∧w8.cell? ⟨w.heap.size+1,5,none⟩=some (.int .i64 pt))∧Below w.heap.size w w8):=hid (fun w8 hb=>by
   have B1:Below w.heap.size w w8:=(show Below w.heap.size w _ from Bl).trans (hb.mono (by simp;omega))
   exact ⟨⟨keep hb (by simp [go_sem]),keep hb (by simp [go_sem]),keep hb (by simp [go_sem]),keep hb (by simp [go_sem]),keep hb (by simp [go_sem]),keep hb (by simp [go_sem]),keep hb (by simp [go_sem]),keep hb (by simp [go_sem]),keep hb (by simp [go_sem]),keep hb (by simp [go_sem]),keep hb (by simp [go_sem]),keep hb (by simp [go_sem])⟩,B1⟩)
  unfold netV at HOK ⊢
  obtain ⟨⟨q0,q1,q2,q3,q4,q5,y0,y1,y2,y3,y4,y5⟩,hb0⟩:=HC.out _ (Below.refl _ _)
  go_enter Tryz.func9,Tryz.ntmps9
  go_wp2_with fail
  refine (HOK.out _ Bl).mono ?_
  rintro e1 w1 ⟨rfl,hb1⟩
  replace y0:=keep hb1 y0
  replace y1:=keep hb1 y1
  have B1:=hid (HC.out _ hb1).2
  clear hb1 hb0
  go_wp2_with fail
  refine (HIt.out _ B1.out).mono ?_
  rintro e2 w2 ⟨rfl,hb2⟩
  have B2:=hid (B1.out.trans (hb2.mono B1.out.size))
  clear hb2
  go_wp2_with fail
  refine (HLn.out _).mono ?_
  rintro e3 w3 ⟨rfl,hb3⟩
  have B3:Hid (Below w.heap.size w w3):=hid ((B2.out.alloc B2.out.size _).trans (hb3.mono (by simp;have:=B2.out.size;omega)))
  clear hb3
  go_wp2
  go_ret2
  exact ⟨rfl,B3.out⟩
 | false =>
  obtain ⟨e1,e2,e3,hV⟩:=hD rfl
  rw [e1] at rD ⊢
  rw [e2] at rE ⊢
  rw [e3] at rV ⊢
  have F:=few_say (good hB) (D:=D) (E:=E) (V:=V) h0 h1 h2 h3 hE hV
  have HVa:Hid (∀ W:World,Below w.heap.size w W→Calls Tryz.prog 25 #[.slice x3 (l 0) x6,.int .i64 (l 0:Int)] W fun e' w'=>e' = .returned (.bool true)∧Below W.heap.size W w'):=hid (fun W hb=>by
   have h9:=vias_impl x3 (l 0) x6 (l 0) V W (rV.below hb) h.routers.most
   rw [show vsB V (l 0) (l 0)=true by
    unfold vsB
    rw [decide_eq_true rfl,Bool.true_and]
    exact allN_of fun i hi=>by unfold inB;exact decide_eq_true (by have:=hV i;omega)] at h9
   exact h9)
  have HWo:Hid (∀ W:World,Below w.heap.size w W→Calls Tryz.prog 26 #[netV p l c,.agg #[.bool false,.int .i64 n,.slice x1 (l 1) x4,.slice x2 (l 3) x5,.slice x3 (l 0) x6,.int .i64 pt]] W fun e' w'=>∃ v,e' = .returned v∧OwnS W.heap.size w' v (sayW l s g e n D E V pt)∧Below W.heap.size W w'):=hid (fun W hb=>words_impl p l c s g o e x f W n pt D E V x1 x2 x3 x4 x5 x6 (h.below hb) hB h0 h1 h2 h3 hE hV (rD.below hb) (rE.below hb) (rV.below hb) (ht.below hb))
  unfold sayB
  rw [if_neg (by decide)]
  obtain ⟨ws,hws⟩:∃ ws,sayW l s g e n D E V pt=ws:=⟨_,rfl⟩
  rw [hws] at F HWo ⊢
  have HLn:Hid (∀ (W:World) (v:Value),OwnS w.heap.size W v ws→∃ gb cp,v=.slice (some ⟨gb,0,none⟩) ws.length cp∧Calls Tryz.prog 23 #[.slice (some ⟨gb,0,none⟩) ws.length cp] W fun e' w'=>e' = .returned (.string (J ws ++ ⟨#[10]⟩))∧Below W.heap.size W w'):=hid (fun W v ho=>by
   obtain ⟨gb,cp,rfl,hcs,hlt,hcp⟩:=own_row ho F.1
   exact ⟨gb,cp,rfl,lineOf_impl gb 0 cp ws W hcs hlt hcp (Nat.le_trans F.2.1 (by omega)) F.2.2⟩)
  obtain ⟨Z,hZ⟩:∃ Z,J ws ++ ⟨#[10]⟩=Z:=⟨_,rfl⟩
  rw [hZ] at HLn ⊢
  clear h hc0 hc1 hB h0 h1 h2 h3 hE hD rD rE rV ht hws hZ F hV e1 e2 e3
  have HC:Hid (∀ w8:World,Below ((w.alloc (.cells #[.slice (p 0) (l 0) (c 0),.slice (p 1) (l 1) (c 1),.slice (p 2) (l 2) (c 2),.slice (p 3) (l 3) (c 3),.slice (p 4) (l 4) (c 4),.slice (p 5) (l 5) (c 5)] 29)).alloc (.cells #[.bool false,.int .i64 n,.slice x1 (l 1) x4,.slice x2 (l 3) x5,.slice x3 (l 0) x6,.int .i64 pt] 38)).heap.size ((w.alloc (.cells #[.slice (p 0) (l 0) (c 0),.slice (p 1) (l 1) (c 1),.slice (p 2) (l 2) (c 2),.slice (p 3) (l 3) (c 3),.slice (p 4) (l 4) (c 4),.slice (p 5) (l 5) (c 5)] 29)).alloc (.cells #[.bool false,.int .i64 n,.slice x1 (l 1) x4,.slice x2 (l 3) x5,.slice x3 (l 0) x6,.int .i64 pt] 38)) w8→(w8.cell? ⟨w.heap.size,0,none⟩=some (.slice (p 0) (l 0) (c 0))∧w8.cell? ⟨w.heap.size,1,none⟩=some (.slice (p 1) (l 1) (c 1))∧w8.cell? ⟨w.heap.size,2,none⟩=some (.slice (p 2) (l 2) (c 2))∧w8.cell? ⟨w.heap.size,3,none⟩=some (.slice (p 3) (l 3) (c 3))∧w8.cell? ⟨w.heap.size,4,none⟩=some (.slice (p 4) (l 4) (c 4))∧w8.cell? ⟨w.heap.size,5,none⟩=some (.slice (p 5) (l 5) (c 5))∧w8.cell? ⟨w.heap.size+1,0,none⟩=some (.bool false)∧w8.cell? ⟨w.heap.size+1,1,none⟩=some (.int .i64 n)∧w8.cell? ⟨w.heap.size+1,2,none⟩=some (.slice x1 (l 1) x4)∧w8.cell? ⟨w.heap.size+1,3,none⟩=some (.slice x2 (l 3) x5)∧w8.cell? ⟨w.heap.size+1,4,none⟩=some (.slice x3 (l 0) x6)∧w8.cell? ⟨w.heap.size+1,5,none⟩=some (.int .i64 pt))∧Below w.heap.size w w8):=hid (fun w8 hb=>by
   have B1:Below w.heap.size w w8:=(show Below w.heap.size w _ from Bl).trans (hb.mono (by simp;omega))
   exact ⟨⟨keep hb (by simp [go_sem]),keep hb (by simp [go_sem]),keep hb (by simp [go_sem]),keep hb (by simp [go_sem]),keep hb (by simp [go_sem]),keep hb (by simp [go_sem]),keep hb (by simp [go_sem]),keep hb (by simp [go_sem]),keep hb (by simp [go_sem]),keep hb (by simp [go_sem]),keep hb (by simp [go_sem]),keep hb (by simp [go_sem])⟩,B1⟩)
  unfold netV at HOK HWo ⊢
  obtain ⟨⟨q0,q1,q2,q3,q4,q5,y0,y1,y2,y3,y4,y5⟩,hb0⟩:=HC.out _ (Below.refl _ _)
  go_enter Tryz.func9,Tryz.ntmps9
  go_wp2_with fail
  refine (HOK.out _ Bl).mono ?_
  rintro e1 w1 ⟨rfl,hb1⟩
  have HB1:=hid hb1
  clear hb1 hb0 q0 q1 q2 q3 q4 q5 y0 y1 y2 y3 y4 y5
  obtain ⟨⟨q0,q1,q2,q3,q4,q5,y0,y1,y2,y3,y4,y5⟩,hb0⟩:=HC.out _ HB1.out
  go_wp2_with fail
  refine (HVa.out _ hb0).mono ?_
  rintro e2 w2 ⟨rfl,hb2⟩
  have HB2:=hid (HB1.out.trans (hb2.mono HB1.out.size))
  clear hb2 hb0 q0 q1 q2 q3 q4 q5 y0 y1 y2 y3 y4 y5
  obtain ⟨⟨q0,q1,q2,q3,q4,q5,y0,y1,y2,y3,y4,y5⟩,hb0⟩:=HC.out _ HB2.out
  go_wp2_with fail
  refine (HWo.out _ hb0).mono ?_
  rintro e3 w3 ⟨v,rfl,ho,hb3⟩
  have B3:=hid (hb0.trans (hb3.mono hb0.size))
  obtain ⟨gb,cp,rfl,hl⟩:=HLn.out _ _ (own_mono ho hb0.size)
  have HL:=hid hl
  clear hl ho hb3 hb0 q0 q1 q2 q3 q4 q5 y0 y1 y2 y3 y4 y5
  go_wp2_with fail
  refine HL.out.mono ?_
  rintro e4 w4 ⟨rfl,hb4⟩
  have B4:=hid (B3.out.trans (hb4.mono B3.out.size))
  clear hb4
  go_wp2
  go_ret2
  exact ⟨rfl,B4.out⟩
set_option maxHeartbeats 3200000 in
set_option maxRecDepth 8000 in
theorem vtext_spec (p:Nat→Option Addr) (l c:Nat→Nat) (s:Ss) (g:R) (o e:List Int) (x f:R) (w:World) (hv:Bool) (n pt:Int) (D:List Bool) (E V:List Int) (x1 x2 x3:Option Addr) (x4 x5 x6:Nat) (h:NetIs w p l s g o e x f) (hc0:l 0≤c 0) (hc1:l 1≤c 1) (hB:netB l s g o e x f=true) (h0:0≤n) (h1:n≤1000000000) (h2:0≤pt) (h3:pt≤1000000000) (hE:∀ i,0≤zAt E i∧zAt E i≤2) (hD:hv=false→D.length=l 1∧E.length=l 3∧V.length=l 0∧∀ i,-3≤zAt V i∧zAt V i<l 0) (rD:BoolRow w x1 D.length D) (rE:IntRow w x2 E.length E) (rV:IntRow w x3 V.length V) (hfew:D.length≤4096∧E.length≤4096∧V.length≤4096) :
  Calls Tryz.prog 10 #[netV p l c,.agg #[.bool hv,.int .i64 n,.slice x1 D.length x4,.slice x2 E.length x5,.slice x3 V.length x6,.int .i64 pt]] w fun e' w'=>e' = .returned (.tuple #[.string (sayB l s g e hv n D E V pt),.int .i64 0])∧Below w.heap.size w w' := by
 have m0:=h.routers.most
 have m1:=h.links.most
 have m3:=h.externals.most
 unfold maxLen at m0 m1 m3
 obtain ⟨hf1,hf2,hf3⟩:=hfew
 have HOK:Hid (∀ W:World,Below w.heap.size w W→Calls Tryz.prog 18 #[netV p l c] W fun e' w'=>e' = .returned (.bool true)∧Below W.heap.size W w'):=hid (fun W hb=>by have:=netOKSpec.netOK_spec p l c s g o e x f W (h.below hb) hc0 hc1;rw [hB] at this;exact this)
 cases hv with
 | true =>
  have HTx:Hid (∀ W:World,Calls Tryz.prog 27 #[netV p l c,.agg #[.bool true,.int .i64 n,.slice x1 D.length x4,.slice x2 E.length x5,.slice x3 V.length x6,.int .i64 pt]] W fun e' w'=>e' = .returned (.string (J (holdW n) ++ ⟨#[10]⟩))∧Below W.heap.size W w'):=hid (fun W=>text_holds p l c s g o e x f W n _ _ _ _ h0 h1)
  unfold sayB
  rw [if_pos rfl]
  obtain ⟨Z,hZ⟩:∃ Z,J (holdW n) ++ ⟨#[10]⟩=Z:=⟨_,rfl⟩
  rw [hZ] at HTx ⊢
  have g1:decide ((4096:Int)<(D.length:Int))=false:=decide_eq_false (by omega)
  have g2:decide ((4096:Int)<(E.length:Int))=false:=decide_eq_false (by omega)
  have g3:decide ((4096:Int)<(V.length:Int))=false:=decide_eq_false (by omega)
  clear h hc0 hc1 hB h0 h1 h2 h3 hE hD rD rE rV hZ
  have HC:Hid (∀ w8:World,Below ((w.alloc (.cells #[.slice (p 0) (l 0) (c 0),.slice (p 1) (l 1) (c 1),.slice (p 2) (l 2) (c 2),.slice (p 3) (l 3) (c 3),.slice (p 4) (l 4) (c 4),.slice (p 5) (l 5) (c 5)] 29)).alloc (.cells #[.bool true,.int .i64 n,.slice x1 D.length x4,.slice x2 E.length x5,.slice x3 V.length x6,.int .i64 pt] 38)).heap.size ((w.alloc (.cells #[.slice (p 0) (l 0) (c 0),.slice (p 1) (l 1) (c 1),.slice (p 2) (l 2) (c 2),.slice (p 3) (l 3) (c 3),.slice (p 4) (l 4) (c 4),.slice (p 5) (l 5) (c 5)] 29)).alloc (.cells #[.bool true,.int .i64 n,.slice x1 D.length x4,.slice x2 E.length x5,.slice x3 V.length x6,.int .i64 pt] 38)) w8→(w8.cell? ⟨w.heap.size,0,none⟩=some (.slice (p 0) (l 0) (c 0))∧w8.cell? ⟨w.heap.size,1,none⟩=some (.slice (p 1) (l 1) (c 1))∧w8.cell? ⟨w.heap.size,2,none⟩=some (.slice (p 2) (l 2) (c 2))∧w8.cell? ⟨w.heap.size,3,none⟩=some (.slice (p 3) (l 3) (c 3))∧w8.cell? ⟨w.heap.size,4,none⟩=some (.slice (p 4) (l 4) (c 4))∧w8.cell? ⟨w.heap.size,5,none⟩=some (.slice (p 5) (l 5) (c 5))∧w8.cell? ⟨w.heap.size+1,0,none⟩=some (.bool true)∧w8.cell? ⟨w.heap.size+1,1,none⟩=some (.int .i64 n)∧w8.cell? ⟨w.heap.size+1,2,none⟩=some (.slice x1 D.length x4)∧w8.cell? ⟨w.heap.size+1,3,none⟩=some (.slice x2 E.length x5)∧w8.cell? ⟨w.heap.size+1,4,none⟩=some (.slice x3 V.length x6)∧w8.cell? ⟨w.heap.size+1,5,none⟩=some (.int .i64 pt))∧Below w.heap.size w w8):=hid (fun w8 hb=>by
   have B1:Below w.heap.size w w8:=(show Below w.heap.size w _ from Bl).trans (hb.mono (by simp;omega))
   exact ⟨⟨keep hb (by simp [go_sem]),keep hb (by simp [go_sem]),keep hb (by simp [go_sem]),keep hb (by simp [go_sem]),keep hb (by simp [go_sem]),keep hb (by simp [go_sem]),keep hb (by simp [go_sem]),keep hb (by simp [go_sem]),keep hb (by simp [go_sem]),keep hb (by simp [go_sem]),keep hb (by simp [go_sem]),keep hb (by simp [go_sem])⟩,B1⟩)
  unfold netV at HOK HTx ⊢
  obtain ⟨⟨q0,q1,q2,q3,q4,q5,y0,y1,y2,y3,y4,y5⟩,hb0⟩:=HC.out _ (Below.refl _ _)
  go_enter Tryz.func10,Tryz.ntmps10
  go_wp2_with fail
  refine (HOK.out _ Bl).mono ?_
  rintro e1 w1 ⟨rfl,hb1⟩
  have HB1:=hid hb1
  clear hb1 hb0 q0 q1 q2 q3 q4 q5 y0 y1 y2 y3 y4 y5
  obtain ⟨⟨q0,q1,q2,q3,q4,q5,y0,y1,y2,y3,y4,y5⟩,hb0⟩:=HC.out _ HB1.out
  go_wp2_with fail
  refine (HTx.out _).mono ?_
  rintro e2 w2 ⟨rfl,hb2⟩
  have B2:=hid (hb0.trans (hb2.mono hb0.size))
  clear hb2 hb0 q0 q1 q2 q3 q4 q5 y0 y1 y2 y3 y4 y5
  go_wp2
  go_ret2
  exact ⟨rfl,B2.out⟩
 | false =>
  obtain ⟨e1,e2,e3,hV⟩:=hD rfl
  rw [e1] at rD hf1 ⊢
  rw [e2] at rE hf2 ⊢
  rw [e3] at rV hf3 ⊢
  have HTx:Hid (∀ W:World,Below w.heap.size w W→Calls Tryz.prog 27 #[netV p l c,.agg #[.bool false,.int .i64 n,.slice x1 (l 1) x4,.slice x2 (l 3) x5,.slice x3 (l 0) x6,.int .i64 pt]] W fun e' w'=>e' = .returned (.string (J (sayW l s g e n D E V pt) ++ ⟨#[10]⟩))∧Below W.heap.size W w'):=hid (fun W hb=>text_bad p l c s g o e x f W n pt D E V x1 x2 x3 x4 x5 x6 (h.below hb) hB h0 h1 h2 h3 hE hV (rD.below hb) (rE.below hb) (rV.below hb))
  have HIn:Hid (∀ (z:Int) (W:World),-3≤z→z<l 0→Calls Tryz.prog 21 #[.int .i64 z,.int .i64 (-3),.int .i64 ((l 0:Int) - 1)] W fun e' w'=>e' = .returned (.bool true)∧w' = W):=hid (fun z W ha hb=>by
   have h9:=in_spec z (-3) ((l 0:Int) - 1) W
   rw [show inB z (-3) ((l 0:Int) - 1)=true by unfold inB;exact decide_eq_true (by omega)] at h9
   exact h9)
  have HVv:=hid hV
  have RV:=hid rV
  unfold sayB
  rw [if_neg (by decide)]
  obtain ⟨Z,hZ⟩:∃ Z,J (sayW l s g e n D E V pt) ++ ⟨#[10]⟩=Z:=⟨_,rfl⟩
  rw [hZ] at HTx ⊢
  have g1:decide ((4096:Int)<(l 1:Int))=false:=decide_eq_false (by omega)
  have g2:decide ((4096:Int)<(l 3:Int))=false:=decide_eq_false (by omega)
  have g3:decide ((4096:Int)<(l 0:Int))=false:=decide_eq_false (by omega)
  clear h hc0 hc1 hB h0 h1 h2 h3 hE hD rD rE rV hZ hV e1 e2 e3
  have HC:Hid (∀ w8:World,Below ((w.alloc (.cells #[.slice (p 0) (l 0) (c 0),.slice (p 1) (l 1) (c 1),.slice (p 2) (l 2) (c 2),.slice (p 3) (l 3) (c 3),.slice (p 4) (l 4) (c 4),.slice (p 5) (l 5) (c 5)] 29)).alloc (.cells #[.bool false,.int .i64 n,.slice x1 (l 1) x4,.slice x2 (l 3) x5,.slice x3 (l 0) x6,.int .i64 pt] 38)).heap.size ((w.alloc (.cells #[.slice (p 0) (l 0) (c 0),.slice (p 1) (l 1) (c 1),.slice (p 2) (l 2) (c 2),.slice (p 3) (l 3) (c 3),.slice (p 4) (l 4) (c 4),.slice (p 5) (l 5) (c 5)] 29)).alloc (.cells #[.bool false,.int .i64 n,.slice x1 (l 1) x4,.slice x2 (l 3) x5,.slice x3 (l 0) x6,.int .i64 pt] 38)) w8→(w8.cell? ⟨w.heap.size,0,none⟩=some (.slice (p 0) (l 0) (c 0))∧w8.cell? ⟨w.heap.size,1,none⟩=some (.slice (p 1) (l 1) (c 1))∧w8.cell? ⟨w.heap.size,2,none⟩=some (.slice (p 2) (l 2) (c 2))∧w8.cell? ⟨w.heap.size,3,none⟩=some (.slice (p 3) (l 3) (c 3))∧w8.cell? ⟨w.heap.size,4,none⟩=some (.slice (p 4) (l 4) (c 4))∧w8.cell? ⟨w.heap.size,5,none⟩=some (.slice (p 5) (l 5) (c 5))∧w8.cell? ⟨w.heap.size+1,0,none⟩=some (.bool false)∧w8.cell? ⟨w.heap.size+1,1,none⟩=some (.int .i64 n)∧w8.cell? ⟨w.heap.size+1,2,none⟩=some (.slice x1 (l 1) x4)∧w8.cell? ⟨w.heap.size+1,3,none⟩=some (.slice x2 (l 3) x5)∧w8.cell? ⟨w.heap.size+1,4,none⟩=some (.slice x3 (l 0) x6)∧w8.cell? ⟨w.heap.size+1,5,none⟩=some (.int .i64 pt))∧Below w.heap.size w w8):=hid (fun w8 hb=>by
   have B1:Below w.heap.size w w8:=(show Below w.heap.size w _ from Bl).trans (hb.mono (by simp;omega))
   exact ⟨⟨keep hb (by simp [go_sem]),keep hb (by simp [go_sem]),keep hb (by simp [go_sem]),keep hb (by simp [go_sem]),keep hb (by simp [go_sem]),keep hb (by simp [go_sem]),keep hb (by simp [go_sem]),keep hb (by simp [go_sem]),keep hb (by simp [go_sem]),keep hb (by simp [go_sem]),keep hb (by simp [go_sem]),keep hb (by simp [go_sem])⟩,B1⟩)
  unfold netV at HOK HTx ⊢
  obtain ⟨⟨q0,q1,q2,q3,q4,q5,y0,y1,y2,y3,y4,y5⟩,hb0⟩:=HC.out _ (Below.refl _ _)
  go_enter Tryz.func10,Tryz.ntmps10
  go_wp2_with fail
  refine (HOK.out _ Bl).mono ?_
  rintro e1 w1 ⟨rfl,hb1⟩
  have HB1:=hid hb1
  clear hb1 hb0 q0 q1 q2 q3 q4 q5 y0 y1 y2 y3 y4 y5
  obtain ⟨⟨q0,q1,q2,q3,q4,q5,y0,y1,y2,y3,y4,y5⟩,hb0⟩:=HC.out _ HB1.out
  go_wp2_with fail
  go_loopw [6] (fun i wr=>∃ k:Nat,k≤l 0∧i=.int .i64 k∧Below w1.heap.size w1 wr) (fun i _=>l 0 - (intOf i).toNat)
  case atStart=>exact ⟨0,Nat.zero_le _,rfl,Below.refl _ _⟩
  case round =>
   clear hb0 q0 q1 q2 q3 q4 q5 y0 y1 y2 y3 y4 y5
   obtain ⟨k,hk,rfl,hbel⟩:=hrel
   have HBk:=hid (HB1.out.trans (hbel.mono HB1.out.size))
   have HBw:=hid hbel
   obtain ⟨⟨q0,q1,q2,q3,q4,q5,y0,y1,y2,y3,y4,y5⟩,hb0⟩:=HC.out _ HBk.out
   clear hbel
   by_cases hlt:k<l 0
   · have hr9:=RV.out.below hb0
     obtain ⟨b,off,hx3,hc⟩:=hr9.cell k hlt
     rw [hx3] at y4
     rw [show V[k]?.getD 0=zAt V k from rfl] at hc
     have hz2:=HVv.out k
     generalize zAt V k=z at *
     have hkl:(k:Int)<(l 0:Int):=by omega
     clear hr9 hx3 q1 q2 q3 q4 q5 y0 y1 y2 y3 y5
     go_wp2_with fail
     go_quiet (first|(go_at_call 21;exact Calls.quiet_of_same (HIn.out z _ hz2.1 hz2.2)))
     go_wp2
     go_roundw
     case rel=>exact ⟨k+1,by omega,by go_num,HBw.out.trans ((show Below _ _ _ from Bn).mono HBw.out.size)⟩
     case measure=>simp [intOf];omega
   · have ek:k=l 0:=by omega
     subst ek
     go_wp2_with fail
     refine (HTx.out _ hb0).mono ?_
     rintro e2 w2 ⟨rfl,hb2⟩
     have B2:=hid (hb0.trans (hb2.mono hb0.size))
     clear hb2 hb0 q0 q1 q2 q3 q4 q5 y0 y1 y2 y3 y4 y5
     go_wp2
     go_ret2
     exact ⟨rfl,B2.out⟩
end Go.Proofs.YthompjbplddkgaaGreatDoor.sayFace
