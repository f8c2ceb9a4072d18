import Derived.Test.YtcnoemjeijjnjaaGreatPart48
set_option linter.unusedVariables false
namespace Go.Proofs.YtcnoemjeijjnjaaGreat.repImpl
open Go.RowKit Go.Deep Go base copy names netSem netImpl propSem propImpl routeRow nbSem candSem candImp hopSem intsOwn hopMake hopBetween sceneSem sceneFault sceneNew sceneFace rofSem rofImpl rofFace bestAll stabImpl stabFace walkSem walkImpl soAll satSpec countImpl repFault drawn drawnSrc drawnKeep downsSpec downsTwo
theorem rt_grown {W W':World} {b n:Nat} {ra:Option Addr} {rs:Rs} (h:RtRow W ra n rs) (hg:W.grownBy W' (some b)) (hna:∀ a o,ra=some ⟨a,o,none⟩→a≠b):RtRow W' ra n rs :=
 ⟨h.most,fun i hi=>by
  obtain ⟨q,off,e,hc⟩:=h.cell i hi
  exact ⟨q,off,e,fun j hj=>grown_cell hg q _ _ (hna q off e) (hc j hj)⟩⟩
theorem own_far {B b:Nat} {w:World} {a:Option Addr} {n c:Nat} {zs:List Int} (h:OwnInts B w (.slice a n c) zs) (hb:b<B):∀ q o,a=some ⟨q,o,none⟩→q≠b:=fun q o e=>by
 rcases h.2 with ⟨h2,_⟩|⟨g,cap,cur,e2,hB,_⟩
 · rw [e] at h2
   cases h2
 rw [e] at e2
 injection e2 with e3 _ _
 injection e3 with e3
 injection e3 with e3 _ _
 omega
theorem below_grown {A W W':World} {b:Nat} (h:Below A.heap.size A W) (hg:W.grownBy W' (some b)) (hb:A.heap.size≤b):Below A.heap.size A W' :=
 { os:=hg.os.trans h.os,tape:=hg.tape.trans h.tape,output:=hg.output.trans h.output,size:=Nat.le_trans h.size hg.size,block:=fun j hj=>(hg.block j (by have:=h.size;omega) (fun e=>by injection e with e;omega)).trans (h.block j hj) }
set_option maxHeartbeats 6400000 in
set_option maxRecDepth 16000 in
theorem replay_good (p:Nat→Option Addr) (l c:Nat→Nat) (s:Ss) (g:R) (o e:List Int) (x f:R) (kind pp way k sn pt:Int) (fr:Nat) (da ea va:Option Addr) (dl dc el ec vl vc:Nat) (ds:List Bool) (env vs:List Int) (w:World) (h:NetIs w p l s g o e x f) (hc0:l 0≤c 0) (hc1:l 1≤c 1) (hd:BoolRow w da dl ds) (he:IntRow w ea el env) (hv:IntRow w va vl vs) (hp:propB (netB l s g o e x f) (l 0) kind (fr:Int) pp way=true) (hk:0≤k∧k≤2) (har:arC (netB l s g o e x f) el dl (l 3) (l 1) env=0) (hvs:vsB vs (l 0) vl=true) (hpt:0≤pt∧pt≤15) (hpp:pp = -1∨pp=pt) (hcnt:(cntT ds:Int)≤k) (rs:Rs) (hrs:∀ i,i<l 0→valR g (l 1) o e x (l 4) env ds vs (l 0) i=rs i) (hok:okV g (l 1) o e x (l 4) env ds vs (l 0)=true) (hst:sameTo (bests g (l 1) o e x (l 4) env ds rs (l 0)) rs (l 0)=true) (hgd:sceneBy.Good (l 0) l g x rs) (hvi:Viable rs (l 0)) (hbad:satB kind way (wayO rs f (l 5) pt (l 0) fr) ((fr:Int)::wayR rs f (l 5) pt (l 0) fr)=false) :
  Calls Tryz.prog 11 #[.agg #[.slice (p 0) (l 0) (c 0),.slice (p 1) (l 1) (c 1),.slice (p 2) (l 2) (c 2),.slice (p 3) (l 3) (c 3),.slice (p 4) (l 4) (c 4),.slice (p 5) (l 5) (c 5)],.agg #[.int .i64 kind,.int .i64 (fr:Int),.int .i64 pp,.int .i64 way],.int .i64 k,.agg #[.bool false,.int .i64 sn,.slice da dl dc,.slice ea el ec,.slice va vl vc,.int .i64 pt]] w fun e' w'=>e' = .returned (.tuple #[.bool true,.int .i64 0])∧Below w.heap.size w w' := by
 have hn:netB l s g o e x f=true:=(verMath.prop_facts hp).1
 have hfr:fr<l 0:=by have:=(verMath.prop_facts hp).2.2.1;omega
 obtain ⟨hFine,hn1,hl1,hl3,hl4,hgi,hxi⟩:=verMath.net_facts hn
 have h4:l 0≤4:=hFine.few
 obtain ⟨hel,hdl⟩:el=l 3∧dl=l 1:=by
  unfold arC at har
  rw [hn,if_neg (by decide)] at har
  by_cases hc:el≠l 3∨dl≠l 1
  · rw [if_pos hc] at har;cases har
  omega
 obtain ⟨hvl,hvv⟩:=vs_in hv.length hvs hn1
 have HF:=hid (fun (W:World) (hb:Below w.heap.size w W)=>fault_good p l c s g o e x f kind pp way k sn pt fr da ea va dl dc el ec vl vc ds env vs W (h.below hb) hc0 hc1 (hd.below hb) (he.below hb) (hv.below hb) hp hk har hvs hpt hpp)
 have HCn:=hid (fun (W:World) (hb:Below w.heap.size w W)=>count_impl da dl dc ds W (hd.below hb) (by omega))
 have HNew:=hid (fun (W:World) (hb:Below w.heap.size w W)=>new_impl p l c s g o e x f ea da el ec dl dc env ds W (h.below hb) (he.below hb) (hd.below hb) hel hdl hgi hxi hl4)
 have dC:decide (k<(cntT ds:Int))=false:=decide_eq_false (by omega)
 have HFine:=hid hFine
 have HVv:=hid hvv
 have HGd:=hid hgd
 have HVi:=hid hvi
 have HBad:=hid hbad
 have HOk:=hid hok
 have HSt:=hid hst
 have HRs:=hid hrs
 have HVr:Hid (∀ W:World,Below w.heap.size w W→IntRow W va (l 0) vs):=hid (fun W hb=>by rw [← hvl];exact hv.below hb)
 have HFl:Hid (∀ W:World,Below w.heap.size w W→Row 4 W (p 5) (l 5) f):=hid (fun W hb=>(h.below hb).filters)
 have hva:∀ a o,va=some ⟨a,o,none⟩→a<w.heap.size:=fun a o e=>by
  obtain ⟨vb,vo,e2,hc⟩:=hv.cell 0 (by omega)
  rw [e] at e2
  injection e2 with e2
  injection e2 with e3 _
  have:=World.block_lt_of_cell? _ _ hc
  simp only at this
  omega
 have HVa:=hid hva
 subst hvl
 clear hel hdl h hc0 hc1 hd he hv hp hk har hvs hpt hpp hFine hvv hgd hvi hbad hok hst hrs hn hgi hxi hl1 hl3 hl4 hva hcnt
 obtain ⟨CN,hCN⟩:∃ CN,(cntT ds:Int)=CN:=⟨_,rfl⟩
 rw [hCN] at dC
 have HCN:=hid hCN
 clear hCN
 have HX:Hid (∀ w8:World,Below (((w.alloc (.cells #[.slice (p 0) (l 0) (c 0),.slice (p 1) (l 1) (c 1),.slice (p 2) (l 2) (c 2),.slice (p 3) (l 3) (c 3),.slice (p 4) (l 4) (c 4),.slice (p 5) (l 5) (c 5)] 29)).alloc (.cells #[.int .i64 kind,.int .i64 (fr:Int),.int .i64 pp,.int .i64 way] 32)).alloc (.cells #[.bool false,.int .i64 sn,.slice da dl dc,.slice ea el ec,.slice va (l 0) vc,.int .i64 pt] 37)).heap.size (((w.alloc (.cells #[.slice (p 0) (l 0) (c 0),.slice (p 1) (l 1) (c 1),.slice (p 2) (l 2) (c 2),.slice (p 3) (l 3) (c 3),.slice (p 4) (l 4) (c 4),.slice (p 5) (l 5) (c 5)] 29)).alloc (.cells #[.int .i64 kind,.int .i64 (fr:Int),.int .i64 pp,.int .i64 way] 32)).alloc (.cells #[.bool false,.int .i64 sn,.slice da dl dc,.slice ea el ec,.slice va (l 0) vc,.int .i64 pt] 37)) w8→(World.cell? w8 ⟨w.heap.size,0,none⟩=some (.slice (p 0) (l 0) (c 0))∧World.cell? w8 ⟨w.heap.size,1,none⟩=some (.slice (p 1) (l 1) (c 1))∧World.cell? w8 ⟨w.heap.size,2,none⟩=some (.slice (p 2) (l 2) (c 2))∧World.cell? w8 ⟨w.heap.size,3,none⟩=some (.slice (p 3) (l 3) (c 3))∧World.cell? w8 ⟨w.heap.size,4,none⟩=some (.slice (p 4) (l 4) (c 4))∧World.cell? w8 ⟨w.heap.size,5,none⟩=some (.slice (p 5) (l 5) (c 5))∧World.cell? w8 ⟨w.heap.size+1,0,none⟩=some (.int .i64 kind)∧World.cell? w8 ⟨w.heap.size+1,1,none⟩=some (.int .i64 (fr:Int))∧World.cell? w8 ⟨w.heap.size+1,2,none⟩=some (.int .i64 pp)∧World.cell? w8 ⟨w.heap.size+1,3,none⟩=some (.int .i64 way)∧World.cell? w8 ⟨w.heap.size+1+1,0,none⟩=some (.bool false)∧World.cell? w8 ⟨w.heap.size+1+1,1,none⟩=some (.int .i64 sn)∧World.cell? w8 ⟨w.heap.size+1+1,2,none⟩=some (.slice da dl dc)∧World.cell? w8 ⟨w.heap.size+1+1,3,none⟩=some (.slice ea el ec)∧World.cell? w8 ⟨w.heap.size+1+1,4,none⟩=some (.slice va (l 0) vc)∧World.cell? w8 ⟨w.heap.size+1+1,5,none⟩=some (.int .i64 pt))∧Below w.heap.size w w8∧w.heap.size+1+1<w8.heap.size):=hid (fun w8 hb=>by
  refine ⟨⟨keep hb (by simp [go_sem]),keep hb (by simp [go_sem]),keep hb (by simp [go_sem]),keep hb (by simp [go_sem]),keep hb (by simp [go_sem]),keep hb (by simp [go_sem]),keep hb (by simp [go_sem]),keep hb (by simp [go_sem]),keep hb (by simp [go_sem]),keep hb (by simp [go_sem]),keep hb (by simp [go_sem]),keep hb (by simp [go_sem]),keep hb (by simp [go_sem]),keep hb (by simp [go_sem]),keep hb (by simp [go_sem]),keep hb (by simp [go_sem])⟩,(show Below w.heap.size w _ from Bl).trans (hb.mono (by simp;omega)),by have:=hb.size;simp at this;omega⟩)
 unfold netV at HNew
 go_enter Tryz.func11,Tryz.ntmps11
 go_wp2_with fail
 refine (HF.out _ Bl).mono ?_
 rintro e' w1 ⟨rfl,hb1⟩
 have H1:=hid hb1
 obtain ⟨⟨q0,q1,q2,q3,q4,q5,q6,q7,q8,q9,q10,q11,q12,q13,q14,q15⟩,hB,hz⟩:=HX.out _ hb1
 have B1:=hid hB
 clear hb1 hB HF
 go_wp2_with fail
 refine (HCn.out _ B1.out).mono ?_
 rintro e' w2 ⟨rfl,hw2⟩
 have hw2:=hw2.symm
 subst hw2
 clear HCn
 rw [HCN.out]
 go_wp2_with fail
 refine (HNew.out _ B1.out).mono ?_
 rintro e' w3 ⟨sb,b,F,rfl,hb3,hs3,hB3⟩
 have HS3:=hid hs3
 have hbw3:b<w3.heap.size:=by rcases hs3.ready with ⟨h1,_⟩|⟨V,F',hm⟩;exact h1.lt;exact hm.row.lt
 have H3:=hid (H1.out.trans (hB3.mono H1.out.size))
 have hNb:(((w.alloc (.cells #[.slice (p 0) (l 0) (c 0),.slice (p 1) (l 1) (c 1),.slice (p 2) (l 2) (c 2),.slice (p 3) (l 3) (c 3),.slice (p 4) (l 4) (c 4),.slice (p 5) (l 5) (c 5)] 29)).alloc (.cells #[.int .i64 kind,.int .i64 (fr:Int),.int .i64 pp,.int .i64 way] 32)).alloc (.cells #[.bool false,.int .i64 sn,.slice da dl dc,.slice ea el ec,.slice va (l 0) vc,.int .i64 pt] 37)).heap.size≤b:=Nat.le_trans H1.out.size hb3
 have HNb:=hid hNb
 have hwb:w.heap.size≤b:=Nat.le_trans B1.out.size hb3
 clear q0 q1 q2 q3 q4 q5 q6 q7 q8 q9 q10 q11 q12 q13 q14 q15 hz hNb
 obtain ⟨⟨q0,q1,q2,q3,q4,q5,q6,q7,q8,q9,q10,q11,q12,q13,q14,q15⟩,hB,hz⟩:=HX.out _ H3.out
 have B3:=hid hB
 clear hs3 hB3 hB HNew hb3
 go_wp2_with fail
 refine (routesOf_impl va (l 0) vc vs HS3.out HFine.out (HVr.out _ B3.out) (fun a o e=>by have:=HVa.out a o e;omega) hn1 HVv.out).mono ?_
 rintro e' w4 ⟨hres,hs4,hg4⟩
 rcases hres with ⟨-,N,rfl,hN,hl4⟩|⟨hno,-⟩
 rotate_left
 · rw [HOk.out] at hno;cases hno
 have hl4:=verdictImpl.laid_as hl4 HRs.out
 obtain ⟨WB,hWB⟩:∃ WB,((w.alloc (.cells #[.slice (p 0) (l 0) (c 0),.slice (p 1) (l 1) (c 1),.slice (p 2) (l 2) (c 2),.slice (p 3) (l 3) (c 3),.slice (p 4) (l 4) (c 4),.slice (p 5) (l 5) (c 5)] 29)).alloc (.cells #[.int .i64 kind,.int .i64 (fr:Int),.int .i64 pp,.int .i64 way] 32)).alloc (.cells #[.bool false,.int .i64 sn,.slice da dl dc,.slice ea el ec,.slice va (l 0) vc,.int .i64 pt] 37)=WB:=⟨_,rfl⟩
 rw [hWB] at HX HNb H3
 have HR4:=hid ((hl4.is (by unfold maxLen;omega)).below (Below.refl _ w4).drew)
 have H4:=hid (below_grown H3.out hg4 HNb.out).drew
 have HS4:=hid (hs4.below (Below.refl _ w4).drew)
 have HL4:Hid (b<w4.drew.heap.size):=hid (Nat.lt_of_lt_of_le hbw3 hg4.size)
 have HNN:Hid (∀ a o:Nat,(some ⟨N,0,none⟩:Option Addr)=some ⟨a,o,none⟩→a≠b):=hid (fun a o e=>by injection e with e;injection e with e1 _;omega)
 obtain ⟨O,hO⟩:∃ O,wayO rs f (l 5) pt (l 0) (fr:Int)=O:=⟨_,rfl⟩
 obtain ⟨P,hP⟩:∃ P,(fr:Int)::wayR rs f (l 5) pt (l 0) (fr:Int)=P:=⟨_,rfl⟩
 obtain ⟨pn,hpn⟩:∃ n,P.length=n:=⟨_,rfl⟩
 rw [hO,hP] at HBad
 have HWk:Hid (∀ W:World,Below WB.heap.size WB W→RtRow W (some ⟨N,0,none⟩) (l 0) rs→b<W.heap.size→Calls Tryz.prog 35 #[.agg #[.slice (p 0) (l 0) (c 0),.slice (p 1) (l 1) (c 1),.slice (p 2) (l 2) (c 2),.slice (p 3) (l 3) (c 3),.slice (p 4) (l 4) (c 4),.slice (p 5) (l 5) (c 5)],.slice (some ⟨N,0,none⟩) (l 0) (l 0),.int .i64 (fr:Int),.int .i64 pt] W fun e' w'=>∃ (a6:Option Addr) (c6:Nat),e' = .returned (.agg #[.int .i64 O,.slice a6 pn c6])∧IntRow w' a6 pn P∧(∀ q o,a6=some ⟨q,o,none⟩→q≠b)∧Below W.heap.size W w'):=hid (fun W hb hr hbl=>by
  have HW:=walk_impl p l c f (some ⟨N,0,none⟩) (l 0) (l 0) rs fr pt W (HFl.out _ (HX.out _ hb).2.1) hr HVi.out hfr h4
  unfold netV at HW
  rw [hO,hP] at HW
  refine HW.mono ?_
  rintro e' w6 ⟨v,rfl,ho,hb6⟩
  obtain ⟨a6,c6,rfl,hr6⟩:=OwnInts.form ho
  have hf:=own_far ho hbl
  rw [hpn] at hr6 ⊢
  exact ⟨a6,c6,rfl,hr6,hf,hb6⟩)
 have HSo:Hid (∀ (W:World) (a6:Option Addr) (c6:Nat),IntRow W a6 pn P→Calls Tryz.prog 34 #[.agg #[.int .i64 kind,.int .i64 (fr:Int),.int .i64 pp,.int .i64 way],.agg #[.int .i64 O,.slice a6 pn c6]] W fun e' w'=>e' = .returned (.bool false)∧Below W.heap.size W w'):=hid (fun W a6 c6 hr=>by
  have:=so_all kind (fr:Int) pp way O a6 pn c6 P W hr
  rw [HBad.out] at this
  exact this)
 clear q0 q1 q2 q3 q4 q5 q6 q7 q8 q9 q10 q11 q12 q13 q14 q15 hz hs4 hg4 hl4 hN hO hP hpn hWB HBad HFine HVv HVi HOk HRs HVr HFl HVa HCN HS3 H1 B1 B3 hbw3 hwb
 obtain ⟨⟨q0,q1,q2,q3,q4,q5,q6,q7,q8,q9,q10,q11,q12,q13,q14,q15⟩,-,hz⟩:=HX.out _ H4.out
 go_wp2_with fail
 refine region_keep (fun uu=>⟨#[.agg #[.slice (p 0) (l 0) (c 0),.slice (p 1) (l 1) (c 1),.slice (p 2) (l 2) (c 2),.slice (p 3) (l 3) (c 3),.slice (p 4) (l 4) (c 4),.slice (p 5) (l 5) (c 5)],.agg #[.int .i64 kind,.int .i64 ↑fr,.int .i64 pp,.int .i64 way],.int .i64 k,.agg #[.bool false,.int .i64 sn,.slice da dl dc,.slice ea el ec,.slice va (l 0) vc,.int .i64 pt],.pointer (some ⟨w.heap.size,0,none⟩),.pointer (some ⟨w.heap.size+1,0,none⟩),undef,.pointer (some ⟨w.heap.size+1+1,0,none⟩),uu 8,uu 9,.int .i64 0,.pointer (some ⟨sb,0,none⟩),.slice (some ⟨N,0,none⟩) (l 0) (l 0),.bool true,.agg #[.slice (p 0) (l 0) (c 0),.slice (p 1) (l 1) (c 1),.slice (p 2) (l 2) (c 2),.slice (p 3) (l 3) (c 3),.slice (p 4) (l 4) (c 4),.slice (p 5) (l 5) (c 5)],.agg #[.int .i64 kind,.int .i64 ↑fr,.int .i64 pp,.int .i64 way],.int .i64 k,.agg #[.bool false,.int .i64 sn,.slice da dl dc,.slice ea el ec,.slice va (l 0) vc,.int .i64 pt],.int .i64 0,.int .i64 0,.bool false,undef,.pointer (some ⟨w.heap.size+1+1,2,none⟩),.slice da dl dc,.int .i64 CN,.int .i64 k,.bool false,.agg #[.slice (p 0) (l 0) (c 0),.slice (p 1) (l 1) (c 1),.slice (p 2) (l 2) (c 2),.slice (p 3) (l 3) (c 3),.slice (p 4) (l 4) (c 4),.slice (p 5) (l 5) (c 5)],.pointer (some ⟨w.heap.size+1+1,3,none⟩),.slice ea el ec,.pointer (some ⟨w.heap.size+1+1,2,none⟩),.slice da dl dc,.pointer (some ⟨sb,0,none⟩),.tuple #[.slice (some ⟨N,0,none⟩) (l 0) (l 0),.bool true],.pointer (some ⟨sb,0,none⟩),.pointer (some ⟨w.heap.size+1+1,4,none⟩),.slice va (l 0) vc,.tuple #[.slice (some ⟨N,0,none⟩) (l 0) (l 0),.bool true],.slice (some ⟨N,0,none⟩) (l 0) (l 0),.bool true,uu 40,uu 41,uu 42,uu 43,uu 44,uu 45,uu 46,uu 47,uu 48,uu 49,uu 50,uu 51,uu 52,uu 53,uu 54,uu 55,uu 56,uu 57],[]⟩) (fun i=>[40,41,42,43,44,45,46,47,48,49,50,51,52,53,54,55,56,57,8,9].getD i 0) (fun i v w8=>match i with|0=>v=.bool true|1=>v=.bool true|2=>v=.pointer (some ⟨sb,0,none⟩)|3=>v=.slice (some ⟨N,0,none⟩) (l 0) (l 0)|4=>v=.bool true|5=>v=.bool true|6=>v=.bool true|7=>v=.agg #[.int .i64 kind,.int .i64 (fr:Int),.int .i64 pp,.int .i64 way]|8=>v=.agg #[.slice (p 0) (l 0) (c 0),.slice (p 1) (l 1) (c 1),.slice (p 2) (l 2) (c 2),.slice (p 3) (l 3) (c 3),.slice (p 4) (l 4) (c 4),.slice (p 5) (l 5) (c 5)]|9=>v=.slice (some ⟨N,0,none⟩) (l 0) (l 0)|10=>v=.pointer (some ⟨w.heap.size+1,1,none⟩)|11=>v=.int .i64 (fr:Int)|12=>v=.pointer (some ⟨w.heap.size+1+1,5,none⟩)|13=>v=.int .i64 pt|14=>∃ (a6:Option Addr) (c6:Nat),v=.agg #[.int .i64 O,.slice a6 pn c6]∧IntRow w8 a6 pn P∧(∀ q o,a6=some ⟨q,o,none⟩→q≠b)|15=>v=.bool false|16=>v=.bool true|17=>v=.bool true|18=>v=.bool true|19=>v=.int .i64 0|_=>True) (fun w8=>Below WB.heap.size WB w8∧RtRow w8 (some ⟨N,0,none⟩) (l 0) rs∧Sc sb b w1.heap.size F p l c g o e x ea da el ec dl dc env ds w8∧b<w8.heap.size) (fun w8 w9=>w8.grownBy w9 (some b)) 20 (fun k=>match k with|40=>undef|41=>undef|42=>undef|43=>undef|44=>undef|45=>undef|46=>undef|47=>undef|48=>undef|49=>undef|50=>undef|51=>undef|52=>undef|53=>undef|54=>undef|55=>undef|56=>undef|57=>undef|8=>.bool false|9=>.int .i64 0|_=>undef) (by rfl) (by kernel_rfl) (by rfl) (by kernel_rfl) ⟨H4.out,HR4.out,HS4.out,HL4.out⟩ ?hput ?hinj ?stable ?step ?fin
 case hput =>
  intro i hi uu v
  match i,hi with
  | 0,_=>rfl
  | 1,_=>rfl
  | 2,_=>rfl
  | 3,_=>rfl
  | 4,_=>rfl
  | 5,_=>rfl
  | 6,_=>rfl
  | 7,_=>rfl
  | 8,_=>rfl
  | 9,_=>rfl
  | 10,_=>rfl
  | 11,_=>rfl
  | 12,_=>rfl
  | 13,_=>rfl
  | 14,_=>rfl
  | 15,_=>rfl
  | 16,_=>rfl
  | 17,_=>rfl
  | 18,_=>rfl
  | 19,_=>rfl
  | i+20,hi=>exact absurd hi (by omega)
 case hinj =>
  intro i j hi hj h
  exact slots_inj [40,41,42,43,44,45,46,47,48,49,50,51,52,53,54,55,56,57,8,9] (by decide) hi hj h
 case stable =>
  intro i v w8 w9 hb h
  match i,hb,h with
  | 0,hb,h=>exact h
  | 1,hb,h=>exact h
  | 2,hb,h=>exact h
  | 3,hb,h=>exact h
  | 4,hb,h=>exact h
  | 5,hb,h=>exact h
  | 6,hb,h=>exact h
  | 7,hb,h=>exact h
  | 8,hb,h=>exact h
  | 9,hb,h=>exact h
  | 10,hb,h=>exact h
  | 11,hb,h=>exact h
  | 12,hb,h=>exact h
  | 13,hb,h=>exact h
  | 14,hb,h=>(obtain ⟨a6,c6,e6,hr6,hn6⟩:=h;exact ⟨a6,c6,e6,intOff hr6 (grown_cell hb) (fun q o _=>hn6 q o),hn6⟩)
  | 15,hb,h=>exact h
  | 16,hb,h=>exact h
  | 17,hb,h=>exact h
  | 18,hb,h=>exact h
  | 19,hb,h=>exact h
  | _+20,hb,h=>trivial
 case step =>
  intro i hi uu w8 S8 hdep
  match i,hi,hdep with
  | 0,_,hdep =>
   clear hdep
   refine ⟨_,rfl,fun K' hK=>?_⟩
   go_simp
   exact hK.out _ _ S8 (grown_of_below (Below.refl _ _) _) rfl
  | 1,_,hdep =>
   have h0:(uu 40)=.bool true:=hdep 0 (by kernel_rfl)
   clear hdep
   refine ⟨_,rfl,fun K' hK=>?_⟩
   simp only [h0] at hK ⊢
   go_simp
   exact hK.out _ _ S8 (grown_of_below (Below.refl _ _) _) rfl
  | 2,_,hdep =>
   have h1:(uu 41)=.bool true:=hdep 1 (by kernel_rfl)
   clear hdep
   refine ⟨_,rfl,fun K' hK=>?_⟩
   simp only [h1] at hK ⊢
   go_simp
   exact hK.out _ _ S8 (grown_of_below (Below.refl _ _) _) rfl
  | 3,_,hdep =>
   have h1:(uu 41)=.bool true:=hdep 1 (by kernel_rfl)
   clear hdep
   refine ⟨_,rfl,fun K' hK=>?_⟩
   simp only [h1] at hK ⊢
   go_simp
   exact hK.out _ _ S8 (grown_of_below (Below.refl _ _) _) rfl
  | 4,_,hdep =>
   have h1:(uu 41)=.bool true:=hdep 1 (by kernel_rfl)
   have h2:(uu 42)=.pointer (some ⟨sb,0,none⟩):=hdep 2 (by kernel_rfl)
   have h3:(uu 43)=.slice (some ⟨N,0,none⟩) (l 0) (l 0):=hdep 3 (by kernel_rfl)
   clear hdep
   refine ⟨_,rfl,fun K' hK=>?_⟩
   simp only [h1,h2,h3] at hK ⊢
   go_simp
   refine (stable_impl (some ⟨N,0,none⟩) (l 0) (l 0) rs S8.2.2.1 HGd.out S8.2.1 HNN.out hn1).mono ?_
   rintro e9 w9 ⟨rfl,hs9,hg9⟩
   rw [HSt.out]
   exact hK.out _ _ ⟨below_grown S8.1 hg9 HNb.out,rt_grown S8.2.1 hg9 HNN.out,hs9,Nat.lt_of_lt_of_le S8.2.2.2 hg9.size⟩ hg9 rfl
  | 5,_,hdep =>
   have h1:(uu 41)=.bool true:=hdep 1 (by kernel_rfl)
   have h4:(uu 44)=.bool true:=hdep 4 (by kernel_rfl)
   clear hdep
   refine ⟨_,rfl,fun K' hK=>?_⟩
   simp only [h1,h4] at hK ⊢
   go_simp
   exact hK.out _ _ S8 (grown_of_below (Below.refl _ _) _) rfl
  | 6,_,hdep =>
   have h5:(uu 45)=.bool true:=hdep 5 (by kernel_rfl)
   clear hdep
   refine ⟨_,rfl,fun K' hK=>?_⟩
   simp only [h5] at hK ⊢
   go_simp
   exact hK.out _ _ S8 (grown_of_below (Below.refl _ _) _) rfl
  | 7,_,hdep =>
   have h6:(uu 46)=.bool true:=hdep 6 (by kernel_rfl)
   clear hdep
   refine ⟨_,rfl,fun K' hK=>?_⟩
   obtain ⟨⟨q0,q1,q2,q3,q4,q5,q6,q7,q8,q9,q10,q11,q12,q13,q14,q15⟩,-,hz⟩:=HX.out w8 S8.1
   simp only [h6] at hK ⊢
   go_simp
   exact hK.out _ _ S8 (grown_of_below (Below.refl _ _) _) rfl
  | 8,_,hdep =>
   have h6:(uu 46)=.bool true:=hdep 6 (by kernel_rfl)
   clear hdep
   refine ⟨_,rfl,fun K' hK=>?_⟩
   obtain ⟨⟨q0,q1,q2,q3,q4,q5,q6,q7,q8,q9,q10,q11,q12,q13,q14,q15⟩,-,hz⟩:=HX.out w8 S8.1
   simp only [h6] at hK ⊢
   go_simp
   exact hK.out _ _ S8 (grown_of_below (Below.refl _ _) _) rfl
  | 9,_,hdep =>
   have h6:(uu 46)=.bool true:=hdep 6 (by kernel_rfl)
   clear hdep
   refine ⟨_,rfl,fun K' hK=>?_⟩
   simp only [h6] at hK ⊢
   go_simp
   exact hK.out _ _ S8 (grown_of_below (Below.refl _ _) _) rfl
  | 10,_,hdep =>
   have h6:(uu 46)=.bool true:=hdep 6 (by kernel_rfl)
   clear hdep
   refine ⟨_,rfl,fun K' hK=>?_⟩
   simp only [h6] at hK ⊢
   go_simp
   exact hK.out _ _ S8 (grown_of_below (Below.refl _ _) _) rfl
  | 11,_,hdep =>
   have h6:(uu 46)=.bool true:=hdep 6 (by kernel_rfl)
   have h10:(uu 50)=.pointer (some ⟨w.heap.size+1,1,none⟩):=hdep 10 (by kernel_rfl)
   clear hdep
   refine ⟨_,rfl,fun K' hK=>?_⟩
   obtain ⟨⟨q0,q1,q2,q3,q4,q5,q6,q7,q8,q9,q10,q11,q12,q13,q14,q15⟩,-,hz⟩:=HX.out w8 S8.1
   simp only [h6,h10] at hK ⊢
   go_simp
   exact hK.out _ _ S8 (grown_of_below (Below.refl _ _) _) rfl
  | 12,_,hdep =>
   have h6:(uu 46)=.bool true:=hdep 6 (by kernel_rfl)
   clear hdep
   refine ⟨_,rfl,fun K' hK=>?_⟩
   simp only [h6] at hK ⊢
   go_simp
   exact hK.out _ _ S8 (grown_of_below (Below.refl _ _) _) rfl
  | 13,_,hdep =>
   have h6:(uu 46)=.bool true:=hdep 6 (by kernel_rfl)
   have h12:(uu 52)=.pointer (some ⟨w.heap.size+1+1,5,none⟩):=hdep 12 (by kernel_rfl)
   clear hdep
   refine ⟨_,rfl,fun K' hK=>?_⟩
   obtain ⟨⟨q0,q1,q2,q3,q4,q5,q6,q7,q8,q9,q10,q11,q12,q13,q14,q15⟩,-,hz⟩:=HX.out w8 S8.1
   simp only [h6,h12] at hK ⊢
   go_simp
   exact hK.out _ _ S8 (grown_of_below (Below.refl _ _) _) rfl
  | 14,_,hdep =>
   have h6:(uu 46)=.bool true:=hdep 6 (by kernel_rfl)
   have h8:(uu 48)=.agg #[.slice (p 0) (l 0) (c 0),.slice (p 1) (l 1) (c 1),.slice (p 2) (l 2) (c 2),.slice (p 3) (l 3) (c 3),.slice (p 4) (l 4) (c 4),.slice (p 5) (l 5) (c 5)]:=hdep 8 (by kernel_rfl)
   have h9:(uu 49)=.slice (some ⟨N,0,none⟩) (l 0) (l 0):=hdep 9 (by kernel_rfl)
   have h11:(uu 51)=.int .i64 (fr:Int):=hdep 11 (by kernel_rfl)
   have h13:(uu 53)=.int .i64 pt:=hdep 13 (by kernel_rfl)
   clear hdep
   refine ⟨_,rfl,fun K' hK=>?_⟩
   simp only [h6,h8,h9,h11,h13] at hK ⊢
   go_simp
   refine (HWk.out w8 S8.1 S8.2.1 S8.2.2.2).mono ?_
   rintro e9 w9 ⟨a6,c6,rfl,hr6,hn6,hb9⟩
   exact hK.out _ _ ⟨S8.1.trans (hb9.mono S8.1.size),S8.2.1.below hb9,S8.2.2.1.below hb9,Nat.lt_of_lt_of_le S8.2.2.2 hb9.size⟩ (grown_of_below hb9 _) ⟨a6,c6,rfl,hr6,hn6⟩
  | 15,_,hdep =>
   have h6:(uu 46)=.bool true:=hdep 6 (by kernel_rfl)
   have h7:(uu 47)=.agg #[.int .i64 kind,.int .i64 (fr:Int),.int .i64 pp,.int .i64 way]:=hdep 7 (by kernel_rfl)
   have h14:∃ (a6:Option Addr) (c6:Nat),(uu 54)=.agg #[.int .i64 O,.slice a6 pn c6]∧IntRow w8 a6 pn P∧(∀ q o,a6=some ⟨q,o,none⟩→q≠b):=hdep 14 (by kernel_rfl)
   clear hdep
   refine ⟨_,rfl,fun K' hK=>?_⟩
   obtain ⟨a6,c6,e6,hr6,hn6⟩:=h14
   simp only [h6,h7,e6] at hK ⊢
   go_simp
   refine (HSo.out w8 a6 c6 hr6).mono ?_
   rintro e9 w9 ⟨rfl,hb9⟩
   exact hK.out _ _ ⟨S8.1.trans (hb9.mono S8.1.size),S8.2.1.below hb9,S8.2.2.1.below hb9,Nat.lt_of_lt_of_le S8.2.2.2 hb9.size⟩ (grown_of_below hb9 _) rfl
  | 16,_,hdep =>
   have h6:(uu 46)=.bool true:=hdep 6 (by kernel_rfl)
   have h15:(uu 55)=.bool false:=hdep 15 (by kernel_rfl)
   clear hdep
   refine ⟨_,rfl,fun K' hK=>?_⟩
   simp only [h6,h15] at hK ⊢
   go_simp
   exact hK.out _ _ S8 (grown_of_below (Below.refl _ _) _) rfl
  | 17,_,hdep =>
   have h6:(uu 46)=.bool true:=hdep 6 (by kernel_rfl)
   have h16:(uu 56)=.bool true:=hdep 16 (by kernel_rfl)
   clear hdep
   refine ⟨_,rfl,fun K' hK=>?_⟩
   simp only [h6,h16] at hK ⊢
   go_simp
   exact hK.out _ _ S8 (grown_of_below (Below.refl _ _) _) rfl
  | 18,_,hdep =>
   have h17:(uu 57)=.bool true:=hdep 17 (by kernel_rfl)
   clear hdep
   refine ⟨_,rfl,fun K' hK=>?_⟩
   simp only [h17] at hK ⊢
   go_simp
   exact hK.out _ _ S8 (grown_of_below (Below.refl _ _) _) rfl
  | 19,_,hdep =>
   clear hdep
   refine ⟨_,rfl,fun K' hK=>?_⟩
   go_simp
   exact hK.out _ _ S8 (grown_of_below (Below.refl _ _) _) rfl
  | i+20,hi,_=>exact absurd hi (by omega)
 intro uu wf S8 hall
 have h18:(uu 8)=.bool true:=hall 18 (by decide)
 have h19:(uu 9)=.int .i64 0:=hall 19 (by decide)
 clear hall
 simp only [h18,h19]
 have H9:=hid S8.1
 clear S8
 go_wp2
 go_ret2
 exact ⟨rfl,(HX.out _ H9.out).2.1⟩
end Go.Proofs.YtcnoemjeijjnjaaGreat.repImpl
namespace Go.Proofs.YtcnoemjeijjnjaaGreat.satAll
open Go.RowKit Go.Deep Go base satSpec soAll names netSem propSem netImpl netParts netFace netOKImpl propImpl
set_option maxHeartbeats 1600000 in
theorem sat_all (p:Nat→Option Addr) (l c:Nat→Nat) (s:Ss) (g:R) (o e:List Int) (x f:R) (k fr pp way O:Int) (zs:List Int) (pa:Option Addr) (pn pc:Nat) (w:World) (h:NetIs w p l s g o e x f) (hc0:l 0≤c 0) (hc1:l 1≤c 1) (hp:propB (netB l s g o e x f) (l 0) k fr pp way=true) (hO:1≤O∧O≤4) (hr:IntRow w pa pn zs) :
  Calls Tryz.prog 15 #[netV p l c,.agg #[.int .i64 k,.int .i64 fr,.int .i64 pp,.int .i64 way],.agg #[.int .i64 O,.slice pa pn pc]] w fun e' w'=>e' = .returned (.tuple #[.bool (satB k way O zs),.int .i64 0])∧Below w.heap.size w w' := by
 have HP:Hid (∀ W:World,Below w.heap.size w W→Calls Tryz.prog 10 #[netV p l c,.agg #[.int .i64 k,.int .i64 fr,.int .i64 pp,.int .i64 way]] W fun e' w'=>e' = .returned (.bool true)∧Below W.heap.size W w'):=hid (fun W hb=>by
  have:=prop_impl p l c s g o e x f k fr pp way W (h.below hb) hc0 hc1
  rw [hp] at this
  exact this)
 have HS:=hid (fun (W:World) (hb:Below w.heap.size w W)=>so_all k fr pp way O pa pn pc zs W (hr.below hb))
 have hin:inB O 1 4=true:=decide_eq_true hO
 have HIn:=hid hin
 obtain ⟨B,hB⟩:∃ B,(satB k way O zs)=B:=⟨_,rfl⟩
 rw [hB] at HS ⊢
 clear h hc0 hc1 hp hr hO hin hB
 have C1:∀ w8:World,Below (((w.alloc (.cells #[.slice (p 0) (l 0) (c 0),.slice (p 1) (l 1) (c 1),.slice (p 2) (l 2) (c 2),.slice (p 3) (l 3) (c 3),.slice (p 4) (l 4) (c 4),.slice (p 5) (l 5) (c 5)] 29)).alloc (.cells #[.int .i64 k,.int .i64 fr,.int .i64 pp,.int .i64 way] 32)).alloc (.cells #[.int .i64 O,.slice pa pn pc] 49)).heap.size (((w.alloc (.cells #[.slice (p 0) (l 0) (c 0),.slice (p 1) (l 1) (c 1),.slice (p 2) (l 2) (c 2),.slice (p 3) (l 3) (c 3),.slice (p 4) (l 4) (c 4),.slice (p 5) (l 5) (c 5)] 29)).alloc (.cells #[.int .i64 k,.int .i64 fr,.int .i64 pp,.int .i64 way] 32)).alloc (.cells #[.int .i64 O,.slice pa pn pc] 49)) w8 →
   w8.cell? ⟨w.heap.size+1,0,none⟩=some (.int .i64 k)∧w8.cell? ⟨w.heap.size+1,1,none⟩=some (.int .i64 fr)∧w8.cell? ⟨w.heap.size+1,2,none⟩=some (.int .i64 pp)∧w8.cell? ⟨w.heap.size+1,3,none⟩=some (.int .i64 way)∧w8.cell? ⟨w.heap.size+1+1,0,none⟩=some (.int .i64 O)∧w8.cell? ⟨w.heap.size+1+1,1,none⟩=some (.slice pa pn pc)∧Below w.heap.size w w8 :=
  fun w8 hb=>⟨keep hb (by simp [go_sem]),keep hb (by simp [go_sem]),keep hb (by simp [go_sem]),keep hb (by simp [go_sem]),keep hb (by simp [go_sem]),keep hb (by simp [go_sem]),(show Below w.heap.size w _ from Bl).trans (hb.mono (by simp;omega))⟩
 have HC1:=hid C1
 clear C1
 unfold netV at HP ⊢
 go_enter Tryz.func15,Tryz.ntmps15
 go_wp2_with fail
 refine (HP.out _ Bl).mono ?_
 rintro e' w1 ⟨rfl,hb1⟩
 obtain ⟨x0,x1,x2,x3,y0,y1,hB⟩:=HC1.out w1 hb1
 have B1:=hid hB
 clear hb1 hB HC1 HP
 go_wp2_with (go_at_call 19;refine (within_impl _ _ _ _).mono ?_;rintro e w' ⟨rfl,rfl⟩;rw [HIn.out])
 refine (HS.out _ B1.out).mono ?_
 rintro e' w2 ⟨rfl,hb2⟩
 have B2:=hid (B1.out.trans (hb2.mono B1.out.size))
 clear hb2
 go_wp2
 go_ret2
 exact ⟨rfl,B2.out⟩
end Go.Proofs.YtcnoemjeijjnjaaGreat.satAll
namespace Go.Proofs.YtcnoemjeijjnjaaGreat.staFaceS
open Go.RowKit Go.Deep Go base copy names netSem routeRow routesB nbSem candSem candImp hopSem intsOwn sceneSem sceneBy sceneNew sceneFault sceneFace candEnv candFace noRts bestAll stabImpl stabFace rtsRow prodSem rofSem rofSpec ssSem rRows staSpec
theorem env_zero {ok:Bool} {el dl l3 l1:Nat} {env:List Int} (h:envC ok el dl l3 l1 env=0):ok=true∧el=l3∧dl=l1∧∀ i,i<el→0≤zAt env i:=by
 obtain ⟨h1,_,h2⟩:=rt_zero (ok:=ok) (rb:=true) (el:=el) (dl:=dl) (rl:=0) (l3:=l3) (l1:=l1) (env:=env) (by rw [env_code (by omega),h,if_pos rfl,if_pos rfl])
 exact ⟨h1,h2⟩
def ssL (D : Int) (g : R) (nl : Nat) (o e : List Int) (x : R) (nx : Nat) (env : List Int) (ds : List Bool) (n : Nat) : List (List Rt) := if D=0 then statesL g nl o e x nx env ds n (prod (fun i : Nat=>optL g nl o e env ds n (i : Int)) n) else []
set_option maxHeartbeats 3200000 in
set_option maxRecDepth 8000 in
theorem ss_spec (p:Nat→Option Addr) (l c:Nat→Nat) (s:Ss) (g:R) (o e:List Int) (x f:R) (ea da:Option Addr) (el ec dl dc:Nat) (env:List Int) (ds:List Bool) (w:World) (h:NetIs w p l s g o e x f) (hc0:l 0≤c 0) (hc1:l 1≤c 1) (he:IntRow w ea el env) (hd:BoolRow w da dl ds) :
  Calls Tryz.prog 13 #[netV p l c,.slice ea el ec,.slice da dl dc] w fun e' w'=>∃ v ps,e' = .returned (.tuple #[v,.int .i64 (envC (netB l s g o e x f) el dl (l 3) (l 1) env)])∧OwnRR w.heap.size w' v ps∧ps.map Prod.snd=ssL (envC (netB l s g o e x f) el dl (l 3) (l 1) env) g (l 1) o e x (l 4) env ds (l 0)∧Below w.heap.size w w' := by
 have HF:=hid (fun (W:World) (hb:Below w.heap.size w W)=>env_spec p l c s g o e x f ea da el ec dl dc env W (h.below hb) hc0 hc1 (he.below hb) hd.most)
 have HN:=hid h
 have HE:=hid he
 have HD:=hid hd
 clear h he hd hc0 hc1
 obtain ⟨ok,hok⟩:∃ b,netB l s g o e x f=b:=⟨_,rfl⟩
 have HOK:=hid hok
 rw [hok]
 simp only [hok] at HF
 clear hok
 obtain ⟨D,hD⟩:∃ D,envC ok el dl (l 3) (l 1) env=D:=⟨_,rfl⟩
 have HDD:=hid hD
 simp only [hD] at HF
 rw [hD]
 clear hD
 have C1:∀ w8:World,Below ((w.alloc (.cells #[.slice (p 0) (l 0) (c 0),.slice (p 1) (l 1) (c 1),.slice (p 2) (l 2) (c 2),.slice (p 3) (l 3) (c 3),.slice (p 4) (l 4) (c 4),.slice (p 5) (l 5) (c 5)] 29))).heap.size (w.alloc (.cells #[.slice (p 0) (l 0) (c 0),.slice (p 1) (l 1) (c 1),.slice (p 2) (l 2) (c 2),.slice (p 3) (l 3) (c 3),.slice (p 4) (l 4) (c 4),.slice (p 5) (l 5) (c 5)] 29)) w8→(w8.cell? ⟨w.heap.size,0,none⟩=some (.slice (p 0) (l 0) (c 0))∧w8.cell? ⟨w.heap.size,1,none⟩=some (.slice (p 1) (l 1) (c 1))∧w8.cell? ⟨w.heap.size,2,none⟩=some (.slice (p 2) (l 2) (c 2))∧w8.cell? ⟨w.heap.size,3,none⟩=some (.slice (p 3) (l 3) (c 3))∧w8.cell? ⟨w.heap.size,4,none⟩=some (.slice (p 4) (l 4) (c 4))∧w8.cell? ⟨w.heap.size,5,none⟩=some (.slice (p 5) (l 5) (c 5)))∧Below w.heap.size w w8 :=
  fun w8 hb=>⟨⟨keep hb (by simp [go_sem]),keep hb (by simp [go_sem]),keep hb (by simp [go_sem]),keep hb (by simp [go_sem]),keep hb (by simp [go_sem]),keep hb (by simp [go_sem])⟩,(show Below w.heap.size w _ from Bl).trans (hb.mono (by simp))⟩
 have HC1:=hid C1
 clear C1
 unfold netV at HF ⊢
 go_enter Tryz.func13,Tryz.ntmps13
 go_wp2_with fail
 refine (HF.out _ Bl).mono ?_
 rintro e' w1 ⟨rfl,hb1⟩
 obtain ⟨⟨q0,q1,q2,q3,q4,q5⟩,hB⟩:=HC1.out _ hb1
 have B1:=hid hB
 have hz1:w.heap.size<w1.heap.size:=by have:=hb1.size;simp at this;omega
 clear hb1 hB
 by_cases h0:D=0
 case neg =>
  have d1:(D != 0)=true:=by simp [h0]
  have HSL:Hid ([]=ssL D g (l 1) o e x (l 4) env ds (l 0)):=hid (by unfold ssL;rw [if_neg h0])
  clear h0
  go_wp2
  go_ret2
  exact ⟨_,[],rfl,rr_empty _ _ _ B1.out.size rfl,HSL.out,B1.out.alloc B1.out.size _⟩
 have HSL:Hid (statesL g (l 1) o e x (l 4) env ds (l 0) (prod (fun i:Nat=>optL g (l 1) o e env ds (l 0) (i:Int)) (l 0))=ssL D g (l 1) o e x (l 4) env ds (l 0)):=hid (by unfold ssL;rw [if_pos h0])
 subst h0
 obtain ⟨f1,f3,f4,f5⟩:=env_zero HDD.out
 subst f1
 obtain ⟨n4,n12,nl,ni⟩:=net_links HOK.out
 have hgi:=fun j hj=>(link_facts (nl j hj) n4).1
 have hn1:1≤l 0:=one_router HOK.out
 have HEn:Hid (∀ i,0≤zAt env i):=hid (fun i=>by
  by_cases hi:i<el
  · exact f5 i hi
  have hl:=HE.out.length
  unfold zAt
  rw [List.getElem?_eq_none (by omega)]
  exact Int.le_refl _)
 subst f3
 subst f4
 have HSt:=hid (states_spec p l c s g o e x f ea da ec dc env ds w1 (HN.out.below B1.out) (HE.out.below B1.out) (HD.out.below B1.out) n4 hn1 (fun i hi=>(link_facts (nl i hi) n4).2.1) (fun i hi=>(link_facts (nl i hi) n4).2.2) (fun i h=>(import_facts (ni i h) hgi).2) HEn.out)
 clear f5 n12 nl ni hgi HF
 unfold netV at HSt
 go_wp2_with fail
 refine HSt.out.mono ?_
 rintro e' w3 ⟨v,ps,rfl,hor,hps,hb3⟩
 have HOw:=hid (hor.mono B1.out.size)
 have HSe:=hid (hps.trans HSL.out)
 have HB3:=hid (B1.out.trans (hb3.mono B1.out.size))
 clear hor hps hb3
 go_wp2
 go_ret2
 exact ⟨_,_,rfl,HOw.out,HSe.out,HB3.out⟩
end Go.Proofs.YtcnoemjeijjnjaaGreat.staFaceS
