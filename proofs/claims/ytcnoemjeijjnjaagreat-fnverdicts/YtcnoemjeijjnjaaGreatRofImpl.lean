import Derived.Test.YtcnoemjeijjnjaaGreatPart25
set_option linter.unusedVariables false
namespace Go.Proofs.YtcnoemjeijjnjaaGreat.rofImpl
open Go.RowKit Go.Deep Go.Shelf Go base netSem routeRow nbSem candSem candImp hopSem intsOwn hopMake hopBetween sceneSem sceneBy noRts bestAll rofSem rofBack rofWay rofRun
attribute [local go_sem] Oper.semAt_some
variable {sb b B : Nat} {F : Nat→Value} {p : Nat→Option Addr} {l c : Nat→Nat} {g : R} {o e : List Int} {x : R} {ea da : Option Addr} {el ec dl dc : Nat} {env : List Int} {ds : List Bool} {w : World}
structure Fine (n : Nat) (l : Nat→Nat) (g x : R) : Prop where
 few:n≤4
 uniq:∀i,i<l 1→linkAt g i (g i 0) (g i 1)<0
 cost:∀i,i<l 1→0≤g i 2∧g i 2≤100
 deed:∀i,i<l 4→1≤x i 3∧x i 3≤4
theorem leave_two {tmps:Array Value} {R:Ending→World→Prop} {Bm a4 a5:Nat} {v5:Bool} {r:Option Addr} {rn rc:Nat} {Ds:List Nat} {W:World} (h4:tmps[4]?.getD undef=.pointer (some ⟨a4,0,none⟩)) (h5:tmps[5]?.getD undef=.pointer (some ⟨a5,0,none⟩))
  (x4:Boxed W a4 52 (.slice r rn rc)) (x5:Boxed W a5 4 (.bool v5)) (hm:Mk Bm Ds W) (hR:∀W',Ch (fun q=>q∈Ds) W W'→R (.returned (.tuple #[.slice r rn rc,.bool v5])) W'):LeavesInM Fence.wide 9 Tryz.prog Tryz.f32 tmps R (Ds.map markD) .returning W:=by
 refine leaves_marks Ds W hm fun W' hc=>?_
 have nd:∀ {q t:Nat} {v:Value},Boxed W q t v→¬q∈Ds:=fun hb hq=>by
  have:=(hm.at_ _ hq).2;rw[show W.heap[_]? = _ from hb]at this;cases this
 have c4:=(box_ch x4 hc (nd x4)).cell;have c5:=(box_ch x5 hc (nd x5)).cell;refine⟨_,?_,hR W' hc⟩;simp[results,Tryz.f32,go_sem,h4,h5,c4,c5]
theorem fin_ready {W W':World} {Ds:List Nat} (hrd:Ready b B F W (p 1) (p 4) (l 1) (l 4) (c 1) (c 4) g x) (hgr:w.grownBy W (some b)) (hbw:b<w.heap.size) (hm:Mk w.heap.size Ds W) (hc:Ch (fun q=>q∈Ds) W W'):Ready b B F W' (p 1) (p 4) (l 1) (l 4) (c 1) (c 4) g x∧w.grownBy W' (some b):=by
 refine⟨ready_ch hrd hc (fun k=>by have:=(hm.at_ _ k).1;omega) (fun q k cs fr hh=>by rw[(hm.at_ _ k).2]at hh;cases hh),⟨hc.os.trans hgr.os,hc.tape.trans hgr.tape,hc.output.trans hgr.output,Nat.le_trans hgr.size hc.size,fun j hj hne=>(hc.blk j (Nat.lt_of_lt_of_le hj hgr.size) (fun k=>?_)).trans (hgr.block j hj hne)⟩⟩;have:=(hm.at_ _ k).1;omega
theorem store_two {W:World} {va:Option Addr} {n cv b6 N:Nat} (h:Rb w sb b B F p l c g x va n cv b6 N W) (hbw:b<w.heap.size) (v4 v5:Value) :
  Boxed ((W.setCell ⟨w.heap.size+1+1,0,none⟩ v4).setCell ⟨w.heap.size+1+1+1,0,none⟩ v5) (w.heap.size+1+1) 52 v4∧Boxed ((W.setCell ⟨w.heap.size+1+1,0,none⟩ v4).setCell ⟨w.heap.size+1+1+1,0,none⟩ v5) (w.heap.size+1+1+1) 4 v5 ∧
  Ch (fun q=>q=w.heap.size+1+1∨q=w.heap.size+1+1+1) W ((W.setCell ⟨w.heap.size+1+1,0,none⟩ v4).setCell ⟨w.heap.size+1+1+1,0,none⟩ v5)∧Ready b B F ((W.setCell ⟨w.heap.size+1+1,0,none⟩ v4).setCell ⟨w.heap.size+1+1+1,0,none⟩ v5) (p 1) (p 4) (l 1) (l 4) (c 1) (c 4) g x ∧
  w.grownBy ((W.setCell ⟨w.heap.size+1+1,0,none⟩ v4).setCell ⟨w.heap.size+1+1+1,0,none⟩ v5) (some b):=by
 have hc:Ch (fun q=>q=w.heap.size+1+1∨q=w.heap.size+1+1+1) W ((W.setCell ⟨w.heap.size+1+1,0,none⟩ v4).setCell ⟨w.heap.size+1+1+1,0,none⟩ v5) :=
  ((Ch.set W ⟨w.heap.size+1+1,0,none⟩ v4).mono (fun q hq=>.inl hq)).trans ((Ch.set _ ⟨w.heap.size+1+1+1,0,none⟩ v5).mono (fun q hq=>.inr hq))
 refine⟨box_ch (h.k4.set v4) (Ch.set _ ⟨w.heap.size+1+1+1,0,none⟩ v5) (by simp),(box_ch h.k5 (Ch.set W ⟨w.heap.size+1+1,0,none⟩ v4) (by simp)).set v5,hc,ready_ch h.rd hc Om ?_,?_⟩
 · intro q hq cs fr hh;rcases hq with e|e
   · subst e;rw[show W.heap[_]? = _ from h.k4]at hh;injection hh with hh;injection hh with _ hh _;exact absurd hh (by decide)
   subst e;rw[show W.heap[_]? = _ from h.k5]at hh;injection hh with hh;injection hh with _ hh _;exact absurd hh (by decide)
 exact⟨hc.os.trans h.gr.os,hc.tape.trans h.gr.tape,hc.output.trans h.gr.output,Nat.le_trans h.gr.size hc.size,fun j hj hne=>(hc.blk j (Nat.lt_of_lt_of_le hj h.gr.size) Om).trans (h.gr.block j hj hne)⟩
set_option maxRecDepth 100000 in
set_option maxHeartbeats 6400000 in
theorem routesOf_impl (va:Option Addr) (n cv:Nat) (vs:List Int) (h:Sc sb b B F p l c g o e x ea da el ec dl dc env ds w) (hf:Fine n l g x) (hr:IntRow w va n vs) (hna:∀a o,va=some ⟨a,o,none⟩→a≠b) (hn1:1≤n) (hv:∀i,-3≤zAt vs i∧zAt vs i<n) :
  Calls Tryz.prog 32 #[.pointer (some ⟨sb,0,none⟩),.slice va n cv] w fun e' w' =>
   ((okV g (l 1) o e x (l 4) env ds vs n=true∧∃N,e' = .returned (.tuple #[.slice (some ⟨N,0,none⟩) n n,.bool true])∧w.heap.size≤N∧RtLaid w' N n n (valR g (l 1) o e x (l 4) env ds vs n)) ∨
    (okV g (l 1) o e x (l 4) env ds vs n=false∧e' = .returned (.tuple #[.slice none 0 0,.bool false])))∧Sc sb b B F p l c g o e x ea da el ec dl dc env ds w'∧w.grownBy w' (some b):=by
 obtain⟨vb,vo,rfl,-⟩:=hr.cell 0 Om;have HS:=hid h;have HF:=hid hf;have HR:=hid hr;have HNa:=hid hna;have HV:=hid hv;have hn4:=hf.few;have hbw:b<w.heap.size:=by rcases h.ready with ⟨h1,_⟩|⟨V,F',hm⟩;exact h1.lt;exact hm.row.lt
 clear h hf hr hna hv;refine(callsIn_wide (n:=9)).1 ?_;refine callsIn_of_wp_marks Tryz.func32 rfl trivial ?_ rfl;simp only[Tryz.ntmps32,List.size_toArray,List.length_cons,List.length_nil,Nat.reduceAdd,Nat.reduceSub,Array.replicate_succ,Array.replicate_zero,List.push_toArray,List.append_toArray,List.nil_append,List.cons_append];gi_wp2;refine⟨trivial,(callsIn_wide.2 (noRoutes_impl n Om _)).mono ?_⟩;rintro e' w1 ⟨N,rfl,hN,hl1,hb1⟩;have HL1:=hid hl1;have HB1:=hid hb1;have hb0:Below w.heap.size w ((((w.alloc (.cells #[.pointer (some ⟨sb,0,none⟩)] 94)).alloc (.cells #[.slice (some ⟨vb,vo,none⟩) n cv] 25)).alloc (.cells #[.slice none 0 0] 52)).alloc (.cells #[.bool false] 4)):=Bl;have x2:Boxed w1 w.heap.size 94 (.pointer (some ⟨sb,0,none⟩)):=(hb1.block _ (by first|(simp;done)|(simp;omega))).trans ((((Boxed.new w _ _).alloc _).alloc _).alloc _);have x3:Boxed w1 (w.heap.size+1) 25 (.slice (some ⟨vb,vo,none⟩) n cv):=(hb1.block _ (by first|(simp;done)|(simp;omega))).trans ((((show Boxed _ _ _ _ from by have:=Boxed.new (w.alloc (.cells #[.pointer (some ⟨sb,0,none⟩)] 94)) 25 (.slice (some ⟨vb,vo,none⟩) n cv);rwa [World.size_alloc]at this).alloc _).alloc _));have x4:Boxed w1 (w.heap.size+1+1) 52 (.slice none 0 0):=(hb1.block _ (by first|(simp;done)|(simp;omega))).trans ((show Boxed _ _ _ _ from by have:=Boxed.new ((w.alloc (.cells #[.pointer (some ⟨sb,0,none⟩)] 94)).alloc (.cells #[.slice (some ⟨vb,vo,none⟩) n cv] 25)) 52 (.slice none 0 0);rwa [World.size_alloc,World.size_alloc]at this).alloc _);have x5:Boxed w1 (w.heap.size+1+1+1) 4 (.bool false):=(hb1.block _ (by first|(simp;done)|(simp;omega))).trans (show Boxed _ _ _ _ from by have:=Boxed.new (((w.alloc (.cells #[.pointer (some ⟨sb,0,none⟩)] 94)).alloc (.cells #[.slice (some ⟨vb,vo,none⟩) n cv] 25)).alloc (.cells #[.slice none 0 0] 52)) 4 (.bool false);rwa [World.size_alloc,World.size_alloc,World.size_alloc]at this);have hbw1:Below w.heap.size w w1:=hb0.trans (hb1.mono hb0.size);have hz1:w.heap.size+1+1+1+1≤w1.heap.size:=by have:=hb1.size;simpa using this
 have hNs:w.heap.size+1+1+1+1≤N∧N<w1.heap.size:=⟨by simpa using hN,by obtain⟨f,hf,-⟩:=hl1.row;exact hf.lt⟩;have HRb0:Hid (Rb w sb b B F p l c g x (some ⟨vb,vo,none⟩) n cv w1.heap.size N (w1.alloc (.cells #[.slice (some ⟨N,0,none⟩) n n] 52))):=hid ⟨x2.alloc _,x3.alloc _,x4.alloc _,x5.alloc _,Boxed.new _ _ _,Ready.below HS.out.ready (hbw1.alloc hbw1.size _),grown_of_below (hbw1.alloc hbw1.size _) _⟩;have HL0:Hid (RtLaid (w1.alloc (.cells #[.slice (some ⟨N,0,none⟩) n n] 52)) N n n noRs):=hid (hl1.below Bl);have q3:=x3.cell;have l3:=x3.lt;clear hl1 hb1 hb0 x2 x3 x4 x5 hN;gi_wp2;clear q3 l3;obtain⟨W0,hW0⟩:∃W0,w1.alloc (.cells #[.slice (some ⟨N,0,none⟩) n n] 52)=W0:=⟨_,rfl⟩;rw[hW0]at HRb0 HL0 ⊢;obtain⟨b6,hb6⟩:∃b6,w1.heap.size=b6:=⟨_,rfl⟩;rw[hb6]at HRb0 hNs hz1 ⊢;clear hW0 HB1 HL1 hbw1;refine wpIn_loop (fun a' W=>∃(k:Nat) (rs:Rs) (D:Nat→Bool) (Ds:List Nat) (u7 u8 u9 u20 u21 u22 u23 u24 u25 u26 u27 u28 u29 u30 u31 u51:Value),a' = ⟨#[.pointer (some ⟨sb,0,none⟩),.slice (some ⟨vb,vo,none⟩) n cv,.pointer (some ⟨w.heap.size,0,none⟩),.pointer (some ⟨w.heap.size+1,0,none⟩),.pointer (some ⟨w.heap.size+1+1,0,none⟩),.pointer (some ⟨w.heap.size+1+1+1,0,none⟩),.pointer (some ⟨b6,0,none⟩),u7,u8,u9,undef,undef,undef,undef,.slice (some ⟨vb,vo,none⟩) n cv,.int .i64 (n:Int),.slice (some ⟨N,0,none⟩) n n,.slice (some ⟨vb,vo,none⟩) n cv,.int .i64 (n:Int),.int .i64 (k:Int),u20,u21,u22,u23,u24,u25,u26,u27,u28,u29,u30,u31,undef,undef,undef,undef,undef,undef,undef,undef,undef,undef,undef,undef,undef,undef,undef,undef,undef,undef,undef,u51,undef],Ds.map markD⟩∧k≤n∧Rb w sb b B F p l c g x (some ⟨vb,vo,none⟩) n cv b6 N W∧RtLaid W N n n rs∧St g (l 1) o e x (l 4) env ds vs n D rs∧(∀j,j<k→D j=true)∧Mk w.heap.size Ds W) (fun a' _=>n - (intOf (a'.tmps.getD 19 undef)).toNat) ?start ?round
 case start=>exact⟨0,noRs,fun _=>false,[],_,_,_,_,_,_,_,_,_,_,_,_,_,_,_,_,rfl,Nat.zero_le _,HRb0.out,HL0.out,St.start,fun j hj=>absurd hj (Nat.not_lt_zero _),Mk.nil _ _⟩
 case round =>
  rintro a' W ⟨k,rs,D,Ds,u7,u8,u9,u20,u21,u22,u23,u24,u25,u26,u27,u28,u29,u30,u31,u51,rfl,hk,hrb,hlay,hst,hd,hmk⟩;have HRb:=hid hrb;have HL:=hid hlay;have HSt:=hid hst;have HD:=hid hd;have HM:=hid hmk;have q3:=hrb.k3.cell;have HIR:Hid (∀W,w.grownBy W (some b)→IntRow W (some ⟨vb,vo,none⟩) n vs):=hid (fun W hg=>intOff HR.out (fun q o v hq hc=>grown_cell hg q o v hq hc) (fun q o _ e=>HNa.out q o e));clear hrb hlay hst hd hmk HRb0 HL0;by_cases hlt:k<n
  · have dlt:decide ((k:Int)<(n:Int))=true:=decide_eq_true Om;gi_wp2;refine⟨trivial,(callsIn_wide.2 (way_impl _ n cv vs (k:Int) W (HIR.out W HRb.out.gr) (fun j=>(HV.out j).2) Om hn4)).mono ?_⟩;rintro e' w2 ⟨hb2,⟨m,v,hm,hcnt,rfl,hown⟩|⟨rfl,hno⟩⟩
    · have hc2:=Ch.below (fun _=>False) hb2;have HRb2:=hid (HRb.out.ch hbw hc2 (fun q hq=>hq.elim));have HL2:=hid (laid_ch HL.out hc2 (fun hq=>hq));have HM2:=hid (HM.out.ch hc2 (fun _ _ hq=>hq));obtain⟨m',rfl,-⟩:=cnt_one hcnt Om;obtain⟨gb,cap,rfl⟩:=ownsRow_succ (show w2.ownsRow W.heap.size 3 1 v (m' + 1) _ from by have:=hown;unfold OwnInts at this;rwa [wayL_len]at this);have HO:=hid hown;have HC:=hid hcnt;have hgb:=own_lt hown (show Value.ownBlock _=some gb from rfl);have hzW:b6<W.heap.size:=HRb.out.k6.lt;clear hb2 hc2 hown hcnt q3 HRb HL HM;gi_wp2;refine⟨trivial,(callsIn_wide.2 (back_impl _ _ _ _)).mono ?_⟩;rintro e' w3 ⟨rfl,hw3⟩;have HRb3:Hid (Rb w sb b B F p l c g x (some ⟨vb,vo,none⟩) n cv b6 N w3):=hid (by rw[hw3];exact HRb2.out.ch hbw (Ch.alloc (fun _=>False) _ _) (fun q hq=>hq.elim));have HL3:Hid (RtLaid w3 N n n rs):=hid (by rw[hw3];exact laid_ch HL2.out (Ch.alloc (fun _=>False) _ _) (fun hq=>hq));have HM3:Hid (Mk w.heap.size Ds w3):=hid (by rw[hw3];exact HM2.out.ch (Ch.alloc (fun _=>False) _ _) (fun _ _ hq=>hq));have HBx:Hid (Boxed w3 w2.heap.size 25 (.slice (some ⟨gb,0,none⟩) (m' + 1) cap)):=hid (by rw[hw3];exact Boxed.new _ _ _);have HO3:Hid (OwnInts W.heap.size w3 (.slice (some ⟨gb,0,none⟩) (m' + 1) cap) (wayL vs k (m' + 1))):=hid (by rw[hw3];exact HO.out.below Bl);have hz2:w2.heap.size<w3.heap.size:=by rw[hw3];simp
      obtain⟨Bs,hBs⟩:∃Bs,w2.heap.size=Bs:=⟨_,rfl⟩;rw[hBs]at HBx hz2 hgb ⊢;clear hw3 HRb2 HL2 HM2 HO;have hz3:w.heap.size≤w3.heap.size:=HRb3.out.gr.size;have hb6w:b6<w3.heap.size:=HRb3.out.k6.lt;have hnn:∀t:Nat,(itr vs t (k:Int)).toNat<n:=fun t=>by have:=itr_lt (fun j=>(HV.out j).2) (show (k:Int)<n by omega) t;omega
      obtain⟨f,hf⟩:∃f:Nat→{ y:Nat × Nat // y.2<n },∀t,f t=⟨(m' - t,(itr vs (m' - t) (k:Int)).toNat),hnn _⟩:=⟨_,fun _=>rfl⟩;have HFf:=hid hf;have hbd0:∀j,j<n→(-3≤(rs j).via∧(rs j).via<n)∧0≤(rs j).len∧(rs j).len≤402:=fun j hj=>HSt.out.bounds hn4 HV.out HF.out.cost hj;have HBd0:=hid hbd0;clear hf hbd0;gi_wp2
      refine wpIn_rangeFunc_ownG (α:={ y:Nat × Nat // y.2<n }) rfl Om (gf:=106) (lb:=#[.pointer (some ⟨Bs,0,none⟩)]) rfl trivial (enters_of Tryz.func106 Kr rfl)
       (back_stops (fun y=>#[.int .i64 (y.1.1:Int),.int .i64 (y.1.2:Int)]) f (9 - 1) Bs (m' + 1) cap (some ⟨gb,0,none⟩) (wayL vs k (m' + 1)) ?he (Kc Bs gb) ?hK w3 ⟨HBx.out.cell,row_of_own HO3.out⟩) Kc.trans (fun W l o o' _ h hc _=>Kc.put h hc) Bz (fun _=>rfl)
       (fun pre W=>∃rs',Rb w sb b B F p l c g x (some ⟨vb,vo,none⟩) n cv b6 N W∧RtLaid W N n n rs'∧(∀j,j<n→(-3≤(rs' j).via∧(rs' j).via<n)∧0≤(rs' j).len∧(rs' j).len≤402+100*(pre.length:Int))∧((∃t,t≤m' + 1∧pre=upto f t)→∃D',St g (l 1) o e x (l 4) env ds vs n D' rs'∧(∀j,D j=true→D' j=true)∧∀t,t<pre.length→D' (itr vs (m' - t) (k:Int)).toNat=true)∧Mk w.heap.size Ds W)
       (fun c' pre W=>c' = .ret∧Rb w sb b B F p l c g x (some ⟨vb,vo,none⟩) n cv b6 N W∧((∃t,t≤m' + 1∧pre=upto f t)→okV g (l 1) o e x (l 4) env ds vs n=false)∧Mk w.heap.size Ds W) ?hI ?hIx ?h0 (fun y=>⟨#[.pointer (some ⟨sb,0,none⟩),.slice (some ⟨vb,vo,none⟩) n cv,.pointer (some ⟨w.heap.size,0,none⟩),.pointer (some ⟨w.heap.size+1,0,none⟩),.pointer (some ⟨w.heap.size+1+1,0,none⟩),.pointer (some ⟨w.heap.size+1+1+1,0,none⟩),.pointer (some ⟨b6,0,none⟩),.int .i64 (k:Int),.slice (some ⟨gb,0,none⟩) (m' + 1) cap,.bool true,undef,.int .i64 (y.1.2:Int),undef,undef,.slice (some ⟨vb,vo,none⟩) n cv,.int .i64 (n:Int),.slice (some ⟨N,0,none⟩) n n,.slice (some ⟨vb,vo,none⟩) n cv,.int .i64 (n:Int),.int .i64 (k:Int),.bool true,.int .i64 (k:Int),.tuple #[.slice (some ⟨gb,0,none⟩) (m' + 1) cap,.bool true],.slice (some ⟨vb,vo,none⟩) n cv,.int .i64 (k:Int),.tuple #[.slice (some ⟨gb,0,none⟩) (m' + 1) cap,.bool true],.slice (some ⟨gb,0,none⟩) (m' + 1) cap,.bool true,.bool true,.bool false,.slice (some ⟨gb,0,none⟩) (m' + 1) cap,.func (.func 106) #[] #[.pointer (some ⟨Bs,0,none⟩)],.int .i64 (y.1.1:Int),.int .i64 (y.1.2:Int),undef,undef,undef,undef,undef,undef,undef,undef,undef,undef,undef,undef,undef,undef,undef,undef,undef,u51,undef],[]⟩) ?assign ?body ?done ?stop
      case he =>
       intro t ht;have hi:=(cnt_itr HC.out).1 (m' - t) Om
       try dsimp only
       rw[HFf.out t,wayL_get (show m' + 1 - 1 - t<m' + 1 by omega),show m' + 1 - 1 - t=m' - t by omega]
       try dsimp only
       rw[Int.toNat_of_nonneg hi,show ((m' - t:Nat):Int)=((m' + 1:Nat):Int) - 1 - t by omega]
      case hK =>
       rintro W W' hkc ⟨h1,h2⟩;refine⟨hkc.1 _ h1,h2.length,h2.most,fun i hi=>?_⟩;obtain⟨b',off',e',hc'⟩:=h2.cell i hi;injection e' with e';injection e' with e1 e2;subst e1 e2;exact⟨_,_,rfl,hkc.2 _ _ hc'⟩
      case hI =>
       rintro pre A B' row ⟨rs',h1,h2,h3,h4,h5⟩ hg hr;exact⟨rs',h1.own hbw hg (fun r e=>⟨by have:=(hr r e).1;omega,(hr r e).2⟩),laid_own h2 hg (fun r e=>(hr r e).2),h3,h4,h5.ch (Ch.of_grown hg) (fun D hD e=>by have:=(hr D e.symm).1;have:=HM3.out.lt hD;omega)⟩
      case hIx =>
       rintro c' pre A B' row ⟨h0,h1,h2,h5⟩ hg hr;exact⟨h0,h1.own hbw hg (fun r e=>⟨by have:=(hr r e).1;omega,(hr r e).2⟩),h2,h5.ch (Ch.of_grown hg) (fun D hD e=>by have:=(hr D e.symm).1;have:=HM3.out.lt hD;omega)⟩
      case h0 =>
       exact⟨rs,HRb3.out,HL3.out,fun j hj=>by have:=HBd0.out j hj;simp only[List.length_nil];omega,fun _=>⟨D,HSt.out,fun j hj=>hj,fun t ht=>absurd ht (Nat.not_lt_zero _)⟩,HM3.out⟩
      case assign =>
       intro l' y W' K hK;gi_wp2;exact hK
      case body =>
       rintro l' pre ⟨⟨idx,at_⟩,hat⟩ W' ⟨rs',hrb,hlay,hbd,hpre,hmk⟩ hpl;dsimp only at hat;have HRr:=hid hrb;have HLr:=hid hlay;have HBd:=hid hbd;have HPre:=hid hpre;have HMr:=hid hmk;have HPl:=hid hpl;clear hrb hlay hbd hpre hmk hpl;have hati:(at_:Int)<(n:Int):=by omega
       have hGd:sceneBy.Good n l g x rs' := ⟨hn4,HF.out.uniq,HF.out.cost,HF.out.deed,fun i hi=>(HBd.out i hi).1,fun i hi=>by have:=HBd.out i hi;have:=HPl.out;omega⟩;have HGd:=hid hGd;obtain⟨O,hO⟩:∃O,byVia g (l 1) o e x (l 4) env ds rs' n (at_:Int) (vs[at_]?.getD 0)=O:=⟨_,rfl⟩;have HO:=hid hO;obtain⟨⟨rv,rp,rl,rm⟩,hq⟩:∃q,O.getD zRt=q:=⟨_,rfl⟩;obtain⟨okb,hqs⟩:∃q,O.isSome=q:=⟨_,rfl⟩;have HQ:=hid (And.intro hq hqs);have hbW:W'.heap.size≤W'.heap.size:=Nat.le_refl _;have hzW':w3.heap.size≤W'.heap.size∨True:=.inr trivial
       have HBy:Hid (∀w8:World,Rb w sb b B F p l c g x (some ⟨vb,vo,none⟩) n cv b6 N w8→RtLaid w8 N n n rs'→Calls Tryz.prog 67 #[.pointer (some ⟨sb,0,none⟩),.int .i64 (at_:Int),.int .i64 (vs[at_]?.getD 0),.slice (some ⟨N,0,none⟩) n n] w8 fun e' w'=>e' = .returned (.tuple #[.agg #[.int .i64 rv,.int .i64 rp,.int .i64 rl,.bool rm],.bool okb])∧Sc sb b B F p l c g o e x ea da el ec dl dc env ds w'∧w8.grownBy w' (some b)):=hid (fun w8 h8 hl8=>by
        have h:=by_impl sb b B F p l c g o e x ea da el ec dl dc env ds (some ⟨N,0,none⟩) n n rs' at_ (vs[at_]?.getD 0) w8 (h8.sc HS.out) HGd.out (hl8.is (by unfold maxLen;omega)) (fun a o e=>by injection e with e;injection e with e1 _;omega) hat (HV.out at_).1 (HV.out at_).2;rw[HO.out,hq,hqs]at h
        exact h)
       clear hO hq hqs hGd;refine wpIn_block ?_;refine wpIn_seq_k fun K hK=>?_
       refine drawnIn.region_all (fun u=>⟨#[.pointer (some ⟨sb,0,none⟩),.slice (some ⟨vb,vo,none⟩) n cv,.pointer (some ⟨w.heap.size,0,none⟩),.pointer (some ⟨w.heap.size+1,0,none⟩),.pointer (some ⟨w.heap.size+1+1,0,none⟩),.pointer (some ⟨w.heap.size+1+1+1,0,none⟩),.pointer (some ⟨b6,0,none⟩),.int .i64 (k:Int),.slice (some ⟨gb,0,none⟩) (m' + 1) cap,.bool true,undef,.int .i64 (at_:Int),u 12,undef,.slice (some ⟨vb,vo,none⟩) n cv,.int .i64 (n:Int),.slice (some ⟨N,0,none⟩) n n,.slice (some ⟨vb,vo,none⟩) n cv,.int .i64 (n:Int),.int .i64 (k:Int),.bool true,.int .i64 (k:Int),.tuple #[.slice (some ⟨gb,0,none⟩) (m' + 1) cap,.bool true],.slice (some ⟨vb,vo,none⟩) n cv,.int .i64 (k:Int),.tuple #[.slice (some ⟨gb,0,none⟩) (m' + 1) cap,.bool true],.slice (some ⟨gb,0,none⟩) (m' + 1) cap,.bool true,.bool true,.bool false,.slice (some ⟨gb,0,none⟩) (m' + 1) cap,.func (.func 106) #[] #[.pointer (some ⟨Bs,0,none⟩)],.int .i64 (idx:Int),.int .i64 (at_:Int),u 34,u 35,u 36,u 37,u 38,u 39,u 40,u 41,u 42,u 43,u 44,undef,undef,undef,undef,undef,undef,u51,undef],[]⟩) (fun i=>[35,36,37,38,39,40,41,42,34,43,44,12,99].getD i 0)
        (fun L u w8=>drawnIn.Known 11 (fun i=>[35,36,37,38,39,40,41,42,34,43,44,12,99].getD i 0) (fun i=>[Value.pointer (some ⟨sb,0,none⟩),.int .i64 (at_:Int),.slice (some ⟨vb,vo,none⟩) n cv,.int .i64 (at_:Int),.pointer (some ⟨vb,vo+at_,none⟩),.int .i64 (vs[at_]?.getD 0),.slice (some ⟨N,0,none⟩) n n,.tuple #[.agg #[.int .i64 rv,.int .i64 rp,.int .i64 rl,.bool rm],.bool okb],.tuple #[.agg #[.int .i64 rv,.int .i64 rp,.int .i64 rl,.bool rm],.bool okb],.agg #[.int .i64 rv,.int .i64 rp,.int .i64 rl,.bool rm],.bool okb].getD i undef) L u ∧
         (L 12=true→L 11=true)∧(L 11=true→∃q x0 x1 x2 x3,u 12=.pointer (some ⟨q,0,none⟩)∧W'.heap.size≤q∧w8.heap[q]? = some (.cells #[x0,x1,x2,x3] 106 (0,0))∧(L 12=true→x0=.int .i64 rv∧x1=.int .i64 rp∧x2=.int .i64 rl∧x3=.bool rm)) ∧
         Rb w sb b B F p l c g x (some ⟨vb,vo,none⟩) n cv b6 N w8∧W'.grownBy w8 (some b)) 13 (fun k=>undef) rfl Kr Kr rfl ⟨by kernel_rfl,by kernel_rfl,by kernel_rfl,by decide⟩ Kr ?hS ?hput ?step ?last
       case hS=>exact⟨drawnIn.Known.none _ _ _ _,fun h=>(by cases h),fun h=>(by cases h),HRr.out.ch hbw (Ch.below (fun _=>False) (Bz.drew)) (fun q hq=>hq.elim),grown_of_below (Bz.drew) _⟩
       case hput =>
        intro i hi u v
        iterate 13 (rcases i with _|i;rfl)
        exact absurd hi Om
       case step =>
        intro i hi L u w8 hL hdep hinv;obtain⟨hk8,h12,hbx,hrb,hgr⟩:=hinv;have hinj:∀a b',a<11→b' < 11→[35,36,37,38,39,40,41,42,34,43,44,12,99].getD a 0=[35,36,37,38,39,40,41,42,34,43,44,12,99].getD b' 0→a=b' := fun a b' ha hb' h=>drawn.slots_inj [35,36,37,38,39,40,41,42,34,43,44,12,99] (by decide) (by simp;omega) (by simp;omega) h
        match i,hi with
        | 0,_ =>
         have q:=hrb.k2.cell;refine⟨_,rfl,fun K' hK=>?_⟩;go_simp;exact hK.out _ _ ⟨hk8.put hinj Om rfl,h12,hbx,hrb,hgr⟩
        | 1,_ =>
         refine⟨_,rfl,fun K' hK=>?_⟩;go_simp;exact hK.out _ _ ⟨hk8.put hinj Om rfl,h12,hbx,hrb,hgr⟩
        | 2,_ =>
         have q:=hrb.k3.cell;refine⟨_,rfl,fun K' hK=>?_⟩;go_simp;exact hK.out _ _ ⟨hk8.put hinj Om rfl,h12,hbx,hrb,hgr⟩
        | 3,_ =>
         refine⟨_,rfl,fun K' hK=>?_⟩;go_simp;exact hK.out _ _ ⟨hk8.put hinj Om rfl,h12,hbx,hrb,hgr⟩
        | 4,_ =>
         have h2:u 37=.slice (some ⟨vb,vo,none⟩) n cv:=hk8 2 Om (hdep 2 Kr);have h3:u 38=.int .i64 (at_:Int):=hk8 3 Om (hdep 3 Kr);refine⟨_,rfl,fun K' hK=>?_⟩;simp only[h2,h3]at hK ⊢;go_simp;exact hK.out _ _ ⟨hk8.put hinj Om rfl,h12,hbx,hrb,hgr⟩
        | 5,_ =>
         have h4:u 39=.pointer (some ⟨vb,vo+at_,none⟩):=hk8 4 Om (hdep 4 Kr);obtain⟨vb',vo',ev,q⟩:=(HIR.out w8 hrb.gr).cell at_ hat;injection ev with ev;injection ev with e1 e2;subst e1 e2;refine⟨_,rfl,fun K' hK=>?_⟩;simp only[h4]at hK ⊢;go_simp;exact hK.out _ _ ⟨hk8.put hinj Om rfl,h12,hbx,hrb,hgr⟩
        | 6,_ =>
         have q:=hrb.k6.cell;refine⟨_,rfl,fun K' hK=>?_⟩;go_simp;exact hK.out _ _ ⟨hk8.put hinj Om rfl,h12,hbx,hrb,hgr⟩
        | 7,_ =>
         have h0:u 35=.pointer (some ⟨sb,0,none⟩):=hk8 0 Om (hdep 0 Kr);have h1:u 36=.int .i64 (at_:Int):=hk8 1 Om (hdep 1 Kr);have h5:u 40=.int .i64 (vs[at_]?.getD 0):=hk8 5 Om (hdep 5 Kr);have h6:u 41=.slice (some ⟨N,0,none⟩) n n:=hk8 6 Om (hdep 6 Kr);refine⟨_,rfl,fun K' hK=>?_⟩;simp only[h0,h1,h5,h6]at hK ⊢;go_simp;refine(HBy.out w8 hrb (laid_ch HLr.out (Ch.of_grown hgr) (fun e=>by injection e with e;omega))).mono ?_;rintro e9 w9 ⟨rfl,hs9,hg9⟩;refine hK.out _ _ ⟨hk8.put hinj Om rfl,h12,fun h=>?_,hrb.call hbw Om hg9 hs9.ready,gtrans hgr hg9⟩;obtain⟨q,x0,x1,x2,x3,y1,y2,y3,y4⟩:=hbx h;have hbW':b<W'.heap.size:=Nat.lt_of_lt_of_le hbw HRr.out.gr.size;exact⟨q,x0,x1,x2,x3,y1,y2,(hg9.block q (Array.getElem?_eq_some_iff.1 y3).1 (fun e=>by injection e with e;omega)).trans y3,y4⟩
        | 8,_ =>
         have h7:u 42=.tuple #[.agg #[.int .i64 rv,.int .i64 rp,.int .i64 rl,.bool rm],.bool okb]:=hk8 7 Om (hdep 7 Kr);refine⟨_,rfl,fun K' hK=>?_⟩;simp only[h7]at hK ⊢;go_simp;exact hK.out _ _ ⟨hk8.put hinj Om rfl,h12,hbx,hrb,hgr⟩
        | 9,_ =>
         have h8:u 34=.tuple #[.agg #[.int .i64 rv,.int .i64 rp,.int .i64 rl,.bool rm],.bool okb]:=hk8 8 Om (hdep 8 Kr);refine⟨_,rfl,fun K' hK=>?_⟩;simp only[h8]at hK ⊢;go_simp;exact hK.out _ _ ⟨hk8.put hinj Om rfl,h12,hbx,hrb,hgr⟩
        | 10,_ =>
         have h8:u 34=.tuple #[.agg #[.int .i64 rv,.int .i64 rp,.int .i64 rl,.bool rm],.bool okb]:=hk8 8 Om (hdep 8 Kr);refine⟨_,rfl,fun K' hK=>?_⟩;simp only[h8]at hK ⊢;go_simp;exact hK.out _ _ ⟨hk8.put hinj Om rfl,h12,hbx,hrb,hgr⟩
        | 11,_ =>
         refine⟨_,rfl,fun K' hK=>?_⟩;go_simp;refine hK.out _ _ ⟨hk8.other Om (by decide) _,fun _=>rfl,fun _=>⟨w8.heap.size,_,_,_,_,rfl,hgr.size,World.alloc_heap_new _ _,fun h=>?_⟩,hrb.ch hbw (Ch.alloc (fun _=>False) _ _) (fun q hq=>hq.elim),gtrans hgr (grown_of_below Bl _)⟩;have:=h12 h;rw[hL]at this;cases this
        | 12,_ =>
         have h9:u 43=.agg #[.int .i64 rv,.int .i64 rp,.int .i64 rl,.bool rm]:=hk8 9 Om (hdep 9 Kr);obtain⟨q,x0,x1,x2,x3,y1,y2,y3,y4⟩:=hbx (hdep 11 Kr);obtain⟨⟨c0,c1,c2,c3⟩,f0,f1,f2,f3⟩:=box_cells y3;refine⟨_,rfl,fun K' hK=>?_⟩;simp only[h9,y1]at hK ⊢;go_simp;have hch:=ch4 w8 q 0 (.int .i64 rv) (.int .i64 rp) (.int .i64 rl) (.bool rm);refine hK.out undef _ ⟨hk8.other Om (by decide) _,fun _=>hdep 11 Kr,fun _=>⟨q,_,_,_,_,y1,y2,box4 y3 _ _ _ _,fun _=>⟨rfl,rfl,rfl,rfl⟩⟩,hrb.ch hbw hch (fun q' hq'=>?_),⟨hch.os.trans hgr.os,hch.tape.trans hgr.tape,hch.output.trans hgr.output,Nat.le_trans hgr.size hch.size,fun j hj hne=>(hch.blk j (Nat.lt_of_lt_of_le hj hgr.size) (fun h2=>?_)).trans (hgr.block j hj hne)⟩⟩
         · subst hq';refine⟨by have:=HRr.out.k6.lt;omega,fun e=>by have:=HRr.out.k6.lt;omega,fun cs fr hh=>?_⟩;rw[y3]at hh;injection hh with hh;injection hh with _ hh _;exact absurd hh (by decide)
         subst h2;exfalso;omega
        | i+13,hi=>exact absurd hi Om
       intro L u w8 hL hinv;obtain⟨hk8,h12,hbx,hrb,hgr⟩:=hinv;obtain⟨q,x0,x1,x2,x3,y1,y2,y3,y4⟩:=hbx (hL 11 Om);obtain⟨rfl,rfl,rfl,rfl⟩:=y4 (hL 12 Om);have h10:u 44=.bool okb:=hk8 10 Om (hL 10 Om);have HR8:=hid hrb;have HG8:=hid hgr;have HY3:=hid y3;have hl8:=laid_ch HLr.out (Ch.of_grown hgr) (fun e=>by injection e with e;omega);have HL8:=hid hl8;have HM8:=hid (HMr.out.ch (Ch.of_grown hgr) (fun D hD e=>by injection e with e;have:=(HMr.out.at_ D hD).1;omega));refine⟨_,rfl,fun K' hK'=>?_⟩;simp only[h10,y1];go_simp;refine hK'.out _ _ (hK _ _ ?_);have hbN:¬(some N=some b):=by simp;omega
       have hgW:gb<W'.heap.size∨True:=.inr trivial
       cases okb with
       | false =>
        have q4:=hrb.k4.cell;have q5:=hrb.k5.cell;have z4:=hrb.k4.frozen;have z5:=hrb.k5.frozen
        have HNo:Hid ((∃t,t≤m' + 1∧pre++[(⟨(idx,at_),hat⟩:{ y:Nat × Nat // y.2<n })]=upto f t)→okV g (l 1) o e x (l 4) env ds vs n=false):=hid (by
         rintro ⟨t,ht,he⟩;obtain⟨t',rfl,hp,hy,hl⟩:=upto_snoc he;obtain⟨D',hst',hmo,hall⟩:=HPre.out ⟨t',by omega,hp⟩;rw[hl]at hall;rw[HFf.out t']at hy;injection hy with hy;injection hy with hy1 hy2;obtain⟨hb1,-⟩:=way_step hn4 HV.out HC.out (show t'≤m' by omega) hst' hall (by rw[←hy2];exact hat);rw[←hy2]at hb1;refine ok_none hat ?_;rw[←hb1]
         show byVia g (l 1) o e x (l 4) env ds rs' n (at_:Int) (vs[at_]?.getD 0)=none
         rw[HO.out];have:=HQ.out.2
         cases O with
         | none=>rfl
         | some r=>cases this)
        clear hK' hbx h12 hk8;gi_wp2;obtain⟨y4',y5',hch,hrd,hgr'⟩:=store_two HR8.out hbw (.slice none 0 0) (.bool false)
        exact⟨(KeepsFrom.of_grownBy HG8.out (fun j e=>by injection e with e;omega)).trans (((KeepsOthers.setCell _ _ _).trans (KeepsOthers.setCell _ _ _)).from _),rfl,⟨box_ch HR8.out.k2 hch Om,box_ch HR8.out.k3 hch Om,y4',y5',box_ch HR8.out.k6 hch Om,hrd,hgr'⟩,fun t ht he=>HNo.out ⟨t,ht,he⟩,HM8.out.cells hch (fun q' hq'=>by
         rcases hq' with e|e
         · subst e;exact⟨_,_,_,HR8.out.k4⟩
         subst e;exact⟨_,_,_,HR8.out.k5⟩)⟩
       | true =>
        obtain⟨hO1,hO2⟩:O=some ⟨rv,rp,rl,rm⟩∧True:=by
         have h1:=HQ.out.1;have h2:=HQ.out.2
         cases O with
         | none=>cases h2
         | some r=>exact⟨by rw[←h1];rfl,trivial⟩
        have HO1:=hid hO1;clear hO1 hO2
        have HYes:Hid ((∃t,t≤m' + 1∧pre++[(⟨(idx,at_),hat⟩:{ y:Nat × Nat // y.2<n })]=upto f t)→∃D',St g (l 1) o e x (l 4) env ds vs n D' (fun i=>if i=at_ then ⟨rv,rp,rl,rm⟩ else rs' i)∧(∀j,D j=true→D' j=true)∧∀t,t<(pre++[(⟨(idx,at_),hat⟩:{ y:Nat × Nat // y.2<n })]).length→D' (itr vs (m' - t) (k:Int)).toNat=true):=hid (by
         rintro ⟨t,ht,he⟩;obtain⟨t',rfl,hp,hy,hl⟩:=upto_snoc he;obtain⟨D',hst',hmo,hall⟩:=HPre.out ⟨t',by omega,hp⟩;rw[hl]at hall;rw[HFf.out t']at hy;injection hy with hy;injection hy with hy1 hy2;obtain⟨hb1,hb2⟩:=way_step hn4 HV.out HC.out (show t'≤m' by omega) hst' hall (by rw[←hy2];exact hat);rw[←hy2]at hb1 hb2
         have hv1:val g (l 1) o e x (l 4) env ds vs n (at_:Int)=some ⟨rv,rp,rl,rm⟩:=by
          rw[←hb1]
          show byVia g (l 1) o e x (l 4) env ds rs' n (at_:Int) (vs[at_]?.getD 0)=_
          rw[HO.out,HO1.out]
         refine⟨put D' at_,hb2 _ hv1,fun j hj=>?_,fun t ht=>?_⟩
         · unfold put
           split
           · rfl
           exact hmo j hj
         unfold put
         split
         · rfl
         next hne =>
         rw[List.length_append,hl,List.length_singleton]at ht;by_cases e1:t=t'
         · subst e1;exact absurd hy2.symm hne
         exact hall t Om)
        have HBn:Hid (∀j,j<n→(-3≤((fun i=>if i=at_ then (⟨rv,rp,rl,rm⟩:Rt) else rs' i) j).via∧((fun i=>if i=at_ then (⟨rv,rp,rl,rm⟩:Rt) else rs' i) j).via<n)∧0≤((fun i=>if i=at_ then (⟨rv,rp,rl,rm⟩:Rt) else rs' i) j).len∧((fun i=>if i=at_ then (⟨rv,rp,rl,rm⟩:Rt) else rs' i) j).len≤402+100*((pre++[(⟨(idx,at_),hat⟩:{ y:Nat × Nat // y.2<n })]).length:Int)):=hid (fun j hj=>by
         have hB:=HBd.out j hj;have hlen:((pre++[(⟨(idx,at_),hat⟩:{ y:Nat × Nat // y.2<n })]).length:Int)=(pre.length:Int)+1:=by simp
         rw[hlen];dsimp only
         split
         · have hby:byVia g (l 1) o e x (l 4) env ds rs' n (at_:Int) (vs[at_]?.getD 0)=some ⟨rv,rp,rl,rm⟩:=by rw[HO.out,HO1.out]
           have h1:=by_via hby;have h2:=by_len (HV.out at_) HF.out.cost (fun j hj=>(HBd.out j hj).2) Om hby;have h3:=HV.out at_;unfold zAt at h3;dsimp only at h1 h2 ⊢;rw[h1];exact⟨h3,by omega,by omega⟩
         exact⟨hB.1,by omega,by omega⟩)
        have q6:=hrb.k6.cell;obtain⟨⟨c0,c1,c2,c3⟩,f0,f1,f2,f3⟩:=box_cells y3;obtain⟨ff,hff,-⟩:=hl8.row;have g0:=hff.cell (i:=at_*4) Om;have z0:=hff.frozen (at_*4);have g1:=hff.cell (i:=at_*4+1) Om;have z1:=hff.frozen (at_*4+1);have g2:=hff.cell (i:=at_*4+2) Om;have z2:=hff.frozen (at_*4+2);have g3:=hff.cell (i:=at_*4+3) Om;have z3:=hff.frozen (at_*4+3);have HLs:=hid (laid_set (k:=at_) HL8.out ⟨rv,rp,rl,rm⟩);clear hK' hbx h12 hk8 hff;gi_wp2;have hch:=ch4 w8 N (at_*4) (.int .i64 rv) (.int .i64 rp) (.int .i64 rl) (.bool rm);refine⟨(KeepsFrom.of_grownBy HG8.out (fun j e=>by injection e with e;omega)).trans (((((KeepsOthers.setCell _ _ _).trans (KeepsOthers.setCell _ _ _)).trans (KeepsOthers.setCell _ _ _)).trans (KeepsOthers.setCell _ _ _)).from _),(Kc.ch (Ch.of_grown HG8.out) (fun e=>by injection e with e;omega) (fun e=>by injection e with e;omega)).trans (Kc.ch hch Om Om),HR8.out.ch hbw hch (fun q' hq'=>?_),_,HLs.out,HBn.out,fun t ht he=>HYes.out ⟨t,ht,he⟩,HM8.out.cells hch (fun q' hq'=>?_)⟩
        · subst hq';exact⟨by omega,by omega,laid_not HL8.out⟩
        subst hq';obtain⟨ff,⟨cur,hff,_⟩,_⟩:=HL8.out.row;exact⟨_,_,_,hff⟩
      case done =>
       rintro D1 ys W' hD1 hys ⟨rs',h1,h2,h3,h4,h5⟩ hK;subst hys;obtain⟨D',hst',hmo,hall⟩:=h4 ⟨m' + 1,Nat.le_refl _,rfl⟩;rw[upto_length]at hall;have HRe:=hid h1;have HLe:=hid h2;have HSe:=hid hst'
       have HDe:Hid (∀j,j<k+1→D' j=true):=hid (fun j hj=>by
        by_cases e1:j=k
        · subst e1;have:=hall m' Om;rw[Nat.sub_self]at this;simpa[itr] using this
        exact hmo j (HD.out j Om))
       have HMe:Hid (Mk w.heap.size (D1::Ds) W'):=hid (h5.cons hK Om (fun D2 hD2=>by have:=HM3.out.lt hD2;omega));clear h1 h2 h3 h4 h5 hst' hmo hall hK;gi_wp2;refine⟨⟨k+1,rs',D',D1::Ds,_,_,_,_,_,_,_,_,_,_,_,_,_,_,_,_,rfl,hlt,HRe.out,HLe.out,HSe.out,HDe.out,HMe.out⟩,?_⟩;simp[intOf];omega
      rintro D1 c' pre W' hD1 ⟨t,ht,hpre⟩ ⟨rfl,h1,h2,h5⟩ hK;have HRe:=hid h1;have HNo:=hid (h2 ⟨t,ht,hpre⟩);have HMe:Hid (Mk w.heap.size (D1::Ds) W'):=hid (h5.cons hK Om (fun D2 hD2=>by have:=HM3.out.lt hD2;omega));clear h1 h2 h5 hK;gi_wp2
      exact leave_two rfl rfl HRe.out.k4 HRe.out.k5 HMe.out (fun W'' hc=>by
       obtain⟨hr5,hg5⟩:=fin_ready HRe.out.rd HRe.out.gr hbw HMe.out hc
       exact⟨.inr ⟨HNo.out,rfl⟩,HS.out.step hg5 hr5,hg5⟩)
    have hc2:=Ch.below (fun _=>False) hb2;have HRb2:=hid (HRb.out.ch hbw hc2 (fun q hq=>hq.elim));have HM2:=hid (HM.out.ch hc2 (fun _ _ hq=>hq));have HNo:Hid (okV g (l 1) o e x (l 4) env ds vs n=false):=hid (ok_none hlt (val_none hno Om));have q4:=HRb2.out.k4.cell;have q5:=HRb2.out.k5.cell;have z4:=HRb2.out.k4.frozen;have z5:=HRb2.out.k5.frozen;clear hb2 hc2 hno q3 HRb HL HM;gi_wp2;obtain⟨y4,y5,hch,hrd,hgr⟩:=store_two HRb2.out hbw (.slice none 0 0) (.bool false);refine leave_two rfl rfl y4 y5 (HM2.out.ch hch (fun D hD hq=>?_)) (fun W' hc=>?_)
    · rcases hq with rfl|rfl
      · have:=(HM2.out.at_ _ hD).2;rw[show w2.heap[_]? = _ from HRb2.out.k4]at this;cases this
      have:=(HM2.out.at_ _ hD).2;rw[show w2.heap[_]? = _ from HRb2.out.k5]at this;cases this
    obtain⟨hr5,hg5⟩:=fin_ready hrd hgr hbw (HM2.out.ch hch (fun D hD hq=>by
     rcases hq with rfl|rfl
     · have:=(HM2.out.at_ _ hD).2;rw[show w2.heap[_]? = _ from HRb2.out.k4]at this;cases this
     have:=(HM2.out.at_ _ hD).2;rw[show w2.heap[_]? = _ from HRb2.out.k5]at this;cases this)) hc
    exact⟨.inr ⟨HNo.out,rfl⟩,HS.out.step hg5 hr5,hg5⟩
  have e1:k=n:=by omega
  subst e1;have dlt:decide ((k:Int)<(k:Int))=false:=decide_eq_false Om;have q4:=HRb.out.k4.cell;have q5:=HRb.out.k5.cell;have q6:=HRb.out.k6.cell;have z4:=HRb.out.k4.frozen;have z5:=HRb.out.k5.frozen;obtain⟨hok,hrs⟩:=ok_all HSt.out HD.out;have HOk:=hid hok;have HLn:=hid (laid_congr HL.out hrs);clear hok hrs q3;gi_wp2;obtain⟨y4,y5,hch,hrd,hgr⟩:=store_two HRb.out hbw (.slice (some ⟨N,0,none⟩) k k) (.bool true)
  have hm5:Mk w.heap.size Ds _:=HM.out.ch hch (fun D hD hq=>by
   rcases hq with rfl|rfl
   · have:=(HM.out.at_ _ hD).2;rw[show W.heap[_]? = _ from HRb.out.k4]at this;cases this
   have:=(HM.out.at_ _ hD).2;rw[show W.heap[_]? = _ from HRb.out.k5]at this;cases this)
  refine leave_two rfl rfl y4 y5 hm5 (fun W' hc=>?_);obtain⟨hr5,hg5⟩:=fin_ready hrd hgr hbw hm5 hc;refine⟨.inl ⟨HOk.out,N,rfl,by omega,laid_ch (laid_ch HLn.out hch Om) hc (fun k=>?_)⟩,HS.out.step hg5 hr5,hg5⟩;obtain⟨f,⟨cur,hf,_⟩,_⟩:=(laid_ch HLn.out hch Om).row;have:=(hm5.at_ _ k).2;rw[hf]at this;cases this
end Go.Proofs.YtcnoemjeijjnjaaGreat.rofImpl
