import Derived.Test.YtcnoemjeijjnjaaGreatPart45
set_option linter.unusedVariables false
namespace Go.Proofs.YtcnoemjeijjnjaaGreat.forwardSpec
open Go.RowKit Go.Deep Go base names netSem netSpec netOKSpec routeRow walkSem routesB intsOwn nbSem fwSem walkSpec routesSpec drawn
set_option maxHeartbeats 6400000 in
set_option maxRecDepth 8000 in
theorem forward_spec (p:Nat→Option Addr) (l c:Nat→Nat) (s:Ss) (g:R) (o e:List Int) (x f:R) (da ra:Option Addr) (dl dc rl rc:Nat) (ds:List Bool) (rs:Rs) (fr port:Int) (w:World) (h:NetIs w p l s g o e x f) (hc0:l 0≤c 0) (hc1:l 1≤c 1) (hd:BoolRow w da dl ds) (hr:RtRow w ra rl rs) :
  Calls Tryz.prog 14 #[netV p l c,.slice da dl dc,.slice ra rl rc,.int .i64 fr,.int .i64 port] w fun e' w'=>∃v,e' = .returned (.tuple #[.agg #[.int .i64 (fwO (fC l s g o e x f dl rl ds rs fr port) rs f (l 5) port rl fr),v],.int .i64 (fC l s g o e x f dl rl ds rs fr port)])∧OwnInts w.heap.size w' v (fwP (fC l s g o e x f dl rl ds rs fr port) rs f (l 5) port rl fr)∧Below w.heap.size w w' := by
 have HN:=hid h;have HD:=hid hd;have HT:=hid hr;have m0:=h.routers.most;have M0:=hid m0;have m1:=h.links.most;have md:=hd.most;have mr:=hr.most;have HK0:=hid hc0;have HK1:=hid hc1;unfold maxLen at m0 m1 md mr;clear h hd hr hc0 hc1;obtain⟨C,hC⟩:∃C,fC l s g o e x f dl rl ds rs fr port=C:=⟨_,rfl⟩;rw[hC];have HC:=hid hC;clear hC;unfold fC fwC at HC;obtain⟨ok,hok⟩:∃b,netB l s g o e x f=b:=⟨_,rfl⟩;have HOK:=hid hok;rw[hok]at HC;clear hok
 have C1:Hid (∀w8:World,Below ((w.alloc (.cells #[.slice (p 0) (l 0) (c 0),.slice (p 1) (l 1) (c 1),.slice (p 2) (l 2) (c 2),.slice (p 3) (l 3) (c 3),.slice (p 4) (l 4) (c 4),.slice (p 5) (l 5) (c 5)] 29)).alloc (.cells #[.int .i64 0,.slice none 0 0] 49)).heap.size ((w.alloc (.cells #[.slice (p 0) (l 0) (c 0),.slice (p 1) (l 1) (c 1),.slice (p 2) (l 2) (c 2),.slice (p 3) (l 3) (c 3),.slice (p 4) (l 4) (c 4),.slice (p 5) (l 5) (c 5)] 29)).alloc (.cells #[.int .i64 0,.slice none 0 0] 49)) w8→(w8.cell? ⟨w.heap.size,0,none⟩=some (.slice (p 0) (l 0) (c 0))∧w8.cell? ⟨w.heap.size,1,none⟩=some (.slice (p 1) (l 1) (c 1))∧w8.cell? ⟨w.heap.size,2,none⟩=some (.slice (p 2) (l 2) (c 2))∧w8.cell? ⟨w.heap.size,3,none⟩=some (.slice (p 3) (l 3) (c 3))∧w8.cell? ⟨w.heap.size,4,none⟩=some (.slice (p 4) (l 4) (c 4))∧w8.cell? ⟨w.heap.size,5,none⟩=some (.slice (p 5) (l 5) (c 5)))∧(w8.cell? ⟨w.heap.size+1,0,none⟩=some (.int .i64 0)∧w8.cell? ⟨w.heap.size+1,1,none⟩=some (.slice none 0 0)∧w8.frozen? ⟨w.heap.size+1,0,none⟩=false∧w8.frozen? ⟨w.heap.size+1,1,none⟩=false)∧NetIs w8 p l s g o e x f∧BoolRow w8 da dl ds∧RtRow w8 ra rl rs∧Below w.heap.size w w8∧w.heap.size+2≤w8.heap.size):=fun w8 hb=>by
  have hb0:=(show Below w.heap.size w ((w.alloc (.cells #[.slice (p 0) (l 0) (c 0),.slice (p 1) (l 1) (c 1),.slice (p 2) (l 2) (c 2),.slice (p 3) (l 3) (c 3),.slice (p 4) (l 4) (c 4),.slice (p 5) (l 5) (c 5)] 29)).alloc (.cells #[.int .i64 0,.slice none 0 0] 49)) from Bl);have hz:=hb.size;refine⟨⟨keep hb (by simp[go_sem]),keep hb (by simp[go_sem]),keep hb (by simp[go_sem]),keep hb (by simp[go_sem]),keep hb (by simp[go_sem]),keep hb (by simp[go_sem])⟩,⟨keep hb (by simp[go_sem]),keep hb (by simp[go_sem]),?_,?_⟩,(HN.out.below hb0).below hb,(HD.out.below hb0).below hb,(HT.out.below hb0).below hb,hb0.trans (hb.mono (by simp;omega)),by simpa using hz⟩
  · rw[(bcell hb).2 _ _ (by simp)];simp[go_sem]
  · rw[(bcell hb).2 _ _ (by simp)];simp[go_sem]
 unfold netV
 have HERR:Hid (∀(k:Int) (w':World),k≠0→C=k→Below w.heap.size w w'→∃v,Ending.returned (.tuple #[.agg #[.int .i64 0,.slice none 0 0],.int .i64 k])=.returned (.tuple #[.agg #[.int .i64 (fwO C rs f (l 5) port rl fr),v],.int .i64 C])∧OwnInts w.heap.size w' v (fwP C rs f (l 5) port rl fr)∧Below w.heap.size w w'):=fun k w' hk hCk hb=>by
  subst hCk;rw[(no_out hk).1,(no_out hk).2];exact⟨_,rfl,OwnInts.nil _ _,hb⟩
 by_cases h1:4096<dl
 · have E2:=hid (show C=2 by rw[←HC.out,if_pos (.inl h1)]);clear HC;have d1:decide ((4096:Int)<(dl:Int))=true:=decide_eq_true Om;go_enter Tryz.func14,Tryz.ntmps14;go_wp2;refine bodyPost_ret (v:=.tuple #[.agg #[.int .i64 0,.slice none 0 0],.int .i64 2]) (by simp[results,Tryz.results14,go_sem]) rfl (HERR.out 2 _ (by decide) E2.out Bl)
 have d1:decide ((4096:Int)<(dl:Int))=false:=decide_eq_false Om;by_cases h2:4096<rl
 · have E2:=hid (show C=2 by rw[←HC.out,if_pos (.inr h2)]);clear HC;have d2:decide ((4096:Int)<(rl:Int))=true:=decide_eq_true Om;go_enter Tryz.func14,Tryz.ntmps14;go_wp2;refine bodyPost_ret (v:=.tuple #[.agg #[.int .i64 0,.slice none 0 0],.int .i64 2]) (by simp[results,Tryz.results14,go_sem]) rfl (HERR.out 2 _ (by decide) E2.out Bl)
 have d2:decide ((4096:Int)<(rl:Int))=false:=decide_eq_false Om;rw[if_neg Om]at HC;go_enter Tryz.func14,Tryz.ntmps14;go_wp2_with fail;refine(netOK_spec p l c s g o e x f _ (HN.out.below Bl) HK0.out HK1.out).mono ?_;rintro e' w1 ⟨rfl,hb1⟩;rw[HOK.out];have H1:=hid hb1;obtain⟨⟨q0,q1,q2,q3,q4,q5⟩,⟨y0,y1,y2,y3⟩,hn,hd,hr,hB,hz⟩:=C1.out w1 hb1;have N1:=hid hn;have R1:=hid hr;have B1:=hid hB;clear hb1 hn hd hr hB d1 d2 h1 h2
 cases ok with
 | false =>
  have E2:=hid (show C=1 by rw[←HC.out,if_pos (.inl rfl)]);clear HC;go_wp2;refine bodyPost_ret (v:=.tuple #[.agg #[.int .i64 0,.slice none 0 0],.int .i64 1]) (by simp[results,Tryz.results14,go_sem,y0,y1]) rfl (HERR.out 1 _ (by decide) E2.out ((B1.out.setCell (by simp) _).setCell (by simp) _))
 | true =>
 have LI:=hid (links_in HOK.out);go_wp2_with fail;refine(routes_spec p l c s g ra rl rc rs _ M0.out N1.out.links R1.out).mono ?_;rintro e' w2 ⟨rfl,hb2⟩;have H2:=hid (H1.out.trans (hb2.mono H1.out.size));clear hb2 q0 q1 q2 q3 q4 q5 y0 y1 y2 y3 hz N1 R1 B1;obtain⟨⟨q0,q1,q2,q3,q4,q5⟩,⟨y0,y1,y2,y3⟩,hn,hd,hr,hB,hz⟩:=C1.out w2 H2.out;have N1:=hid hn;have D1:=hid hd;have R1:=hid hr;have B1:=hid hB;clear hn hd hr hB;obtain⟨rB,hrB⟩:∃b,routesB g (l 1) (l 0) rl rs=b:=⟨_,rfl⟩;have HRB:=hid hrB;rw[hrB]at HC ⊢;clear hrB
 cases rB with
 | false =>
  have E2:=hid (show C=1 by rw[←HC.out,if_pos (.inr rfl)]);clear HC;go_wp2;refine bodyPost_ret (v:=.tuple #[.agg #[.int .i64 0,.slice none 0 0],.int .i64 1]) (by simp[results,Tryz.results14,go_sem,y0,y1]) rfl (HERR.out 1 _ (by decide) E2.out ((B1.out.setCell (by simp) _).setCell (by simp) _))
 | true =>
 rw[if_neg (by simp)]at HC;by_cases h3:dl=l 1
 case neg =>
  have d3:((dl:Int) != (l 1:Int))=true:=by simp;omega
  have E2:=hid (show C=5 by rw[←HC.out,if_pos (.inl h3)]);clear HC h3;go_wp2;refine bodyPost_ret (v:=.tuple #[.agg #[.int .i64 0,.slice none 0 0],.int .i64 5]) (by simp[results,Tryz.results14,go_sem,y0,y1]) rfl (HERR.out 5 _ (by decide) E2.out ((B1.out.setCell (by simp) _).setCell (by simp) _))
 have d3:((dl:Int) != (l 1:Int))=false:=by simp[h3]
 obtain⟨b4,e4⟩:∃b,inB fr 0 ((l 0:Int) - 1)=b:=⟨_,rfl⟩;obtain⟨b5,e5⟩:∃b,inB port 0 15=b:=⟨_,rfl⟩;have HC4:=hid e4;rw[e4,e5]at HC;have H3:=hid h3;clear h3
 cases b4 with
 | false =>
  have E2:=hid (show C=5 by rw[←HC.out,if_pos (.inr (.inl rfl))]);clear HC;go_wp2_with (go_at_call 22;refine(in_spec _ _ _ _).mono ?_;rintro e' w' ⟨rfl,hw'⟩;have hw' := hw'.symm;subst hw');refine bodyPost_ret (v:=.tuple #[.agg #[.int .i64 0,.slice none 0 0],.int .i64 5]) (by simp[results,Tryz.results14,go_sem,y0,y1]) rfl (HERR.out 5 _ (by decide) E2.out ((B1.out.setCell (by simp) _).setCell (by simp) _))
 | true =>
 cases b5 with
 | false =>
  have E2:=hid (show C=5 by rw[←HC.out,if_pos (.inr (.inr rfl))]);clear HC;go_wp2_with (go_at_call 22;refine(in_spec _ _ _ _).mono ?_;rintro e' w' ⟨rfl,hw'⟩;have hw' := hw'.symm;subst hw');refine bodyPost_ret (v:=.tuple #[.agg #[.int .i64 0,.slice none 0 0],.int .i64 5]) (by simp[results,Tryz.results14,go_sem,y0,y1]) rfl (HERR.out 5 _ (by decide) E2.out ((B1.out.setCell (by simp) _).setCell (by simp) _))
 | true =>
 rw[if_neg (by have:=H3.out;simp[this])]at HC;obtain⟨dn,hdn⟩:∃b,anyDown g (l 1) rl ds rs=b:=⟨_,rfl⟩;have HDN:=hid hdn;rw[hdn]at HC;clear hdn;have HDE:=hid (fun i hi=>down_eq (i:=i) HRB.out LI.out hi);go_wp2_with (go_at_call 22;refine(in_spec _ _ _ _).mono ?_;rintro e' w' ⟨rfl,hw'⟩;have hw' := hw'.symm;subst hw');clear q0 q1 q2 q3 q4 q5 y0 y1 y2 y3 hz;go_loopw [12] (fun i wr=>∃k:Nat,k≤rl∧i=.int .i64 k∧(∀j,j<k→downB g (l 1) ds j (rs j)=false)∧Below w2.heap.size w2 wr) (fun i _=>rl - (intOf i).toNat)
 case atStart=>exact⟨0,Nat.zero_le _,rfl,fun j hj=>absurd hj (Nat.not_lt_zero _),Below.refl _ _⟩
 case round =>
  obtain⟨k,hk,rfl,ha,hbel⟩:=hrel;have HA:=hid ha;have HB:=hid (H2.out.trans (hbel.mono H2.out.size));have HB2:=hid hbel;clear ha hbel;obtain⟨⟨q0,q1,q2,q3,q4,q5⟩,⟨y0,y1,y2,y3⟩,hn,hd,hr,hB,hz⟩:=C1.out wr HB.out;have NR:=hid hn;have DR:=hid hd;have BR:=hid hB;by_cases hlt:k<rl
  · obtain⟨b0,off,hra,c0,-,-,-⟩:=hr.at4 hlt;have HDk:=hid (HDE.out k hlt);have HQ:Hid (downB g (l 1) ds k (rs k)=(decide (0≤linkAt g (l 1) (k:Int) (rs k).via)&&ds[(linkAt g (l 1) (k:Int) (rs k).via).toNat]?.getD false)):=rfl;rw[←HDk.out]at HQ;have HLB:=hid (firstAt_bounds (hit g (k:Int) (rs k).via) (l 1));obtain⟨L,hL⟩:∃L,linkAt g (l 1) (k:Int) (rs k).via=L:=⟨_,rfl⟩;have hLL:firstAt (hit g (k:Int) (rs k).via) (l 1)=L:=hL;rw[hLL]at HLB;rw[hL]at HQ HDk;clear hLL;have HL:=hid hL;clear hL hn hd hr hB;generalize (rs k).via=x0 at *;have hkl:(k:Int)<(rl:Int):=by omega
    subst hra;have HF:Hid (∀w8:World,Below wr.heap.size wr w8→w8.cell? ⟨b0,off+k*4,none⟩=some (.int .i64 x0)∧w8.cell? ⟨w.heap.size,1,none⟩=some (.slice (p 1) (l 1) (c 1))∧BoolRow w8 da dl ds∧Row 3 w8 (p 1) (l 1) g∧Below wr.heap.size wr w8):=fun w8 hb=>⟨keep hb c0,keep hb q1,DR.out.below hb,NR.out.links.below hb,hb⟩;clear c0 q0 q1 q2 q3 q4 q5 y0 y1 y2 y3;by_cases h0:0≤x0
    · have G0:=hid (decide_eq_true h0);have hL0:0≤L:=by have:=HDk.out;rw[G0.out]at this;exact of_decide_eq_true this.symm
      obtain⟨m,rfl⟩:∃m:Nat,L=(m:Int):=⟨L.toNat,by omega⟩;have hml:m<l 1:=by have:=HLB.out;omega
      obtain⟨b,off',hda,hdc⟩:=DR.out.cell m (by rw[H3.out];exact hml);have hmd:(m:Int)<(dl:Int):=by rw[H3.out];omega
      have HQ2:Hid (downB g (l 1) ds k (rs k)=ds[m]?.getD false):=by
       show _=_
       rw[HQ.out,G0.out];simp
      clear HQ h0 hL0;generalize ds[m]?.getD false=db at *;subst hda;have HF0:=HF;clear HF;have HF:Hid (∀w8:World,Below wr.heap.size wr w8→w8.cell? ⟨b0,off+k*4,none⟩=some (.int .i64 x0)∧w8.cell? ⟨w.heap.size,1,none⟩=some (.slice (p 1) (l 1) (c 1))∧w8.cell? ⟨b,off' + m,none⟩=some (.bool db)∧Row 3 w8 (p 1) (l 1) g∧Below wr.heap.size wr w8):=fun w8 hb=>⟨(HF0.out w8 hb).1,(HF0.out w8 hb).2.1,keep hb hdc,(HF0.out w8 hb).2.2.2.1,hb⟩;clear HF0 hdc;go_wp2_with fail;refine region_below (fun u=>⟨#[.agg #[.slice (p 0) (l 0) (c 0),.slice (p 1) (l 1) (c 1),.slice (p 2) (l 2) (c 2),.slice (p 3) (l 3) (c 3),.slice (p 4) (l 4) (c 4),.slice (p 5) (l 5) (c 5)],.slice (some ⟨b,off',none⟩) dl dc,.slice (some ⟨b0,off,none⟩) rl rc,.int .i64 fr,.int .i64 port,.pointer (some ⟨w.heap.size,0,none⟩),undef,undef,undef,undef,.pointer (some ⟨w.heap.size+1,0,none⟩),u11,.int .i64 ↑k,.slice (some ⟨b,off',none⟩) dl dc,.int .i64 ↑dl,.bool false,.bool false,.slice (some ⟨b0,off,none⟩) rl rc,.int .i64 ↑rl,.bool false,.bool false,undef,.agg #[.slice (p 0) (l 0) (c 0),.slice (p 1) (l 1) (c 1),.slice (p 2) (l 2) (c 2),.slice (p 3) (l 3) (c 3),.slice (p 4) (l 4) (c 4),.slice (p 5) (l 5) (c 5)],.bool true,.bool false,.bool false,.agg #[.slice (p 0) (l 0) (c 0),.slice (p 1) (l 1) (c 1),.slice (p 2) (l 2) (c 2),.slice (p 3) (l 3) (c 3),.slice (p 4) (l 4) (c 4),.slice (p 5) (l 5) (c 5)],.slice (some ⟨b0,off,none⟩) rl rc,.bool true,.bool false,.bool false,undef,.slice (some ⟨b,off',none⟩) dl dc,.int .i64 ↑dl,.pointer (some ⟨w.heap.size,1,none⟩),.slice (p 1) (l 1) (c 1),.int .i64 ↑(l 1),.bool false,.bool false,.int .i64 fr,.pointer (some ⟨w.heap.size,0,none⟩),.slice (p 0) (l 0) (c 0),.int .i64 ↑(l 0),.int .i64 (↑(l 0) - 1),.bool true,.bool false,.bool false,.bool false,.int .i64 port,.bool true,.bool false,.bool false,undef,.int .i64 ↑k,.slice (some ⟨b0,off,none⟩) rl rc,.int .i64 ↑rl,.bool true,u57,u58,u 59,u 60,u 61,u 62,u 63,u 64,u 65,u 66,u 67,u 68,u 69,u 70,u 71,u 72,u 73,u 74,u 75,u 76,u 77,u78,u79,undef,undef,undef,undef,undef],[]⟩) (fun i=>[59,60,61,62,63,64,65,66,67,68,69,70,71,72,73,74,75,76,77].getD i 0) (fun i v w8=>match i with|0=>v=.slice (some ⟨b0,off,none⟩) rl rc|1=>v=.int .i64 (k:Int)|2=>v=.pointer (some ⟨b0,off+k*4,none⟩)|3=>v=.pointer (some ⟨b0,off+k*4,none⟩)|4=>v=.int .i64 x0|5=>v=.bool true|6=>v=.bool true|7=>v=.slice (some ⟨b,off',none⟩) dl dc|8=>v=.pointer (some ⟨w.heap.size,1,none⟩)|9=>v=.slice (p 1) (l 1) (c 1)|10=>v=.int .i64 (k:Int)|11=>v=.slice (some ⟨b0,off,none⟩) rl rc|12=>v=.int .i64 (k:Int)|13=>v=.pointer (some ⟨b0,off+k*4,none⟩)|14=>v=.pointer (some ⟨b0,off+k*4,none⟩)|15=>v=.int .i64 x0|16=>v=.int .i64 (m:Int)|17=>v=.pointer (some ⟨b,off' + m,none⟩)|18=>v=.bool db|_=>True) wr 19 (fun k=>match k with|59=>u59|60=>u60|61=>u61|62=>u62|63=>u63|64=>u64|65=>u65|66=>u66|67=>u67|68=>u68|69=>u69|70=>u70|71=>u71|72=>u72|73=>u73|74=>u74|75=>u75|76=>u76|77=>u77|_=>undef) (by rfl) Kr (by rfl) ⟨by kernel_rfl,by kernel_rfl,by kernel_rfl,by decide⟩ Kr Bz ?hput ?hinj ?stable ?step ?last
      case hput =>
       intro i hi u v
       iterate 19 (rcases i with _|i;rfl)
       exact absurd hi Om
      case hinj =>
       intro i j hi hj h;exact slots_inj [59,60,61,62,63,64,65,66,67,68,69,70,71,72,73,74,75,76,77] (by decide) hi hj h
      case stable =>
       intro i v w8 w9 hb h
       iterate 19 (rcases i with _|i;exact h)
       trivial
      case step =>
       intro i hi u w8 S8 hdep
       match i,hi with
       | 0,_ =>
        clear hdep;refine⟨_,rfl,fun K' hK=>?_⟩
        skip
        go_simp;exact hK.out _ _ Bz (rfl)
       | 1,_ =>
        clear hdep;refine⟨_,rfl,fun K' hK=>?_⟩
        skip
        go_simp;exact hK.out _ _ Bz (rfl)
       | 2,_ =>
        have h0:(u 59)=.slice (some ⟨b0,off,none⟩) rl rc:=hdep 0 Kr;have h1:(u 60)=.int .i64 (k:Int):=hdep 1 Kr;clear hdep;refine⟨_,rfl,fun K' hK=>?_⟩
        (try simp only[h0,h1]at hK ⊢)
        go_simp;exact hK.out _ _ Bz (rfl)
       | 3,_ =>
        have h2:(u 61)=.pointer (some ⟨b0,off+k*4,none⟩):=hdep 2 Kr;clear hdep;refine⟨_,rfl,fun K' hK=>?_⟩
        (try simp only[h2]at hK ⊢)
        go_simp;exact hK.out _ _ Bz (rfl)
       | 4,_ =>
        have h3:(u 62)=.pointer (some ⟨b0,off+k*4,none⟩):=hdep 3 Kr;clear hdep;refine⟨_,rfl,fun K' hK=>?_⟩;obtain⟨zc,zn,zd,zrow,zb⟩:=HF.out w8 S8
        (try simp only[h3]at hK ⊢)
        go_simp;exact hK.out _ _ Bz (rfl)
       | 5,_ =>
        have h4:(u 63)=.int .i64 x0:=hdep 4 Kr;clear hdep;refine⟨_,rfl,fun K' hK=>?_⟩;have g0:=G0.out
        (try simp only[h4]at hK ⊢)
        go_simp;exact hK.out _ _ Bz (rfl)
       | 6,_ =>
        have h5:(u 64)=.bool true:=hdep 5 Kr;clear hdep;refine⟨_,rfl,fun K' hK=>?_⟩
        (try simp only[h5]at hK ⊢)
        go_simp;exact hK.out _ _ Bz (rfl)
       | 7,_ =>
        have h6:(u 65)=.bool true:=hdep 6 Kr;clear hdep;refine⟨_,rfl,fun K' hK=>?_⟩
        (try simp only[h6]at hK ⊢)
        go_simp;exact hK.out _ _ Bz (rfl)
       | 8,_ =>
        have h6:(u 65)=.bool true:=hdep 6 Kr;clear hdep;refine⟨_,rfl,fun K' hK=>?_⟩
        (try simp only[h6]at hK ⊢)
        go_simp;exact hK.out _ _ Bz (rfl)
       | 9,_ =>
        have h6:(u 65)=.bool true:=hdep 6 Kr;have h8:(u 67)=.pointer (some ⟨w.heap.size,1,none⟩):=hdep 8 Kr;clear hdep;refine⟨_,rfl,fun K' hK=>?_⟩;obtain⟨zc,zn,zd,zrow,zb⟩:=HF.out w8 S8
        (try simp only[h6,h8]at hK ⊢)
        go_simp;exact hK.out _ _ Bz (rfl)
       | 10,_ =>
        have h6:(u 65)=.bool true:=hdep 6 Kr;clear hdep;refine⟨_,rfl,fun K' hK=>?_⟩
        (try simp only[h6]at hK ⊢)
        go_simp;exact hK.out _ _ Bz (rfl)
       | 11,_ =>
        have h6:(u 65)=.bool true:=hdep 6 Kr;clear hdep;refine⟨_,rfl,fun K' hK=>?_⟩
        (try simp only[h6]at hK ⊢)
        go_simp;exact hK.out _ _ Bz (rfl)
       | 12,_ =>
        have h6:(u 65)=.bool true:=hdep 6 Kr;clear hdep;refine⟨_,rfl,fun K' hK=>?_⟩
        (try simp only[h6]at hK ⊢)
        go_simp;exact hK.out _ _ Bz (rfl)
       | 13,_ =>
        have h6:(u 65)=.bool true:=hdep 6 Kr;have h11:(u 70)=.slice (some ⟨b0,off,none⟩) rl rc:=hdep 11 Kr;have h12:(u 71)=.int .i64 (k:Int):=hdep 12 Kr;clear hdep;refine⟨_,rfl,fun K' hK=>?_⟩
        (try simp only[h6,h11,h12]at hK ⊢)
        go_simp;exact hK.out _ _ Bz (rfl)
       | 14,_ =>
        have h6:(u 65)=.bool true:=hdep 6 Kr;have h13:(u 72)=.pointer (some ⟨b0,off+k*4,none⟩):=hdep 13 Kr;clear hdep;refine⟨_,rfl,fun K' hK=>?_⟩
        (try simp only[h6,h13]at hK ⊢)
        go_simp;exact hK.out _ _ Bz (rfl)
       | 15,_ =>
        have h6:(u 65)=.bool true:=hdep 6 Kr;have h14:(u 73)=.pointer (some ⟨b0,off+k*4,none⟩):=hdep 14 Kr;clear hdep;refine⟨_,rfl,fun K' hK=>?_⟩;obtain⟨zc,zn,zd,zrow,zb⟩:=HF.out w8 S8
        (try simp only[h6,h14]at hK ⊢)
        go_simp;exact hK.out _ _ Bz (rfl)
       | 16,_ =>
        have h6:(u 65)=.bool true:=hdep 6 Kr;have h9:(u 68)=.slice (p 1) (l 1) (c 1):=hdep 9 Kr;have h10:(u 69)=.int .i64 (k:Int):=hdep 10 Kr;have h15:(u 74)=.int .i64 x0:=hdep 15 Kr;clear hdep;refine⟨_,rfl,fun K' hK=>?_⟩;obtain⟨zc,zn,zd,zrow,zb⟩:=HF.out w8 S8
        (try simp only[h6,h9,h10,h15]at hK ⊢)
        go_simp;refine(link_spec (p 1) (l 1) (c 1) g k x0 _ zrow).mono ?_;rintro e w9 ⟨rfl,hw⟩;have hw:=hw.symm;subst hw;exact hK.out _ _ Bz (congrArg (Value.int .i64) HL.out)
       | 17,_ =>
        have h6:(u 65)=.bool true:=hdep 6 Kr;have h7:(u 66)=.slice (some ⟨b,off',none⟩) dl dc:=hdep 7 Kr;have h16:(u 75)=.int .i64 (m:Int):=hdep 16 Kr;clear hdep;refine⟨_,rfl,fun K' hK=>?_⟩
        (try simp only[h6,h7,h16]at hK ⊢)
        go_simp;exact hK.out _ _ Bz (rfl)
       | 18,_ =>
        have h6:(u 65)=.bool true:=hdep 6 Kr;have h17:(u 76)=.pointer (some ⟨b,off' + m,none⟩):=hdep 17 Kr;clear hdep;refine⟨_,rfl,fun K' hK=>?_⟩;obtain⟨zc,zn,zd,zrow,zb⟩:=HF.out w8 S8
        (try simp only[h6,h17]at hK ⊢)
        go_simp;exact hK.out _ _ Bz (rfl)
       | i+19,hi=>exact absurd hi Om
      case last =>
       intro u w8 S8 hall;have h6:(u 65)=.bool true:=hall 6 (by decide);have h18:(u 77)=.bool db:=hall 18 (by decide);clear hall;refine⟨_,rfl,fun K' hK=>?_⟩;simp only[h6,h18]at hK ⊢;go_simp;refine hK.out _ _ ?_;have B9:=hid (HF.out w8 S8).2.2.2.2;have B10:=hid (HB2.out.trans (B9.out.mono HB2.out.size));have B11:=hid (BR.out.trans (B9.out.mono BR.out.size));clear S8 hK K' h6 h18
       (try simp only[Exit.then])
       cases db with
       | true =>
        have hC8:C=8:=by
         rw[←HC.out,if_pos];rw[←HDN.out];unfold anyDown;rw[allN_false hlt (by rw[HQ2.out];rfl)];rfl
        have E2:=hid hC8;clear hC8 HC;obtain⟨-,⟨y0,y1,y2,y3⟩,-,-,-,-,-⟩:=C1.out w8 (HB.out.trans (B9.out.mono HB.out.size));go_wp2;refine bodyPost_ret (v:=.tuple #[.agg #[.int .i64 0,.slice none 0 0],.int .i64 8]) (by simp[results,Tryz.results14,go_sem,y0,y1]) rfl (HERR.out 8 _ (by decide) E2.out ((B11.out.setCell (by simp) _).setCell (by simp) _))
       | false =>
        go_wp2;go_roundw
        case rel =>
         refine⟨k+1,by omega,by go_num,fun j hj=>?_,B10.out⟩;by_cases e:j=k
         · subst e;exact HQ2.out
         · exact HA.out j Om
        case measure=>simp[intOf];omega
    · have G0:=hid (decide_eq_false h0)
      have HQ2:Hid (downB g (l 1) ds k (rs k)=false):=by
       show _=_
       rw[HQ.out,G0.out];rfl
      clear HQ h0;go_wp2_with fail;refine region_below (fun u=>⟨#[.agg #[.slice (p 0) (l 0) (c 0),.slice (p 1) (l 1) (c 1),.slice (p 2) (l 2) (c 2),.slice (p 3) (l 3) (c 3),.slice (p 4) (l 4) (c 4),.slice (p 5) (l 5) (c 5)],.slice da dl dc,.slice (some ⟨b0,off,none⟩) rl rc,.int .i64 fr,.int .i64 port,.pointer (some ⟨w.heap.size,0,none⟩),undef,undef,undef,undef,.pointer (some ⟨w.heap.size+1,0,none⟩),u11,.int .i64 ↑k,.slice da dl dc,.int .i64 ↑dl,.bool false,.bool false,.slice (some ⟨b0,off,none⟩) rl rc,.int .i64 ↑rl,.bool false,.bool false,undef,.agg #[.slice (p 0) (l 0) (c 0),.slice (p 1) (l 1) (c 1),.slice (p 2) (l 2) (c 2),.slice (p 3) (l 3) (c 3),.slice (p 4) (l 4) (c 4),.slice (p 5) (l 5) (c 5)],.bool true,.bool false,.bool false,.agg #[.slice (p 0) (l 0) (c 0),.slice (p 1) (l 1) (c 1),.slice (p 2) (l 2) (c 2),.slice (p 3) (l 3) (c 3),.slice (p 4) (l 4) (c 4),.slice (p 5) (l 5) (c 5)],.slice (some ⟨b0,off,none⟩) rl rc,.bool true,.bool false,.bool false,undef,.slice da dl dc,.int .i64 ↑dl,.pointer (some ⟨w.heap.size,1,none⟩),.slice (p 1) (l 1) (c 1),.int .i64 ↑(l 1),.bool false,.bool false,.int .i64 fr,.pointer (some ⟨w.heap.size,0,none⟩),.slice (p 0) (l 0) (c 0),.int .i64 ↑(l 0),.int .i64 (↑(l 0) - 1),.bool true,.bool false,.bool false,.bool false,.int .i64 port,.bool true,.bool false,.bool false,undef,.int .i64 ↑k,.slice (some ⟨b0,off,none⟩) rl rc,.int .i64 ↑rl,.bool true,u57,u58,u 59,u 60,u 61,u 62,u 63,u 64,u 65,u 66,u 67,u 68,u 69,u 70,u 71,u 72,u 73,u 74,u 75,u 76,u 77,u78,u79,undef,undef,undef,undef,undef],[]⟩) (fun i=>[59,60,61,62,63,64,65,66,67,68,69,70,71,72,73,74,75,76,77].getD i 0) (fun i v w8=>match i with|0=>v=.slice (some ⟨b0,off,none⟩) rl rc|1=>v=.int .i64 (k:Int)|2=>v=.pointer (some ⟨b0,off+k*4,none⟩)|3=>v=.pointer (some ⟨b0,off+k*4,none⟩)|4=>v=.int .i64 x0|5=>v=.bool false|6=>v=.bool false|7=>v=undef|8=>v=undef|9=>v=undef|10=>v=undef|11=>v=undef|12=>v=undef|13=>v=undef|14=>v=undef|15=>v=undef|16=>v=undef|17=>v=undef|18=>v=undef|_=>True) wr 19 (fun k=>match k with|59=>u59|60=>u60|61=>u61|62=>u62|63=>u63|64=>u64|65=>u65|66=>u66|67=>u67|68=>u68|69=>u69|70=>u70|71=>u71|72=>u72|73=>u73|74=>u74|75=>u75|76=>u76|77=>u77|_=>undef) (by rfl) Kr (by rfl) ⟨by kernel_rfl,by kernel_rfl,by kernel_rfl,by decide⟩ Kr Bz ?hput ?hinj ?stable ?step ?last
      case hput =>
       intro i hi u v
       iterate 19 (rcases i with _|i;rfl)
       exact absurd hi Om
      case hinj =>
       intro i j hi hj h;exact slots_inj [59,60,61,62,63,64,65,66,67,68,69,70,71,72,73,74,75,76,77] (by decide) hi hj h
      case stable =>
       intro i v w8 w9 hb h
       iterate 19 (rcases i with _|i;exact h)
       trivial
      case step =>
       intro i hi u w8 S8 hdep
       match i,hi with
       | 0,_ =>
        clear hdep;refine⟨_,rfl,fun K' hK=>?_⟩
        skip
        go_simp;exact hK.out _ _ Bz (rfl)
       | 1,_ =>
        clear hdep;refine⟨_,rfl,fun K' hK=>?_⟩
        skip
        go_simp;exact hK.out _ _ Bz (rfl)
       | 2,_ =>
        have h0:(u 59)=.slice (some ⟨b0,off,none⟩) rl rc:=hdep 0 Kr;have h1:(u 60)=.int .i64 (k:Int):=hdep 1 Kr;clear hdep;refine⟨_,rfl,fun K' hK=>?_⟩
        (try simp only[h0,h1]at hK ⊢)
        go_simp;exact hK.out _ _ Bz (rfl)
       | 3,_ =>
        have h2:(u 61)=.pointer (some ⟨b0,off+k*4,none⟩):=hdep 2 Kr;clear hdep;refine⟨_,rfl,fun K' hK=>?_⟩
        (try simp only[h2]at hK ⊢)
        go_simp;exact hK.out _ _ Bz (rfl)
       | 4,_ =>
        have h3:(u 62)=.pointer (some ⟨b0,off+k*4,none⟩):=hdep 3 Kr;clear hdep;refine⟨_,rfl,fun K' hK=>?_⟩;obtain⟨zc,zn,zd,zrow,zb⟩:=HF.out w8 S8
        (try simp only[h3]at hK ⊢)
        go_simp;exact hK.out _ _ Bz (rfl)
       | 5,_ =>
        have h4:(u 63)=.int .i64 x0:=hdep 4 Kr;clear hdep;refine⟨_,rfl,fun K' hK=>?_⟩;have g0:=G0.out
        (try simp only[h4]at hK ⊢)
        go_simp;exact hK.out _ _ Bz (rfl)
       | 6,_ =>
        have h5:(u 64)=.bool false:=hdep 5 Kr;clear hdep;refine⟨_,rfl,fun K' hK=>?_⟩
        (try simp only[h5]at hK ⊢)
        go_simp;exact hK.out _ _ Bz (rfl)
       | 7,_ =>
        have h6:(u 65)=.bool false:=hdep 6 Kr;clear hdep;refine⟨_,rfl,fun K' hK=>?_⟩
        (try simp only[h6]at hK ⊢)
        go_simp;exact hK.out _ _ Bz (rfl)
       | 8,_ =>
        have h6:(u 65)=.bool false:=hdep 6 Kr;clear hdep;refine⟨_,rfl,fun K' hK=>?_⟩
        (try simp only[h6]at hK ⊢)
        go_simp;exact hK.out _ _ Bz (rfl)
       | 9,_ =>
        have h6:(u 65)=.bool false:=hdep 6 Kr;clear hdep;refine⟨_,rfl,fun K' hK=>?_⟩
        (try simp only[h6]at hK ⊢)
        go_simp;exact hK.out _ _ Bz (rfl)
       | 10,_ =>
        have h6:(u 65)=.bool false:=hdep 6 Kr;clear hdep;refine⟨_,rfl,fun K' hK=>?_⟩
        (try simp only[h6]at hK ⊢)
        go_simp;exact hK.out _ _ Bz (rfl)
       | 11,_ =>
        have h6:(u 65)=.bool false:=hdep 6 Kr;clear hdep;refine⟨_,rfl,fun K' hK=>?_⟩
        (try simp only[h6]at hK ⊢)
        go_simp;exact hK.out _ _ Bz (rfl)
       | 12,_ =>
        have h6:(u 65)=.bool false:=hdep 6 Kr;clear hdep;refine⟨_,rfl,fun K' hK=>?_⟩
        (try simp only[h6]at hK ⊢)
        go_simp;exact hK.out _ _ Bz (rfl)
       | 13,_ =>
        have h6:(u 65)=.bool false:=hdep 6 Kr;clear hdep;refine⟨_,rfl,fun K' hK=>?_⟩
        (try simp only[h6]at hK ⊢)
        go_simp;exact hK.out _ _ Bz (rfl)
       | 14,_ =>
        have h6:(u 65)=.bool false:=hdep 6 Kr;clear hdep;refine⟨_,rfl,fun K' hK=>?_⟩
        (try simp only[h6]at hK ⊢)
        go_simp;exact hK.out _ _ Bz (rfl)
       | 15,_ =>
        have h6:(u 65)=.bool false:=hdep 6 Kr;clear hdep;refine⟨_,rfl,fun K' hK=>?_⟩
        (try simp only[h6]at hK ⊢)
        go_simp;exact hK.out _ _ Bz (rfl)
       | 16,_ =>
        have h6:(u 65)=.bool false:=hdep 6 Kr;clear hdep;refine⟨_,rfl,fun K' hK=>?_⟩
        (try simp only[h6]at hK ⊢)
        go_simp;exact hK.out _ _ Bz (rfl)
       | 17,_ =>
        have h6:(u 65)=.bool false:=hdep 6 Kr;clear hdep;refine⟨_,rfl,fun K' hK=>?_⟩
        (try simp only[h6]at hK ⊢)
        go_simp;exact hK.out _ _ Bz (rfl)
       | 18,_ =>
        have h6:(u 65)=.bool false:=hdep 6 Kr;clear hdep;refine⟨_,rfl,fun K' hK=>?_⟩
        (try simp only[h6]at hK ⊢)
        go_simp;exact hK.out _ _ Bz (rfl)
       | i+19,hi=>exact absurd hi Om
      case last =>
       intro u w8 S8 hall;have h6:(u 65)=.bool false:=hall 6 (by decide);have h18:(u 77)=undef:=hall 18 (by decide);clear hall;refine⟨_,rfl,fun K' hK=>?_⟩;simp only[h6,h18]at hK ⊢;go_simp;refine hK.out _ _ ?_;have B9:=hid (HF.out w8 S8).2.2.2.2;have B10:=hid (HB2.out.trans (B9.out.mono HB2.out.size));have B11:=hid (BR.out.trans (B9.out.mono BR.out.size));clear S8 hK K' h6 h18
       (try simp only[Exit.then])
       go_wp2;go_roundw
       case rel =>
        refine⟨k+1,by omega,by go_num,fun j hj=>?_,B10.out⟩;by_cases e:j=k
        · subst e;exact HQ2.out
        · exact HA.out j Om
       case measure=>simp[intOf];omega
  · have e:k=rl:=by omega
    subst e;have hdn:dn=false:=by rw[←HDN.out];unfold anyDown;rw[allN_of (fun i hi=>by rw[HA.out i hi];rfl)];rfl
    subst hdn;have E2:C=0:=by rw[←HC.out,if_neg (by simp)]
    subst E2;obtain⟨hrl,hvi⟩:=routes_viable HRB.out
    have h4:l 0≤4:=by
     have:=HOK.out;unfold netB routersB at this;simp[inB]at this;omega
    obtain⟨fn,rfl⟩:∃n:Nat,fr=(n:Int):=⟨fr.toNat,by have:=HC4.out;unfold inB at this;rw[decide_eq_true_eq]at this;omega⟩;have hfn:fn<k:=by have:=HC4.out;unfold inB at this;rw[decide_eq_true_eq]at this;omega
    have HV:=hid (show Viable rs k by rw[hrl];exact hvi);have HF:=hid hfn;have H4:=hid (show k≤4 by omega);have RR:=hid hr;clear hrl hvi h4 hfn HC e4 hn hd hr hB hlt HD;go_wp2_with fail;refine(walk_spec p l c f ra k rc rs fn port _ NR.out.filters RR.out HV.out HF.out H4.out).mono ?_;rintro e' w4 ⟨v,rfl,ho,hb4⟩;have H4w:=hid (HB.out.trans (hb4.mono HB.out.size));have O4:=hid (ho.mono (show w.heap.size+2≤wr.heap.size from hz));obtain⟨av,cv,rfl,-⟩:=ho.form;clear ho hb4 q0 q1 q2 q3 q4 q5 y0 y1 y2 y3 hz NR;obtain⟨-,⟨y0,y1,y2,y3⟩,-,-,-,hB,hz⟩:=C1.out w4 H4w.out;have B1:=hid hB;clear hB;have HY:=hid (yes_out rs f (l 5) port k (fn:Int));go_wp2;refine bodyPost_ret (v:=.tuple #[.agg #[.int .i64 (wayO rs f (l 5) port k fn),.slice av ((fn:Int)::wayR rs f (l 5) port k fn).length cv],.int .i64 0]) (by simp[results,Tryz.results14,go_sem,y0,y1]) rfl ⟨_,by rw[HY.out.1],?_,?_⟩
    · rw[HY.out.2];exact(own_off (own_off O4.out (fun j hj=>by have:=(own_lt O4.out hj).1;omega)) (fun j hj=>by have:=(own_lt O4.out hj).1;omega)).mono Om
    · exact(B1.out.setCell (by simp) _).setCell (by simp) _
end Go.Proofs.YtcnoemjeijjnjaaGreat.forwardSpec
namespace Go.Proofs.YtcnoemjeijjnjaaGreat.atAny
open Go.RowKit Go.Deep Go base source
theorem ret_int {a b:Int} (h:a=b):Ending.returned (.int .i64 a)=.returned (.int .i64 b):=by rw[h]
set_option maxHeartbeats 1600000 in
theorem at_any (i n:Nat) (hi:i≤1000000) (hn:1≤n) (hn':n≤256) (a:Option Addr) (len cap:Nat) (w:World) (hb:Bytes w a len) (hl:len≤1048576) :
  Calls Tryz.prog 6 #[.slice a len cap,.int .i64 (i:Int),.int .i64 (n:Int)] w fun e w'=>∃r:Nat,e=.returned (.int .i64 r)∧r<n∧Below w.heap.size w w' := by
 have HB:=hid hb;clear hb;by_cases h1:n=1
 · subst h1;go_enter Tryz.func6,Tryz.ntmps6;go_wp2;go_ret;exact⟨0,rfl,by omega,Bl⟩
 have hn1:decide ((n:Int)≤1)=false:=decide_eq_false Om;have hn0:((n:Int)==0)=false:=by simp;omega
 have hn2:(0:Int)<(n:Int):=by omega
 have hfin:∀z:Int,0≤z % (n:Int)∧z % (n:Int)<n:=fun z=>⟨Int.emod_nonneg _ Om,Int.emod_lt_of_pos _ Om⟩;have HFin:=hid hfin;clear hfin;by_cases h0:len=0
 · subst h0;go_enter Tryz.func6,Tryz.ntmps6;go_wp2;go_ret;obtain⟨f0,f1⟩:=HFin.out ((i:Int)*7);exact⟨((i:Int)*7 % (n:Int)).toNat,ret_int Om,by omega,Bl⟩
 have hq0:((len:Int)==0)=false:=by simp;omega
 have hlp:(0:Int)<(len:Int):=by omega
 obtain⟨p,hp⟩:∃p:Nat,i % len=p:=⟨_,rfl⟩;obtain⟨q,hq⟩:∃q:Nat,(i+1) % len=q:=⟨_,rfl⟩;obtain⟨r,hr⟩:∃r:Nat,i / len=r:=⟨_,rfl⟩;have hpl:p<len:=by rw[←hp];exact Nat.mod_lt _ Om
 have hql:q<len:=by rw[←hq];exact Nat.mod_lt _ Om
 have hrl:r≤1000000:=by rw[←hr];exact Nat.le_trans (Nat.div_le_self _ _) hi
 have hp':(i:Int) % (len:Int)=(p:Int):=by rw[←hp];simp
 have hq':((i:Int)+1) % (len:Int)=(q:Int):=by rw[←hq];simp
 have hr':(i:Int) / (len:Int)=(r:Int):=by rw[←hr];simp
 clear hp hq hr;obtain⟨bb,off,rfl,x,hx,hc⟩:=HB.out p hpl;obtain⟨bb',off',he,y,hy,hd⟩:=HB.out q hql;cases he;have ip:(p:Int)<(len:Int):=by omega
 have iq:(q:Int)<(len:Int):=by omega
 go_enter Tryz.func6,Tryz.ntmps6;go_wp2;go_quiet (fail);go_wp2;go_ret;obtain⟨f0,f1⟩:=HFin.out ((x:Int)*31+(y:Int)+(r:Int));have hb:=below_drewN w nq;exact⟨(((x:Int)*31+(y:Int)+(r:Int)) % (n:Int)).toNat,ret_int Om,by omega,hb⟩
end Go.Proofs.YtcnoemjeijjnjaaGreat.atAny
