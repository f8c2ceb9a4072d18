import Derived.Test.YtcnoemjeijjnjaaGreatPart17
set_option linter.unusedVariables false
namespace Go.Proofs.YtcnoemjeijjnjaaGreat.routesSpec
open Go.RowKit Go.Deep Go base names netSem netSpec routeRow walkSem routesB drawn
set_option maxHeartbeats 400000 in
theorem none_spec (w:World) :
  Calls Tryz.prog 78 #[] w fun e' w'=>e' = .returned (.agg #[.int .i64 (-3),.int .i64 0,.int .i64 0,.bool false])∧Below w.heap.size w w' := by
 go_enter Tryz.func78,Tryz.ntmps78;go_wp2;refine bodyPost_ret (v:=.agg #[.int .i64 (-3),.int .i64 0,.int .i64 0,.bool false]) (by simp[results,Tryz.results78,go_sem]) rfl ⟨rfl,Bl⟩
theorem ne_ifs (x0 x1 x2:Int) (x3:Bool) (w8:World):(if x0 = -3 then if x1=0 then if x2=0 then if x3=true then Result.ok (Next.value (Value.bool true)) w8 else Result.ok (Next.value (Value.bool false)) w8 else Result.ok (Next.value (Value.bool true)) w8 else Result.ok (Next.value (Value.bool true)) w8 else Result.ok (Next.value (Value.bool true)) w8)=Result.ok (Next.value (Value.bool (!(x0==-3&&x1==0&&x2==0&&x3==false)))) w8:=by
 by_cases h0:x0 = -3<;>by_cases h1:x1=0<;>by_cases h2:x2=0<;>cases x3<;>simp[h0,h1,h2]
set_option maxHeartbeats 3200000 in
theorem routes_spec (p:Nat→Option Addr) (l c:Nat→Nat) (s:Ss) (g:R) (ra:Option Addr) (rl rc:Nat) (rs:Rs) (w:World) (h0:l 0≤maxLen) (h:Row 3 w (p 1) (l 1) g) (hr:RtRow w ra rl rs) :
  Calls Tryz.prog 40 #[netV p l c,.slice ra rl rc] w fun e' w'=>e' = .returned (.bool (routesB g (l 1) (l 0) rl rs))∧Below w.heap.size w w' := by
 have hm:=h.most;have hm2:=hr.most;unfold maxLen at hm hm2 h0;have HR:=hid h;have HT:=hid hr;clear h hr;unfold netV;generalize hp1:p 1=p1 at *;generalize hc1:c 1=c1 at *;generalize hl0:l 0=l0 at *;generalize hl1:l 1=l1 at *;clear hp1 hc1 hl0 hl1
 have C1:Hid (∀w8:World,Below (w.alloc (.cells #[.slice (p 0) l0 (c 0),.slice p1 l1 c1,.slice (p 2) (l 2) (c 2),.slice (p 3) (l 3) (c 3),.slice (p 4) (l 4) (c 4),.slice (p 5) (l 5) (c 5)] 29)).heap.size (w.alloc (.cells #[.slice (p 0) l0 (c 0),.slice p1 l1 c1,.slice (p 2) (l 2) (c 2),.slice (p 3) (l 3) (c 3),.slice (p 4) (l 4) (c 4),.slice (p 5) (l 5) (c 5)] 29)) w8 →
   w8.cell? ⟨w.heap.size,0,none⟩=some (.slice (p 0) l0 (c 0))∧w8.cell? ⟨w.heap.size,1,none⟩=some (.slice p1 l1 c1)∧Row 3 w8 p1 l1 g∧RtRow w8 ra rl rs∧Below w.heap.size w w8) :=
  fun w8 hb=>⟨keep hb (by simp[go_sem]),keep hb (by simp[go_sem]),(HR.out.below Bl).below hb,(HT.out.below Bl).below hb,(show Below w.heap.size w _ from Bl).trans (hb.mono (by simp))⟩
 obtain⟨D,hD⟩:∃D,routesB g l1 l0 rl rs=D:=⟨_,rfl⟩;rw[hD];have HD:=hid hD;clear hD;by_cases he:rl=l0
 case neg =>
  have e1:((rl:Int) != (l0:Int))=true:=by simp;omega
  have e2:D=false:=by rw[←HD.out];unfold routesB;rw[decide_eq_false he];rfl
  subst e2;clear he;go_enter Tryz.func40,Tryz.ntmps40;go_wp2;go_ret;exact⟨rfl,Bl⟩
 have e1:((rl:Int) != (l0:Int))=false:=by simp[he]
 have HE:=hid he
 have HD2:Hid (D=allN (fun i=>routeB g l1 l0 i (rs i)) rl):=by
  show _=_
  rw[←HD.out];unfold routesB;rw[decide_eq_true he];rfl
 clear he HD;go_enter Tryz.func40,Tryz.ntmps40;go_wp2;go_loopw [5] (fun i wr=>∃k:Nat,k≤rl∧i=.int .i64 k∧(∀j,j<k→routeB g l1 l0 j (rs j)=true)∧Below (w.alloc (.cells #[.slice (p 0) l0 (c 0),.slice p1 l1 c1,.slice (p 2) (l 2) (c 2),.slice (p 3) (l 3) (c 3),.slice (p 4) (l 4) (c 4),.slice (p 5) (l 5) (c 5)] 29)).heap.size (w.alloc (.cells #[.slice (p 0) l0 (c 0),.slice p1 l1 c1,.slice (p 2) (l 2) (c 2),.slice (p 3) (l 3) (c 3),.slice (p 4) (l 4) (c 4),.slice (p 5) (l 5) (c 5)] 29)) wr) (fun i _=>rl - (intOf i).toNat)
 case atStart=>exact⟨0,Nat.zero_le _,rfl,fun j hj=>absurd hj (Nat.not_lt_zero _),Below.refl _ _⟩
 case round =>
  obtain⟨k,hk,rfl,ha,hbel⟩:=hrel;have HA:=hid ha;have HB:=hid hbel;obtain⟨q0,q1,hrow,hrts,hB⟩:=C1.out wr hbel;have BR:=hid hB;have s1:=World.block_lt_of_cell? _ _ q0;clear ha hB;by_cases hlt:k<rl
  · obtain⟨b0,off,rfl,c0,c1',c2,c3⟩:=hrts.at4 hlt;have HRow:=hid hrow;clear hrow hrts hbel;generalize ex0:(rs k).via=x0 at *;generalize ex1:(rs k).pref=x1 at *;generalize ex2:(rs k).len=x2 at *;generalize ex3:(rs k).mark=x3 at *;obtain⟨n1,e1⟩:∃b,(!inB x0 (-3) ((l0:Int) - 1))=b:=⟨_,rfl⟩;obtain⟨n2,e2⟩:∃b,(!inB x1 0 1000)=b:=⟨_,rfl⟩;obtain⟨n3,e3⟩:∃b,(!inB x2 0 10000)=b:=⟨_,rfl⟩;obtain⟨p4,e4⟩:∃b,decide (0≤x0)=b:=⟨_,rfl⟩;obtain⟨L,eL⟩:∃b,linkAt g l1 (k:Int) x0=b:=⟨_,rfl⟩;obtain⟨p5,e5⟩:∃b,decide (L<0)=b:=⟨_,rfl⟩;obtain⟨p6,e6⟩:∃b,(x0==-3)=b:=⟨_,rfl⟩;obtain⟨p7,e7⟩:∃b,(!(x0==-3&&x1==0&&x2==0&&x3==false))=b:=⟨_,rfl⟩;obtain⟨A14,a14⟩:∃b,(n1||n2)=b:=⟨_,rfl⟩;obtain⟨A20,a20⟩:∃b,(A14||n3)=b:=⟨_,rfl⟩;obtain⟨A32,a32⟩:∃b,(p4&&p5)=b:=⟨_,rfl⟩;obtain⟨A34,a34⟩:∃b,(A20||A32)=b:=⟨_,rfl⟩;obtain⟨A42,a42⟩:∃b,(p6&&p7)=b:=⟨_,rfl⟩
    have HV:Hid (routeB g l1 l0 k (rs k) = !(A34||A42)):=by
     show _=_
     have hr:rs k=⟨x0,x1,x2,x3⟩:=by rw[←ex0,←ex1,←ex2,←ex3]
     unfold routeB noneB;rw[hr,←a34,←a42,←a32,←a20,←a14,←e1,←e2,←e3,←e4,←e5,←eL,←e6,←e7,Bool.eq_iff_iff];simp only[Bool.and_eq_true,Bool.not_eq_true',Bool.or_eq_false_iff,Bool.and_eq_false_iff,decide_eq_true_eq,beq_iff_eq,Bool.not_eq_false',decide_eq_false_iff_not,beq_eq_false_iff_ne]
    have E1:Hid (inB x0 (-3) ((l0:Int) - 1) = !n1):=by show _=_;rw[←e1,Bool.not_not]
    have E2:Hid (inB x1 0 1000 = !n2):=by show _=_;rw[←e2,Bool.not_not]
    have E3:Hid (inB x2 0 10000 = !n3):=by show _=_;rw[←e3,Bool.not_not]
    have E4:=hid e4;have EL:=hid eL;have E5:=hid e5;have E6:=hid e6;have E7:=hid e7;have R14:=hid a14;have R20:=hid a20;have R32:=hid a32;have R34:=hid a34;have R42:=hid a42;clear e1 e2 e3 e4 e5 e6 e7 eL a14 a20 a32 a34 a42 ex0 ex1 ex2 ex3;have HW:Hid (IntKind.i64.wrap ((l0:Int) - 1)=(l0:Int) - 1):=by show _=_;rw[IntKind.wrap_i64];omega
    have HN:Hid (∀wz:World,(A34||A42)=false→Below (w.alloc (.cells #[.slice (p 0) l0 (c 0),.slice p1 l1 c1,.slice (p 2) (l 2) (c 2),.slice (p 3) (l 3) (c 3),.slice (p 4) (l 4) (c 4),.slice (p 5) (l 5) (c 5)] 29)).heap.size (w.alloc (.cells #[.slice (p 0) l0 (c 0),.slice p1 l1 c1,.slice (p 2) (l 2) (c 2),.slice (p 3) (l 3) (c 3),.slice (p 4) (l 4) (c 4),.slice (p 5) (l 5) (c 5)] 29)) wz→∃k':Nat,k'≤rl∧Value.int .i64 ((k:Int)+1)=.int .i64 k'∧(∀j,j<k'→routeB g l1 l0 j (rs j)=true)∧Below (w.alloc (.cells #[.slice (p 0) l0 (c 0),.slice p1 l1 c1,.slice (p 2) (l 2) (c 2),.slice (p 3) (l 3) (c 3),.slice (p 4) (l 4) (c 4),.slice (p 5) (l 5) (c 5)] 29)).heap.size (w.alloc (.cells #[.slice (p 0) l0 (c 0),.slice p1 l1 c1,.slice (p 2) (l 2) (c 2),.slice (p 3) (l 3) (c 3),.slice (p 4) (l 4) (c 4),.slice (p 5) (l 5) (c 5)] 29)) wz) :=
     fun wz h0 hz=>⟨k+1,by omega,by go_num,fun j hj=>by
      by_cases e:j=k
      · subst e;rw[HV.out,h0];rfl
      exact HA.out j Om,hz⟩
    have HNO:Hid ((A34||A42)=true→false=D):=fun h0=>by
     rw[HD2.out];exact(allN_false hlt (by rw[HV.out,h0];rfl)).symm
    go_wp2_with fail
    have HF:Hid (∀w8:World,Below (wr.alloc (.cells #[.int .i64 x0,.int .i64 x1,.int .i64 x2,.bool x3] 106)).heap.size (wr.alloc (.cells #[.int .i64 x0,.int .i64 x1,.int .i64 x2,.bool x3] 106)) w8→w8.cell? ⟨wr.heap.size,0,none⟩=some (.int .i64 x0)∧w8.cell? ⟨wr.heap.size,1,none⟩=some (.int .i64 x1)∧w8.cell? ⟨wr.heap.size,2,none⟩=some (.int .i64 x2)∧w8.cell? ⟨wr.heap.size,3,none⟩=some (.bool x3)∧w8.cell? ⟨w.heap.size,0,none⟩=some (.slice (p 0) l0 (c 0))∧w8.cell? ⟨w.heap.size,1,none⟩=some (.slice p1 l1 c1)∧Row 3 w8 p1 l1 g∧Below wr.heap.size wr w8):=fun w8 hb=>by
     have hb' := (show Below wr.heap.size wr (wr.alloc (.cells #[.int .i64 x0,.int .i64 x1,.int .i64 x2,.bool x3] 106)) from Bl).trans (hb.mono (by simp));exact⟨keep hb (by simp[go_sem]),keep hb (by simp[go_sem]),keep hb (by simp[go_sem]),keep hb (by simp[go_sem]),keep hb' q0,keep hb' q1,HRow.out.below hb',hb'⟩
    clear q0 q1 c0 c1' c2 c3 C1 HT;refine region_below (fun u=>⟨#[.agg #[.slice (p 0) l0 (c 0),.slice p1 l1 c1,.slice (p 2) (l 2) (c 2),.slice (p 3) (l 3) (c 3),.slice (p 4) (l 4) (c 4),.slice (p 5) (l 5) (c 5)],.slice (some ⟨b0,off,none⟩) rl rc,.pointer (some ⟨w.heap.size,0,none⟩),undef,u4,.int .i64 ↑k,.pointer (some ⟨wr.heap.size,0,none⟩),.slice (some ⟨b0,off,none⟩) rl rc,.int .i64 ↑rl,.pointer (some ⟨w.heap.size,0,none⟩),.slice (p 0) l0 (c 0),.int .i64 ↑l0,.bool false,.int .i64 ↑k,.slice (some ⟨b0,off,none⟩) rl rc,.int .i64 ↑rl,.bool true,u17,u18,.slice (some ⟨b0,off,none⟩) rl rc,.int .i64 ↑k,.pointer (some ⟨b0,off+k*4,none⟩),.agg #[.int .i64 x0,.int .i64 x1,.int .i64 x2,.bool x3],u 23,u 24,u 25,u 26,u 27,u 28,u 29,u 30,u 31,u 32,u 33,u 34,u 35,u 36,u 37,u 38,u 39,u 40,u 41,u 42,u 43,u 44,u 45,u 46,u 47,u 48,u 49,u 50,u 51,u 52,u 53,u 54,u 55,u 56,u 57,u 58,u 59,u 60,u 61,u 62,u 63,u 64,u 65,u66],[]⟩) (fun i=>[23,24,25,26,27,28,29,30,31,32,33,34,35,36,37,38,39,40,41,42,43,44,45,46,47,48,49,50,51,52,53,54,55,56,57,58,59,60,61,62,63,64,65].getD i 0) (fun i v w8=>match i with|0=>v=.pointer (some ⟨wr.heap.size,0,none⟩)|1=>v=.int .i64 x0|2=>v=.pointer (some ⟨w.heap.size,0,none⟩)|3=>v=.slice (p 0) l0 (c 0)|4=>v=.int .i64 (l0:Int)|5=>v=.int .i64 ((l0:Int) - 1)|6=>v=.bool (!n1)|7=>v=.bool n1|8=>v=.bool n1|9=>v=(bif n1 then undef else .pointer (some ⟨wr.heap.size,1,none⟩))|10=>v=(bif n1 then undef else .int .i64 x1)|11=>v=(bif n1 then undef else .bool (!n2))|12=>v=(bif n1 then undef else .bool n2)|13=>v=.bool A14|14=>v=.bool A14|15=>v=(bif A14 then undef else .pointer (some ⟨wr.heap.size,2,none⟩))|16=>v=(bif A14 then undef else .int .i64 x2)|17=>v=(bif A14 then undef else .bool (!n3))|18=>v=(bif A14 then undef else .bool n3)|19=>v=.bool A20|20=>v=.bool A20|21=>v=(bif A20 then undef else .pointer (some ⟨wr.heap.size,0,none⟩))|22=>v=(bif A20 then undef else .int .i64 x0)|23=>v=(bif A20 then undef else .bool p4)|24=>v=(bif A20 then undef else .bool p4)|25=>v=(bif A20 then undef else bif p4 then .pointer (some ⟨w.heap.size,1,none⟩) else undef)|26=>v=(bif A20 then undef else bif p4 then .slice p1 l1 c1 else undef)|27=>v=(bif A20 then undef else bif p4 then .int .i64 (k:Int) else undef)|28=>v=(bif A20 then undef else bif p4 then .pointer (some ⟨wr.heap.size,0,none⟩) else undef)|29=>v=(bif A20 then undef else bif p4 then .int .i64 x0 else undef)|30=>v=(bif A20 then undef else bif p4 then .int .i64 L else undef)|31=>v=(bif A20 then undef else bif p4 then .bool p5 else undef)|32=>v=(bif A20 then undef else .bool A32)|33=>v=.bool A34|34=>v=.bool A34|35=>v=(bif A34 then undef else .pointer (some ⟨wr.heap.size,0,none⟩))|36=>v=(bif A34 then undef else .int .i64 x0)|37=>v=(bif A34 then undef else .bool p6)|38=>v=(bif A34 then undef else .bool p6)|39=>v=(bif A34 then undef else bif p6 then .agg #[.int .i64 x0,.int .i64 x1,.int .i64 x2,.bool x3] else undef)|40=>v=(bif A34 then undef else bif p6 then .agg #[.int .i64 (-3),.int .i64 0,.int .i64 0,.bool false] else undef)|41=>v=(bif A34 then undef else bif p6 then .bool p7 else undef)|42=>v=(bif A34 then undef else .bool A42)|_=>True) (wr.alloc (.cells #[.int .i64 x0,.int .i64 x1,.int .i64 x2,.bool x3] 106)) 43 (fun k=>match k with|23=>u23|24=>u24|25=>u25|26=>u26|27=>u27|28=>u28|29=>u29|30=>u30|31=>u31|32=>u32|33=>u33|34=>u34|35=>u35|36=>u36|37=>u37|38=>u38|39=>u39|40=>u40|41=>u41|42=>u42|43=>u43|44=>u44|45=>u45|46=>u46|47=>u47|48=>u48|49=>u49|50=>u50|51=>u51|52=>u52|53=>u53|54=>u54|55=>u55|56=>u56|57=>u57|58=>u58|59=>u59|60=>u60|61=>u61|62=>u62|63=>u63|64=>u64|65=>u65|_=>undef) (by rfl) Kr (by rfl) ⟨by kernel_rfl,by kernel_rfl,by kernel_rfl,by decide⟩ Kr Bz ?hput ?hinj ?stable ?step ?last
    case hput =>
     intro i hi u v
     iterate 43 (rcases i with _|i;rfl)
     exact absurd hi Om
    case hinj =>
     intro i j hi hj h;exact slots_inj [23,24,25,26,27,28,29,30,31,32,33,34,35,36,37,38,39,40,41,42,43,44,45,46,47,48,49,50,51,52,53,54,55,56,57,58,59,60,61,62,63,64,65] (by decide) hi hj h
    case stable =>
     intro i v w8 w9 hb h
     iterate 43 (rcases i with _|i;exact h)
     trivial
    case step =>
     intro i hi u w8 S8 hdep
     match i,hi with
     | 0,_ =>
      clear hdep;refine⟨_,rfl,fun K' hK=>?_⟩
      skip
      go_simp;exact hK.out _ _ Bz (rfl)
     | 1,_ =>
      have h0:(u 23)=.pointer (some ⟨wr.heap.size,0,none⟩):=hdep 0 Kr;clear hdep;refine⟨_,rfl,fun K' hK=>?_⟩;obtain⟨r0,r1,r2,r3,z0,z1,zrow,zb⟩:=HF.out w8 S8
      (try simp only[h0]at hK ⊢)
      go_simp;exact hK.out _ _ Bz (rfl)
     | 2,_ =>
      clear hdep;refine⟨_,rfl,fun K' hK=>?_⟩
      skip
      go_simp;exact hK.out _ _ Bz (rfl)
     | 3,_ =>
      have h2:(u 25)=.pointer (some ⟨w.heap.size,0,none⟩):=hdep 2 Kr;clear hdep;refine⟨_,rfl,fun K' hK=>?_⟩;obtain⟨r0,r1,r2,r3,z0,z1,zrow,zb⟩:=HF.out w8 S8
      (try simp only[h2]at hK ⊢)
      go_simp;exact hK.out _ _ Bz (rfl)
     | 4,_ =>
      have h3:(u 26)=.slice (p 0) l0 (c 0):=hdep 3 Kr;clear hdep;refine⟨_,rfl,fun K' hK=>?_⟩
      (try simp only[h3]at hK ⊢)
      go_simp;exact hK.out _ _ Bz (rfl)
     | 5,_ =>
      have h4:(u 27)=.int .i64 (l0:Int):=hdep 4 Kr;clear hdep;refine⟨_,rfl,fun K' hK=>?_⟩
      (try simp only[h4]at hK ⊢)
      go_simp;exact hK.out _ _ Bz (congrArg (Value.int .i64) HW.out)
     | 6,_ =>
      have h1:(u 24)=.int .i64 x0:=hdep 1 Kr;have h5:(u 28)=.int .i64 ((l0:Int) - 1):=hdep 5 Kr;clear hdep;refine⟨_,rfl,fun K' hK=>?_⟩
      (try simp only[h1,h5]at hK ⊢)
      go_simp;refine(in_spec _ _ _ _).mono ?_;rintro e w9 ⟨rfl,hw⟩;have hw:=hw.symm;subst hw;exact hK.out _ _ Bz (congrArg Value.bool E1.out)
     | 7,_ =>
      have h6:(u 29)=.bool (!n1):=hdep 6 Kr;clear hdep;refine⟨_,rfl,fun K' hK=>?_⟩
      (try simp only[h6]at hK ⊢)
      go_simp;exact hK.out _ _ Bz (by cases n1<;>rfl)
     | 8,_ =>
      have h7:(u 30)=.bool n1:=hdep 7 Kr;clear hdep;refine⟨_,rfl,fun K' hK=>?_⟩
      (try simp only[h7]at hK ⊢)
      go_simp;exact hK.out _ _ Bz (rfl)
     | 9,_ =>
      have h8:(u 31)=.bool n1:=hdep 8 Kr;clear hdep;refine⟨_,rfl,fun K' hK=>?_⟩;cases n1
      all_goals
       (try simp only[h8,cond_true,cond_false]at hK ⊢)
       go_simp
       first
        | exact hK.out _ _ Bz rfl
        | exact hK.out _ _ Bz (rfl)
     | 10,_ =>
      have h8:(u 31)=.bool n1:=hdep 8 Kr;have h9:(u 32)=(bif n1 then undef else .pointer (some ⟨wr.heap.size,1,none⟩)):=hdep 9 Kr;clear hdep;refine⟨_,rfl,fun K' hK=>?_⟩;obtain⟨r0,r1,r2,r3,z0,z1,zrow,zb⟩:=HF.out w8 S8;cases n1
      all_goals
       (try simp only[h8,h9,cond_true,cond_false]at hK ⊢)
       go_simp
       first
        | exact hK.out _ _ Bz rfl
        | exact hK.out _ _ Bz (rfl)
     | 11,_ =>
      have h8:(u 31)=.bool n1:=hdep 8 Kr;have h10:(u 33)=(bif n1 then undef else .int .i64 x1):=hdep 10 Kr;clear hdep;refine⟨_,rfl,fun K' hK=>?_⟩;cases n1
      all_goals
       (try simp only[h8,h10,cond_true,cond_false]at hK ⊢)
       go_simp
       first
        | exact hK.out _ _ Bz rfl
        | (refine(in_spec _ _ _ _).mono ?_;rintro e w9 ⟨rfl,hw⟩;have hw:=hw.symm;subst hw;exact hK.out _ _ Bz (congrArg Value.bool E2.out))
     | 12,_ =>
      have h8:(u 31)=.bool n1:=hdep 8 Kr;have h11:(u 34)=(bif n1 then undef else .bool (!n2)):=hdep 11 Kr;clear hdep;refine⟨_,rfl,fun K' hK=>?_⟩;cases n1
      all_goals cases n2
      all_goals
       (try simp only[h8,h11,cond_true,cond_false]at hK ⊢)
       go_simp
       first
        | exact hK.out _ _ Bz rfl
        | exact hK.out _ _ Bz (rfl)
     | 13,_ =>
      have h8:(u 31)=.bool n1:=hdep 8 Kr;have h12:(u 35)=(bif n1 then undef else .bool n2):=hdep 12 Kr;clear hdep;refine⟨_,rfl,fun K' hK=>?_⟩;cases n1
      all_goals cases n2
      all_goals
       (try simp only[h8,h12,cond_true,cond_false]at hK ⊢)
       go_simp
       first
        | exact hK.out _ _ Bz rfl
        | exact hK.out _ _ Bz (congrArg Value.bool R14.out)
     | 14,_ =>
      have h13:(u 36)=.bool A14:=hdep 13 Kr;clear hdep;refine⟨_,rfl,fun K' hK=>?_⟩
      (try simp only[h13]at hK ⊢)
      go_simp;exact hK.out _ _ Bz (rfl)
     | 15,_ =>
      have h14:(u 37)=.bool A14:=hdep 14 Kr;clear hdep;refine⟨_,rfl,fun K' hK=>?_⟩;cases A14
      all_goals
       (try simp only[h14,cond_true,cond_false]at hK ⊢)
       go_simp
       first
        | exact hK.out _ _ Bz rfl
        | exact hK.out _ _ Bz (rfl)
     | 16,_ =>
      have h14:(u 37)=.bool A14:=hdep 14 Kr;have h15:(u 38)=(bif A14 then undef else .pointer (some ⟨wr.heap.size,2,none⟩)):=hdep 15 Kr;clear hdep;refine⟨_,rfl,fun K' hK=>?_⟩;obtain⟨r0,r1,r2,r3,z0,z1,zrow,zb⟩:=HF.out w8 S8;cases A14
      all_goals
       (try simp only[h14,h15,cond_true,cond_false]at hK ⊢)
       go_simp
       first
        | exact hK.out _ _ Bz rfl
        | exact hK.out _ _ Bz (rfl)
     | 17,_ =>
      have h14:(u 37)=.bool A14:=hdep 14 Kr;have h16:(u 39)=(bif A14 then undef else .int .i64 x2):=hdep 16 Kr;clear hdep;refine⟨_,rfl,fun K' hK=>?_⟩;cases A14
      all_goals
       (try simp only[h14,h16,cond_true,cond_false]at hK ⊢)
       go_simp
       first
        | exact hK.out _ _ Bz rfl
        | (refine(in_spec _ _ _ _).mono ?_;rintro e w9 ⟨rfl,hw⟩;have hw:=hw.symm;subst hw;exact hK.out _ _ Bz (congrArg Value.bool E3.out))
     | 18,_ =>
      have h14:(u 37)=.bool A14:=hdep 14 Kr;have h17:(u 40)=(bif A14 then undef else .bool (!n3)):=hdep 17 Kr;clear hdep;refine⟨_,rfl,fun K' hK=>?_⟩;cases A14
      all_goals cases n3
      all_goals
       (try simp only[h14,h17,cond_true,cond_false]at hK ⊢)
       go_simp
       first
        | exact hK.out _ _ Bz rfl
        | exact hK.out _ _ Bz (rfl)
     | 19,_ =>
      have h14:(u 37)=.bool A14:=hdep 14 Kr;have h18:(u 41)=(bif A14 then undef else .bool n3):=hdep 18 Kr;clear hdep;refine⟨_,rfl,fun K' hK=>?_⟩;cases A14
      all_goals cases n3
      all_goals
       (try simp only[h14,h18,cond_true,cond_false]at hK ⊢)
       go_simp
       first
        | exact hK.out _ _ Bz rfl
        | exact hK.out _ _ Bz (congrArg Value.bool R20.out)
     | 20,_ =>
      have h19:(u 42)=.bool A20:=hdep 19 Kr;clear hdep;refine⟨_,rfl,fun K' hK=>?_⟩
      (try simp only[h19]at hK ⊢)
      go_simp;exact hK.out _ _ Bz (rfl)
     | 21,_ =>
      have h20:(u 43)=.bool A20:=hdep 20 Kr;clear hdep;refine⟨_,rfl,fun K' hK=>?_⟩;cases A20
      all_goals
       (try simp only[h20,cond_true,cond_false]at hK ⊢)
       go_simp
       first
        | exact hK.out _ _ Bz rfl
        | exact hK.out _ _ Bz (rfl)
     | 22,_ =>
      have h20:(u 43)=.bool A20:=hdep 20 Kr;have h21:(u 44)=(bif A20 then undef else .pointer (some ⟨wr.heap.size,0,none⟩)):=hdep 21 Kr;clear hdep;refine⟨_,rfl,fun K' hK=>?_⟩;obtain⟨r0,r1,r2,r3,z0,z1,zrow,zb⟩:=HF.out w8 S8;cases A20
      all_goals
       (try simp only[h20,h21,cond_true,cond_false]at hK ⊢)
       go_simp
       first
        | exact hK.out _ _ Bz rfl
        | exact hK.out _ _ Bz (rfl)
     | 23,_ =>
      have h20:(u 43)=.bool A20:=hdep 20 Kr;have h22:(u 45)=(bif A20 then undef else .int .i64 x0):=hdep 22 Kr;clear hdep;refine⟨_,rfl,fun K' hK=>?_⟩;have E4:=E4.out;cases A20
      all_goals
       (try simp only[h20,h22,cond_true,cond_false]at hK ⊢)
       go_simp
       first
        | exact hK.out _ _ Bz rfl
        | exact hK.out _ _ Bz (rfl)
     | 24,_ =>
      have h20:(u 43)=.bool A20:=hdep 20 Kr;have h23:(u 46)=(bif A20 then undef else .bool p4):=hdep 23 Kr;clear hdep;refine⟨_,rfl,fun K' hK=>?_⟩;cases A20
      all_goals
       (try simp only[h20,h23,cond_true,cond_false]at hK ⊢)
       go_simp
       first
        | exact hK.out _ _ Bz rfl
        | exact hK.out _ _ Bz (rfl)
     | 25,_ =>
      have h24:(u 47)=(bif A20 then undef else .bool p4):=hdep 24 Kr;clear hdep;refine⟨_,rfl,fun K' hK=>?_⟩;cases A20
      all_goals cases p4
      all_goals
       (try simp only[h24,cond_true,cond_false]at hK ⊢)
       go_simp
       first
        | exact hK.out _ _ Bz rfl
        | exact hK.out _ _ Bz (rfl)
     | 26,_ =>
      have h24:(u 47)=(bif A20 then undef else .bool p4):=hdep 24 Kr;have h25:(u 48)=(bif A20 then undef else bif p4 then .pointer (some ⟨w.heap.size,1,none⟩) else undef):=hdep 25 Kr;clear hdep;refine⟨_,rfl,fun K' hK=>?_⟩;obtain⟨r0,r1,r2,r3,z0,z1,zrow,zb⟩:=HF.out w8 S8;cases A20
      all_goals cases p4
      all_goals
       (try simp only[h24,h25,cond_true,cond_false]at hK ⊢)
       go_simp
       first
        | exact hK.out _ _ Bz rfl
        | exact hK.out _ _ Bz (rfl)
     | 27,_ =>
      have h24:(u 47)=(bif A20 then undef else .bool p4):=hdep 24 Kr;clear hdep;refine⟨_,rfl,fun K' hK=>?_⟩;cases A20
      all_goals cases p4
      all_goals
       (try simp only[h24,cond_true,cond_false]at hK ⊢)
       go_simp
       first
        | exact hK.out _ _ Bz rfl
        | exact hK.out _ _ Bz (rfl)
     | 28,_ =>
      have h24:(u 47)=(bif A20 then undef else .bool p4):=hdep 24 Kr;clear hdep;refine⟨_,rfl,fun K' hK=>?_⟩;cases A20
      all_goals cases p4
      all_goals
       (try simp only[h24,cond_true,cond_false]at hK ⊢)
       go_simp
       first
        | exact hK.out _ _ Bz rfl
        | exact hK.out _ _ Bz (rfl)
     | 29,_ =>
      have h24:(u 47)=(bif A20 then undef else .bool p4):=hdep 24 Kr;have h28:(u 51)=(bif A20 then undef else bif p4 then .pointer (some ⟨wr.heap.size,0,none⟩) else undef):=hdep 28 Kr;clear hdep;refine⟨_,rfl,fun K' hK=>?_⟩;obtain⟨r0,r1,r2,r3,z0,z1,zrow,zb⟩:=HF.out w8 S8;cases A20
      all_goals cases p4
      all_goals
       (try simp only[h24,h28,cond_true,cond_false]at hK ⊢)
       go_simp
       first
        | exact hK.out _ _ Bz rfl
        | exact hK.out _ _ Bz (rfl)
     | 30,_ =>
      have h24:(u 47)=(bif A20 then undef else .bool p4):=hdep 24 Kr;have h26:(u 49)=(bif A20 then undef else bif p4 then .slice p1 l1 c1 else undef):=hdep 26 Kr;have h27:(u 50)=(bif A20 then undef else bif p4 then .int .i64 (k:Int) else undef):=hdep 27 Kr;have h29:(u 52)=(bif A20 then undef else bif p4 then .int .i64 x0 else undef):=hdep 29 Kr;clear hdep;refine⟨_,rfl,fun K' hK=>?_⟩;obtain⟨r0,r1,r2,r3,z0,z1,zrow,zb⟩:=HF.out w8 S8;cases A20
      all_goals cases p4
      all_goals
       (try simp only[h24,h26,h27,h29,cond_true,cond_false]at hK ⊢)
       go_simp
       first
        | exact hK.out _ _ Bz rfl
        | (refine(link_spec p1 l1 c1 g k x0 _ zrow).mono ?_;rintro e w9 ⟨rfl,hw⟩;have hw:=hw.symm;subst hw;exact hK.out _ _ Bz (congrArg (Value.int .i64) EL.out))
     | 31,_ =>
      have h24:(u 47)=(bif A20 then undef else .bool p4):=hdep 24 Kr;have h30:(u 53)=(bif A20 then undef else bif p4 then .int .i64 L else undef):=hdep 30 Kr;clear hdep;refine⟨_,rfl,fun K' hK=>?_⟩;have E5:=E5.out;cases A20
      all_goals cases p4
      all_goals
       (try simp only[h24,h30,cond_true,cond_false]at hK ⊢)
       go_simp
       first
        | exact hK.out _ _ Bz rfl
        | exact hK.out _ _ Bz (rfl)
     | 32,_ =>
      have h20:(u 43)=.bool A20:=hdep 20 Kr;have h24:(u 47)=(bif A20 then undef else .bool p4):=hdep 24 Kr;have h31:(u 54)=(bif A20 then undef else bif p4 then .bool p5 else undef):=hdep 31 Kr;clear hdep;refine⟨_,rfl,fun K' hK=>?_⟩;cases A20
      all_goals cases p4
      all_goals cases p5
      all_goals
       (try simp only[h20,h24,h31,cond_true,cond_false]at hK ⊢)
       go_simp
       first
        | exact hK.out _ _ Bz rfl
        | exact hK.out _ _ Bz (congrArg Value.bool R32.out)
     | 33,_ =>
      have h20:(u 43)=.bool A20:=hdep 20 Kr;have h32:(u 55)=(bif A20 then undef else .bool A32):=hdep 32 Kr;clear hdep;refine⟨_,rfl,fun K' hK=>?_⟩;cases A20
      all_goals cases A32
      all_goals
       (try simp only[h20,h32,cond_true,cond_false]at hK ⊢)
       go_simp
       first
        | exact hK.out _ _ Bz rfl
        | exact hK.out _ _ Bz (congrArg Value.bool R34.out)
     | 34,_ =>
      have h33:(u 56)=.bool A34:=hdep 33 Kr;clear hdep;refine⟨_,rfl,fun K' hK=>?_⟩
      (try simp only[h33]at hK ⊢)
      go_simp;exact hK.out _ _ Bz (rfl)
     | 35,_ =>
      have h34:(u 57)=.bool A34:=hdep 34 Kr;clear hdep;refine⟨_,rfl,fun K' hK=>?_⟩;cases A34
      all_goals
       (try simp only[h34,cond_true,cond_false]at hK ⊢)
       go_simp
       first
        | exact hK.out _ _ Bz rfl
        | exact hK.out _ _ Bz (rfl)
     | 36,_ =>
      have h34:(u 57)=.bool A34:=hdep 34 Kr;have h35:(u 58)=(bif A34 then undef else .pointer (some ⟨wr.heap.size,0,none⟩)):=hdep 35 Kr;clear hdep;refine⟨_,rfl,fun K' hK=>?_⟩;obtain⟨r0,r1,r2,r3,z0,z1,zrow,zb⟩:=HF.out w8 S8;cases A34
      all_goals
       (try simp only[h34,h35,cond_true,cond_false]at hK ⊢)
       go_simp
       first
        | exact hK.out _ _ Bz rfl
        | exact hK.out _ _ Bz (rfl)
     | 37,_ =>
      have h34:(u 57)=.bool A34:=hdep 34 Kr;have h36:(u 59)=(bif A34 then undef else .int .i64 x0):=hdep 36 Kr;clear hdep;refine⟨_,rfl,fun K' hK=>?_⟩;have E6:=E6.out;cases A34
      all_goals
       (try simp only[h34,h36,cond_true,cond_false]at hK ⊢)
       go_simp
       first
        | exact hK.out _ _ Bz rfl
        | exact hK.out _ _ Bz (rfl)
     | 38,_ =>
      have h34:(u 57)=.bool A34:=hdep 34 Kr;have h37:(u 60)=(bif A34 then undef else .bool p6):=hdep 37 Kr;clear hdep;refine⟨_,rfl,fun K' hK=>?_⟩;cases A34
      all_goals
       (try simp only[h34,h37,cond_true,cond_false]at hK ⊢)
       go_simp
       first
        | exact hK.out _ _ Bz rfl
        | exact hK.out _ _ Bz (rfl)
     | 39,_ =>
      have h38:(u 61)=(bif A34 then undef else .bool p6):=hdep 38 Kr;clear hdep;refine⟨_,rfl,fun K' hK=>?_⟩;obtain⟨r0,r1,r2,r3,z0,z1,zrow,zb⟩:=HF.out w8 S8;cases A34
      all_goals cases p6
      all_goals
       (try simp only[h38,cond_true,cond_false]at hK ⊢)
       go_simp
       first
        | exact hK.out _ _ Bz rfl
        | exact hK.out _ _ Bz (rfl)
     | 40,_ =>
      have h38:(u 61)=(bif A34 then undef else .bool p6):=hdep 38 Kr;clear hdep;refine⟨_,rfl,fun K' hK=>?_⟩;cases A34
      all_goals cases p6
      all_goals
       (try simp only[h38,cond_true,cond_false]at hK ⊢)
       go_simp
       first
        | exact hK.out _ _ Bz rfl
        | (refine(none_spec _).mono ?_;rintro e w9 ⟨rfl,hb9⟩;exact hK.out _ _ hb9 rfl)
     | 41,_ =>
      have h38:(u 61)=(bif A34 then undef else .bool p6):=hdep 38 Kr;have h39:(u 62)=(bif A34 then undef else bif p6 then .agg #[.int .i64 x0,.int .i64 x1,.int .i64 x2,.bool x3] else undef):=hdep 39 Kr;have h40:(u 63)=(bif A34 then undef else bif p6 then .agg #[.int .i64 (-3),.int .i64 0,.int .i64 0,.bool false] else undef):=hdep 40 Kr;clear hdep;refine⟨_,rfl,fun K' hK=>?_⟩;cases A34
      all_goals cases p6
      all_goals
       (try simp only[h38,h39,h40,cond_true,cond_false]at hK ⊢)
       go_simp
       first
        | exact hK.out _ _ Bz rfl
        | (have hz:=ne_ifs x0 x1 x2 x3 w8;rw[E7.out]at hz;rw[hz];go_simp;exact hK.out _ _ Bz rfl)
     | 42,_ =>
      have h34:(u 57)=.bool A34:=hdep 34 Kr;have h38:(u 61)=(bif A34 then undef else .bool p6):=hdep 38 Kr;have h41:(u 64)=(bif A34 then undef else bif p6 then .bool p7 else undef):=hdep 41 Kr;clear hdep;refine⟨_,rfl,fun K' hK=>?_⟩;cases A34
      all_goals cases p6
      all_goals cases p7
      all_goals
       (try simp only[h34,h38,h41,cond_true,cond_false]at hK ⊢)
       go_simp
       first
        | exact hK.out _ _ Bz rfl
        | exact hK.out _ _ Bz (congrArg Value.bool R42.out)
     | i+43,hi=>exact absurd hi Om
    intro u w8 S8 hall;have h34:(u 57)=.bool A34:=hall 34 (by decide);have h42:(u 65)=(bif A34 then undef else .bool A42):=hall 42 (by decide);clear hall;refine⟨_,rfl,fun K' hK=>?_⟩;cases A34
    all_goals cases A42
    all_goals
     (try simp only[h34,h42,cond_true,cond_false]at hK ⊢)
     go_simp;refine hK.out _ _ ?_;have B9:=hid (HB.out.trans ((HF.out w8 S8).2.2.2.2.2.2.2.mono HB.out.size));have BW:=hid (BR.out.trans ((HF.out w8 S8).2.2.2.2.2.2.2.mono BR.out.size));clear S8 hK K' h34 h42
     (try simp only[Exit.then])
     go_wp2
     first
      | (go_roundw
         case rel=>exact HN.out _ rfl B9.out
         case measure=>simp[intOf];omega)
      | (go_ret
         exact⟨ret_bool (HNO.out rfl),BW.out⟩)
  have e:k=rl:=by omega
  subst e;have e2:D=true:=by rw[HD2.out];exact allN_of HA.out
  subst e2;clear hbel hrow hrts;go_wp2;go_ret;exact⟨rfl,BR.out⟩
end Go.Proofs.YtcnoemjeijjnjaaGreat.routesSpec
namespace Go.Proofs.YtcnoemjeijjnjaaGreat.candFace
open Go.RowKit Go.Deep Go base netSem netSpec routeRow routesB routesSpec nbSem candSem candEnv candSpec sceneFault sceneFace
theorem env_code {ok rb:Bool} {el dl rl l3 l1:Nat} {env:List Int} (h:¬4096<rl):rtC ok rb el dl rl l3 l1 env=if envC ok el dl l3 l1 env=0 then (if rb=true then 0 else 1) else envC ok el dl l3 l1 env:=by
 unfold rtC envC arC;by_cases h1:4096<el∨4096<dl
 · rw[if_pos Om,if_pos h1];rfl
 rw[if_neg Om,if_neg h1]
end Go.Proofs.YtcnoemjeijjnjaaGreat.candFace
