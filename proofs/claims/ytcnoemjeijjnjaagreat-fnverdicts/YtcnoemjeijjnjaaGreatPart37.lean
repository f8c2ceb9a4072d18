import Derived.Test.YtcnoemjeijjnjaaGreatWalkImpl
import Derived.Test.YtcnoemjeijjnjaaGreatFaultSpec
import Derived.Lib.SliceRun
set_option linter.unusedVariables false
namespace Go.Proofs.YtcnoemjeijjnjaaGreat.violImpl
open Go.RowKit Go.Deep Go base copy candSem netSem routeRow nbSem walkSem intsOwn satSpec soAll countState faultSpec drawn
theorem bad_far {rs:Rs} {f:R} {m rl:Nat} {kind pp way:Int} {fr i:Nat} (h0:0≤pp) (h:pp≠(i:Int)):badAt rs f m rl kind pp way fr i=false:=by
 unfold badAt;rw[decide_eq_false Om,decide_eq_false h];rfl
theorem bad_near {rs:Rs} {f:R} {m rl:Nat} {kind pp way:Int} {fr i:Nat} (h:pp<0∨pp=(i:Int)):badAt rs f m rl kind pp way fr i = !satB kind way (wayO rs f m i rl fr) ((fr:Int)::wayR rs f m i rl fr):=by
 unfold badAt;rcases h with h|h
 · rw[decide_eq_true h];rfl
 rw[decide_eq_true h];simp
structure Lk (lk b : Nat) (kind pp way : Int) (fr n : Nat) (p : Nat→Option Addr) (l c : Nat→Nat) (w : World) : Prop where
 l0:w.cell? ⟨lk,0,none⟩=some (.pointer (some ⟨b,0,none⟩))
 l1:w.cell? ⟨lk,1,none⟩=some (.int .i64 kind)
 l2:w.cell? ⟨lk,2,none⟩=some (.int .i64 fr)
 l3:w.cell? ⟨lk,3,none⟩=some (.int .i64 pp)
 l4:w.cell? ⟨lk,4,none⟩=some (.int .i64 way)
 l5:w.cell? ⟨lk,5,none⟩=some (.int .i64 (n:Int))
 z5:w.frozen? ⟨lk,5,none⟩=false
 net:∀i,i<6→w.cell? ⟨b,i,none⟩=some (.slice (p i) (l i) (c i))
theorem Lk.below {lk b:Nat} {kind pp way:Int} {fr n:Nat} {p:Nat→Option Addr} {l c:Nat→Nat} {w w':World} (h:Lk lk b kind pp way fr n p l c w) (hb:Below w.heap.size w w'):Lk lk b kind pp way fr n p l c w' :=
 ⟨keep hb h.l0,keep hb h.l1,keep hb h.l2,keep hb h.l3,keep hb h.l4,keep hb h.l5,((bcell hb).2 _ _ (World.block_lt_of_cell? _ _ h.l5)).trans h.z5,fun i hi=>keep hb (h.net i hi)⟩
set_option maxRecDepth 100000 in
set_option maxHeartbeats 6400000 in
theorem viol_impl (lk b:Nat) (kind pp way:Int) (fr n:Nat) (p:Nat→Option Addr) (l c:Nat→Nat) (f:R) (ra:Option Addr) (rl rc:Nat) (rs:Rs) (w:World) (hL:Lk lk b kind pp way fr n p l c w) (hn:n≤1000000000) (h:Row 4 w (p 5) (l 5) f) (hr:RtRow w ra rl rs) (hv:Viable rs rl) (hfr:fr<rl) (h4:rl≤4) (hpp : -1≤pp∧pp≤15) :
  Calls Tryz.prog 48 #[.pointer (some ⟨lk,0,none⟩),.slice ra rl rc] w fun e w'=>e=.returned (.tuple #[.int .i64 (if 0≤faultAt rs f (l 5) rl kind pp way fr then faultAt rs f (l 5) rl kind pp way fr else 0),.bool (decide (0≤faultAt rs f (l 5) rl kind pp way fr))])∧∃w1,Below w.heap.size w w1∧w' = w1.setCell ⟨lk,5,none⟩ (.int .i64 ((n:Int)+1)):=by
 obtain⟨FA,hFA⟩:∃FA,faultAt rs f (l 5) rl kind pp way fr=FA:=⟨_,rfl⟩;rw[hFA];have HFA:=hid hFA;clear hFA;obtain⟨f0,hf0⟩:∃f0:Nat,(if pp = -1 then (0:Int) else pp)=(f0:Int):=⟨(if pp = -1 then (0:Int) else pp).toNat,by split<;>omega⟩;obtain⟨l0,hl0⟩:∃l0:Nat,(if pp = -1 then (15:Int) else pp)=(l0:Int):=⟨(if pp = -1 then (15:Int) else pp).toNat,by split<;>omega⟩
 have hfl:f0≤l0∧l0≤15∧(∀i:Nat,f0≤i→i≤l0→pp<0∨pp=(i:Int))∧(∀i:Nat,i<16→(i<f0∨l0<i)→0≤pp∧pp≠(i:Int)):=by
  by_cases e:pp = -1
  · rw[if_pos e]at hf0 hl0;exact⟨by omega,by omega,fun i _ _=>.inl Om,fun i _ h=>by omega⟩
  rw[if_neg e]at hf0 hl0;exact⟨by omega,by omega,fun i _ _=>.inr Om,fun i _ h=>by omega⟩
 obtain⟨hfl1,hfl2,hnear,hfar⟩:=hfl;have HPo:=hid (fun W=>ports_impl kind fr pp way W);rw[hf0,hl0]at HPo;have HNear:=hid hnear;have HFar:=hid hfar;have HLk:=hid hL;have HRow:=hid h;have HRt:=hid hr;have HV:=hid hv;have q0:=hL.l0;have q1:=hL.l1;have q2:=hL.l2;have q3:=hL.l3;have q4:=hL.l4;clear hL h hr hv hf0 hl0 hnear hfar hpp;go_enter_defers Tryz.func48,Tryz.ntmps48;go_wp2_with (go_at_call 87;refine(HPo.out _).mono ?_;rintro e1 w1 ⟨rfl,hb1⟩);have HB1:=hid hb1;clear hb1 q0 q1 q2 q3 q4;go_loopw [8] (fun i wr=>∃j:Nat,f0≤j∧j≤l0+1∧i=.int .i64 (j:Int)∧(∀i,i<j→badAt rs f (l 5) rl kind pp way fr i=false)∧Below w.heap.size w wr) (fun i _=>l0+1 - (intOf i).toNat)
 case atStart=>exact⟨f0,Nat.le_refl _,by omega,rfl,fun i hi=>by have:=HFar.out i Om (.inl hi);exact bad_far this.1 this.2,HB1.out⟩
 case round =>
  obtain⟨j,hj0,hj1,rfl,hall,hb⟩:=hrel;have HAll:=hid hall;have HB:=hid hb;clear hall hb;generalize wr=W8 at *;by_cases hlt:j≤l0
  · have hji:(j:Int)≤(l0:Int):=by omega
    have HL8:=hid (HLk.out.below HB.out);have HRow8:=hid (HRow.out.below HB.out);have HRt8:=hid (HRt.out.below HB.out);obtain⟨SB,hSB⟩:∃SB,satB kind way (wayO rs f (l 5) j rl fr) ((fr:Int)::wayR rs f (l 5) j rl fr)=SB:=⟨_,rfl⟩;have HSB:=hid hSB;have HQ:Hid (badAt rs f (l 5) rl kind pp way fr j = !SB):=hid (by rw[bad_near (HNear.out j hj0 hlt),hSB]);clear hSB;go_wp2_with fail;refine region_below (fun u=>⟨#[.pointer (some ⟨lk,0,none⟩),.slice ra rl rc,undef,undef,u4,u5,.int .i64 ↑f0,.int .i64 ↑l0,.int .i64 ↑j,.pointer (some ⟨lk,0,none⟩),.pointer (some ⟨lk,0,none⟩),.pointer (some ⟨lk,5,none⟩),.tuple #[.int .i64 ↑f0,.int .i64 ↑l0],.pointer (some ⟨lk,0,none⟩),.pointer (some ⟨lk,0,none⟩),.pointer (some ⟨lk,1,none⟩),.agg #[.int .i64 kind,.int .i64 ↑fr,.int .i64 pp,.int .i64 way],.tuple #[.int .i64 ↑f0,.int .i64 ↑l0],.int .i64 ↑f0,.int .i64 ↑l0,.int .i64 ↑f0,.int .i64 ↑j,.int .i64 ↑l0,.bool true,u24,u25,u 26,u 27,u 28,u 29,u 30,u 31,u 32,u 33,u 34,u 35,u 36,u 37,u 38,u 39,u 40,u 41,u 42,u 43,u 44,u 45,u46,u47],[{ target:=.fn (.func 86) #[],args:=#[.pointer (some ⟨lk,5,none⟩),.int .i64 1] }]⟩) (fun i=>[26,27,28,29,30,31,32,33,34,35,36,37,38,39,40,41,42,43,44,45].getD i 0) (fun i v w8=>match i with|0=>v=.pointer (some ⟨lk,0,none⟩)|1=>v=.pointer (some ⟨lk,0,none⟩)|2=>v=.pointer (some ⟨lk,1,none⟩)|3=>v=.agg #[.int .i64 kind,.int .i64 (fr:Int),.int .i64 pp,.int .i64 way]|4=>v=.pointer (some ⟨lk,0,none⟩)|5=>v=.pointer (some ⟨lk,0,none⟩)|6=>v=.pointer (some ⟨lk,0,none⟩)|7=>v=.pointer (some ⟨b,0,none⟩)|8=>v=.pointer (some ⟨b,0,none⟩)|9=>v=.pointer (some ⟨b,0,none⟩)|10=>v=.agg #[.slice (p 0) (l 0) (c 0),.slice (p 1) (l 1) (c 1),.slice (p 2) (l 2) (c 2),.slice (p 3) (l 3) (c 3),.slice (p 4) (l 4) (c 4),.slice (p 5) (l 5) (c 5)]|11=>v=.slice ra rl rc|12=>v=.pointer (some ⟨lk,0,none⟩)|13=>v=.pointer (some ⟨lk,0,none⟩)|14=>v=.pointer (some ⟨lk,1,none⟩)|15=>v=.pointer (some ⟨lk,2,none⟩)|16=>v=.int .i64 (fr:Int)|17=>v=.int .i64 (j:Int)|18=>∃x y,v=.agg #[.int .i64 (wayO rs f (l 5) j rl fr),.slice x (((fr:Int)::wayR rs f (l 5) j rl fr).length) y]∧IntRow w8 x (((fr:Int)::wayR rs f (l 5) j rl fr).length) ((fr:Int)::wayR rs f (l 5) j rl fr)|19=>v=.bool SB|_=>True) W8 20 (fun k=>match k with|26=>u26|27=>u27|28=>u28|29=>u29|30=>u30|31=>u31|32=>u32|33=>u33|34=>u34|35=>u35|36=>u36|37=>u37|38=>u38|39=>u39|40=>u40|41=>u41|42=>u42|43=>u43|44=>u44|45=>u45|_=>undef) (by rfl) Kr (by rfl) ⟨by kernel_rfl,by kernel_rfl,by kernel_rfl,by decide⟩ Kr Bz ?hput ?hinj ?stable ?step ?last
    case hput =>
     intro i hi u v
     iterate 20 (rcases i with _|i;rfl)
     exact absurd hi Om
    case hinj =>
     intro i j hi hj h;exact slots_inj [26,27,28,29,30,31,32,33,34,35,36,37,38,39,40,41,42,43,44,45] (by decide) hi hj h
    case stable =>
     intro i v w8 w9 hb h
     iterate 20 (rcases i with _|i;(first|exact h|obtain⟨x,y,e,h⟩:=h;exact⟨x,y,e,h.below hb⟩))
     trivial
    case step =>
     intro i hi u w8 S8 hdep
     match i,hi with
     | 0,_ =>
      clear hdep;refine⟨_,rfl,fun K' hK=>?_⟩;go_simp;exact hK.out _ _ Bz rfl
     | 1,_ =>
      have h0:(u 26)=.pointer (some ⟨lk,0,none⟩):=hdep 0 Kr;clear hdep;refine⟨_,rfl,fun K' hK=>?_⟩;simp only[h0]at hK ⊢;go_simp;exact hK.out _ _ Bz rfl
     | 2,_ =>
      have h1:(u 27)=.pointer (some ⟨lk,0,none⟩):=hdep 1 Kr;clear hdep;refine⟨_,rfl,fun K' hK=>?_⟩;simp only[h1]at hK ⊢;go_simp;exact hK.out _ _ Bz rfl
     | 3,_ =>
      have h2:(u 28)=.pointer (some ⟨lk,1,none⟩):=hdep 2 Kr;clear hdep;refine⟨_,rfl,fun K' hK=>?_⟩;have q1:=keep S8 HL8.out.l1;have q2:=keep S8 HL8.out.l2;have q3:=keep S8 HL8.out.l3;have q4:=keep S8 HL8.out.l4;simp only[h2]at hK ⊢;go_simp;exact hK.out _ _ Bz rfl
     | 4,_ =>
      clear hdep;refine⟨_,rfl,fun K' hK=>?_⟩;go_simp;exact hK.out _ _ Bz rfl
     | 5,_ =>
      have h4:(u 30)=.pointer (some ⟨lk,0,none⟩):=hdep 4 Kr;clear hdep;refine⟨_,rfl,fun K' hK=>?_⟩;simp only[h4]at hK ⊢;go_simp;exact hK.out _ _ Bz rfl
     | 6,_ =>
      have h5:(u 31)=.pointer (some ⟨lk,0,none⟩):=hdep 5 Kr;clear hdep;refine⟨_,rfl,fun K' hK=>?_⟩;simp only[h5]at hK ⊢;go_simp;exact hK.out _ _ Bz rfl
     | 7,_ =>
      have h6:(u 32)=.pointer (some ⟨lk,0,none⟩):=hdep 6 Kr;clear hdep;refine⟨_,rfl,fun K' hK=>?_⟩;have q0:=keep S8 HL8.out.l0;simp only[h6]at hK ⊢;go_simp;exact hK.out _ _ Bz rfl
     | 8,_ =>
      have h7:(u 33)=.pointer (some ⟨b,0,none⟩):=hdep 7 Kr;clear hdep;refine⟨_,rfl,fun K' hK=>?_⟩;simp only[h7]at hK ⊢;go_simp;exact hK.out _ _ Bz rfl
     | 9,_ =>
      have h8:(u 34)=.pointer (some ⟨b,0,none⟩):=hdep 8 Kr;clear hdep;refine⟨_,rfl,fun K' hK=>?_⟩;simp only[h8]at hK ⊢;go_simp;exact hK.out _ _ Bz rfl
     | 10,_ =>
      have h9:(u 35)=.pointer (some ⟨b,0,none⟩):=hdep 9 Kr;clear hdep;refine⟨_,rfl,fun K' hK=>?_⟩;have q0:=keep S8 (HL8.out.net 0 Om);have q1:=keep S8 (HL8.out.net 1 Om);have q2:=keep S8 (HL8.out.net 2 Om);have q3:=keep S8 (HL8.out.net 3 Om);have q4:=keep S8 (HL8.out.net 4 Om);have q5:=keep S8 (HL8.out.net 5 Om);simp only[h9]at hK ⊢;go_simp;exact hK.out _ _ Bz rfl
     | 11,_ =>
      clear hdep;refine⟨_,rfl,fun K' hK=>?_⟩;go_simp;exact hK.out _ _ Bz rfl
     | 12,_ =>
      clear hdep;refine⟨_,rfl,fun K' hK=>?_⟩;go_simp;exact hK.out _ _ Bz rfl
     | 13,_ =>
      have h12:(u 38)=.pointer (some ⟨lk,0,none⟩):=hdep 12 Kr;clear hdep;refine⟨_,rfl,fun K' hK=>?_⟩;simp only[h12]at hK ⊢;go_simp;exact hK.out _ _ Bz rfl
     | 14,_ =>
      have h13:(u 39)=.pointer (some ⟨lk,0,none⟩):=hdep 13 Kr;clear hdep;refine⟨_,rfl,fun K' hK=>?_⟩;simp only[h13]at hK ⊢;go_simp;exact hK.out _ _ Bz rfl
     | 15,_ =>
      have h14:(u 40)=.pointer (some ⟨lk,1,none⟩):=hdep 14 Kr;clear hdep;refine⟨_,rfl,fun K' hK=>?_⟩;simp only[h14]at hK ⊢;go_simp;exact hK.out _ _ Bz rfl
     | 16,_ =>
      have h15:(u 41)=.pointer (some ⟨lk,2,none⟩):=hdep 15 Kr;clear hdep;refine⟨_,rfl,fun K' hK=>?_⟩;have q2:=keep S8 HL8.out.l2;simp only[h15]at hK ⊢;go_simp;exact hK.out _ _ Bz rfl
     | 17,_ =>
      clear hdep;refine⟨_,rfl,fun K' hK=>?_⟩;go_simp;exact hK.out _ _ Bz rfl
     | 18,_ =>
      have h10:(u 36)=.agg #[.slice (p 0) (l 0) (c 0),.slice (p 1) (l 1) (c 1),.slice (p 2) (l 2) (c 2),.slice (p 3) (l 3) (c 3),.slice (p 4) (l 4) (c 4),.slice (p 5) (l 5) (c 5)]:=hdep 10 Kr;have h11:(u 37)=.slice ra rl rc:=hdep 11 Kr;have h16:(u 42)=.int .i64 (fr:Int):=hdep 16 Kr;have h17:(u 43)=.int .i64 (j:Int):=hdep 17 Kr;clear hdep;refine⟨_,rfl,fun K' hK=>?_⟩;simp only[h10,h11,h16,h17]at hK ⊢;go_simp;refine(walkImpl.walk_impl p l c f ra rl rc rs fr (j:Int) _ (HRow8.out.below S8) (HRt8.out.below S8) HV.out hfr h4).mono ?_;rintro e9 w9 ⟨v9,rfl,ho9,hb9⟩;obtain⟨x9,y9,hv9,hr9⟩:=ho9.form;subst hv9;exact hK.out _ _ hb9 ⟨_,_,rfl,hr9⟩
     | 19,_ =>
      have h3:(u 29)=.agg #[.int .i64 kind,.int .i64 (fr:Int),.int .i64 pp,.int .i64 way]:=hdep 3 Kr;have h18:∃x y,(u 44)=.agg #[.int .i64 (wayO rs f (l 5) j rl fr),.slice x (((fr:Int)::wayR rs f (l 5) j rl fr).length) y]∧IntRow w8 x (((fr:Int)::wayR rs f (l 5) j rl fr).length) ((fr:Int)::wayR rs f (l 5) j rl fr):=hdep 18 Kr;clear hdep;refine⟨_,rfl,fun K' hK=>?_⟩;obtain⟨x9,y9,e18,r18⟩:=h18;simp only[h3,e18]at hK ⊢;go_simp;refine(so_all kind fr pp way _ x9 _ y9 _ _ r18).mono ?_;rintro e9 w9 ⟨rfl,hb9⟩;exact hK.out _ _ hb9 (by rw[HSB.out])
     | i+20,hi=>exact absurd hi Om
    case last =>
     intro u w8 S8 hall;have h19:(u 45)=.bool SB:=hall 19 (by decide);clear hall;refine⟨_,rfl,fun K' hK=>?_⟩;simp only[h19]at hK ⊢;go_simp;refine hK.out _ _ ?_;have HS8:=hid S8;have HB9:Hid (Below w.heap.size w w8):=hid (HB.out.trans (S8.mono HB.out.size));have HL9:=hid (HL8.out.below S8);clear S8 hK K'
     cases SB with
     | true =>
      have HAl:Hid (∀i,i<j+1→badAt rs f (l 5) rl kind pp way fr i=false):=hid (fun i hi=>by
       by_cases e:i=j
       · subst e;rw[HQ.out];rfl
       exact HAll.out i Om)
      go_wp2_with fail;go_roundw
      case rel =>
       (repeat apply Exists.intro)
       refine⟨?rel2,rfl⟩;exact⟨j+1,by omega,by omega,by go_num,HAl.out,HB9.out⟩
      case measure=>simp[intOf];omega
     | false =>
      have HE:Hid (FA=(j:Int)):=hid (by
       rw[←HFA.out]
       exact firstAt_hit Om (by rw[HQ.out];rfl) HAll.out)
      have hE:=HE.out;subst hE;go_wp2_with fail;refine leaves_cons (f:=86) (args:=#[.pointer (some ⟨lk,5,none⟩),.int .i64 1]) (by simp) (by simp[go_sem]) ?_;refine(add_deferred lk n .returning _ HL9.out.l5 HL9.out.z5 hn).mono ?_;rintro e u' w'' ⟨rfl,rfl,rfl⟩;have HRs:Hid (∃w1,Below w.heap.size w w1∧w8.setCell ⟨lk,5,none⟩ (.int .i64 ((n:Int)+1))=w1.setCell ⟨lk,5,none⟩ (.int .i64 ((n:Int)+1))):=hid ⟨w8,HB9.out,rfl⟩;simp[Leaves,settle,results,Tryz.results48];exact HRs.out
  have ej:j=l0+1:=by omega
  have HE:Hid (FA = -1):=hid (by
   rw[←HFA.out]
   exact firstAt_none (fun i hi=>by
    by_cases h9:i<j
    · exact HAll.out i h9
    have:=HFar.out i hi (.inr Om)
    exact bad_far this.1 this.2))
  subst ej;have HL9:=hid (HLk.out.below HB.out);have HRs:Hid (∃w1,Below w.heap.size w w1∧W8.setCell ⟨lk,5,none⟩ (.int .i64 ((n:Int)+1))=w1.setCell ⟨lk,5,none⟩ (.int .i64 ((n:Int)+1))):=hid ⟨W8,HB.out,rfl⟩;have hji:¬(((l0+1:Nat):Int)≤(l0:Int)):=by omega
  have hE:=HE.out;subst hE;go_wp2_with fail;refine leaves_cons (f:=86) (args:=#[.pointer (some ⟨lk,5,none⟩),.int .i64 1]) (by simp) (by simp[go_sem]) ?_;refine(add_deferred lk n .returning _ HL9.out.l5 HL9.out.z5 hn).mono ?_;rintro e u' w'' ⟨rfl,rfl,rfl⟩;simp[Leaves,settle,results,Tryz.results48];exact HRs.out
end Go.Proofs.YtcnoemjeijjnjaaGreat.violImpl
namespace Go.Proofs.YtcnoemjeijjnjaaGreat.viasSpec
open Go.RowKit Go.Deep base copy rowsOwn routeRow envsSpec
def viasL (r : Nat→Rt) (k : Nat) : List Int := (List.range k).map fun i=>(r i).via
theorem vias_len (r:Nat→Rt) (k:Nat):(viasL r k).length=k:=by simp[viasL]
theorem vias_succ (r:Nat→Rt) (k:Nat):viasL r (k+1)=viasL r k++[(r k).via]:=by simp[viasL,List.range_succ]
set_option maxRecDepth 8000 in
set_option maxHeartbeats 1600000 in
theorem vias_spec (a:Option Addr) (len cap:Nat) (r:Nat→Rt) (w:World) (h:RtRow w a len r) (hl:len≤4) :
  Calls Tryz.prog 56 #[.slice a len cap] w fun e w'=>∃v,e=.returned v∧OwnInts w.heap.size w' v (viasL r len)∧Below w.heap.size w w' := by
 have HR:=hid h;clear h;obtain⟨i0,hi,hzz⟩:=Option.map_eq_some_iff.1 Tryz.info_int;simp only[Prod.mk.injEq]at hzz;obtain⟨hz0,hz1,hz2⟩:=hzz;have HI:=hid hi;have HZ0:=hid hz0;have HZ1:=hid hz1;have HZ2:=hid hz2;clear hi hz0 hz1 hz2;go_enter Tryz.func56,Tryz.ntmps56;go_wp2;go_loopw [4,3] (fun i v wr=>∃k:Nat,k≤len∧i=.int .i64 k∧OwnInts w.heap.size wr v (viasL r k)∧Below w.heap.size w wr) (fun i _ _=>len - (intOf i).toNat)
 case atStart=>exact⟨0,Nat.zero_le _,rfl,own_new w rfl (Nat.le_refl _),Bl⟩
 rename_i v;obtain⟨k,hk,rfl,hox,hbel⟩:=hrel;have HO:=hid hox;have HB:=hid hbel;have hszw:=hbel.size;have HSu:=hid (vias_succ r k);obtain⟨xa,xc,hv,-⟩:=hox.form;rw[vias_len]at hv;subst hv;clear hox;by_cases hlt:k<len
 · obtain⟨b,off,rfl,hcs⟩:=(HR.out).cell k hlt;have hc0:w.cell? ⟨b,off+k*4,none⟩=some (.int .i64 (r k).via):=hcs 0 Om;have hc:=keep hbel hc0;have hki:(k:Int)<(len:Int):=by omega
   obtain⟨x,hx⟩:∃x,(r k).via=x:=⟨_,rfl⟩;rw[hx]at hc HSu;clear hbel hc0 hcs hx;go_wp2_with (at_builtin;(refine wpList_append_own _ rfl _ _ 25 rfl w.heap.size 3 i0 (.int .i64 0) 1 8 Tryz.underlying25 HI.out HZ0.out HZ1.out HZ2.out rfl (by decide) _ k _ rfl (by have h9:=World.ownsRow.alloc HO.out (.cells #[.int .i64 x] 3);rw[vias_len]at h9;exact h9) ⟨wr.heap.size,0,none⟩ 1 1 [.int .i64 x] rfl rfl (cell_one_new _ _ _) (fun u hu=>by simp at hu;subst hu;rfl) (by unfold maxLen;omega) Om (by simp;omega) ?_);intro v' w9 hown' hgrow9 hnil9)
   have HO9:Hid (OwnInts w.heap.size w9 v' (viasL r (k+1))):=hid (by
    unfold OwnInts;rw[HSu.out,List.length_append,List.map_append,vias_len]
    exact hown')
   have hba:Below w.heap.size w (wr.alloc (.cells #[.int .i64 x] 3)):=HB.out.alloc HB.out.size _;have HB9:Hid (Below w.heap.size w w9):=hid (hba.grown hgrow9 (by simp;omega) (fun j hj=>(World.ownsRow.lt HO.out j hj).1));clear hown' hgrow9 hnil9 hba;go_wp2;go_roundw
   case rel=>exact⟨k+1,by omega,by go_num,HO9.out,HB9.out⟩
   case measure=>simp[intOf];omega
 have e:k=len:=by omega
 subst e;go_wp2;go_ret;exact⟨_,rfl,HO.out,HB.out⟩
end Go.Proofs.YtcnoemjeijjnjaaGreat.viasSpec
namespace Go.Proofs.YtcnoemjeijjnjaaGreat.cloneImpl
open Go.RowKit Go.Deep Go base copy routeRow candSem envsSpec downsSpec viasSpec rowsOwn
set_option maxRecDepth 8000 in
set_option maxHeartbeats 1600000 in
theorem clone_bool (X n:Nat) (zs:List Bool) (w:World) (hr:w.rowIs X 4 n (fun i=>.bool (zs[i]?.getD false))) (hz:zs.length=n) (hn:n≤100) :
  Calls Tryz.prog 50 #[.slice (some ⟨X,0,none⟩) n n] w fun e w'=>∃v,e=.returned v∧w'.ownsRow w.heap.size 4 1 v zs.length (zs.map Value.bool)∧Below w.heap.size w w' := by
 obtain⟨i0,hi,hzz⟩:=Option.map_eq_some_iff.1 info_bool;simp only[Prod.mk.injEq]at hzz;obtain⟨hz0,hz1,hz2⟩:=hzz;have HI:=hid hi;have HZ0:=hid hz0;have HZ1:=hid hz1;have HZ2:=hid hz2;have HZl:=hid hz
 have HNews:Hid (∀j u,(zs.map Value.bool)[j]? = some u→(w.alloc (.cells #[] 4)).cell? ((⟨X,0,none⟩:Addr).add j)=some u):=hid (fun j u hu=>by
  have hj:j<n:=by
   have:=(List.getElem?_eq_some_iff.1 hu).1;rw[List.length_map]at this;omega
  have h1:=hr.cell (i:=j) hj;rw[List.getElem?_map,List.getElem?_eq_getElem Om]at hu;rw[List.getElem?_eq_getElem Om]at h1;injection hu with hu;rw[←hu,noRts.add0]
  exact keep (show Below w.heap.size w (w.alloc (.cells #[] 4)) from Bl) h1)
 have hnil:(binOp .eql 35 (.slice (some ⟨X,0,none⟩) n n) (.slice none 0 0)).run Tryz.prog w=.ok (.bool false) w:=Go.Lib.run_eql_slice_nil w _ _ _ _ _ _ _ Tryz.underlying35;clear hi hz0 hz1 hz2 hr hz;go_enter Tryz.func50,Tryz.ntmps50;go_wp2_with (at_builtin;(refine wpList_append_own _ rfl _ _ 35 rfl w.heap.size 4 i0 (.bool false) 1 1 Tryz.underlying35 HI.out HZ0.out HZ1.out HZ2.out rfl (by decide) _ 0 _ rfl (empty_row _ w) ⟨X,0,none⟩ n n (zs.map Value.bool) rfl (by rw[List.length_map,HZl.out,Nat.mul_one]) HNews.out (fun u hu=>by obtain⟨z,_,rfl⟩:=List.mem_map.1 hu;rfl) (by unfold maxLen;omega) Om (by first|(simp;done)|(simp;omega)) ?_);intro v' w9 hown' hgrow9 hnil9);have HO9:Hid (w9.ownsRow w.heap.size 4 1 v' zs.length (zs.map Value.bool)):=hid (by rw[HZl.out];simpa using hown');have hba:Below w.heap.size w (w.alloc (.cells #[] 4)):=Bl;have HB9:Hid (Below w.heap.size w w9):=hid (hba.grown hgrow9 (by simp) (fun j hj=>by have hj':some w.heap.size=some j:=hj;injection hj' with hj';omega));clear hown' hgrow9 hnil9 hba;go_wp2;go_ret;exact⟨_,rfl,HO9.out,HB9.out⟩
set_option maxRecDepth 8000 in
set_option maxHeartbeats 1600000 in
theorem clone_int (X n:Nat) (zs:List Int) (w:World) (hr:w.rowIs X 3 n (fun i=>.int .i64 (zs[i]?.getD 0))) (hz:zs.length=n) (hn:n≤100) :
  Calls Tryz.prog 51 #[.slice (some ⟨X,0,none⟩) n n] w fun e w'=>∃v,e=.returned v∧w'.ownsRow w.heap.size 3 1 v zs.length (zs.map (Value.int .i64))∧Below w.heap.size w w' := by
 obtain⟨i0,hi,hzz⟩:=Option.map_eq_some_iff.1 Tryz.info_int;simp only[Prod.mk.injEq]at hzz;obtain⟨hz0,hz1,hz2⟩:=hzz;have HI:=hid hi;have HZ0:=hid hz0;have HZ1:=hid hz1;have HZ2:=hid hz2;have HZl:=hid hz
 have HNews:Hid (∀j u,(zs.map (Value.int .i64))[j]? = some u→(w.alloc (.cells #[] 3)).cell? ((⟨X,0,none⟩:Addr).add j)=some u):=hid (fun j u hu=>by
  have hj:j<n:=by
   have:=(List.getElem?_eq_some_iff.1 hu).1;rw[List.length_map]at this;omega
  have h1:=hr.cell (i:=j) hj;rw[List.getElem?_map,List.getElem?_eq_getElem Om]at hu;rw[List.getElem?_eq_getElem Om]at h1;injection hu with hu;rw[←hu,noRts.add0]
  exact keep (show Below w.heap.size w (w.alloc (.cells #[] 3)) from Bl) h1)
 have hnil:(binOp .eql 25 (.slice (some ⟨X,0,none⟩) n n) (.slice none 0 0)).run Tryz.prog w=.ok (.bool false) w:=Go.Lib.run_eql_slice_nil w _ _ _ _ _ _ _ Tryz.underlying25;clear hi hz0 hz1 hz2 hr hz;go_enter Tryz.func51,Tryz.ntmps51;go_wp2_with (at_builtin;(refine wpList_append_own _ rfl _ _ 25 rfl w.heap.size 3 i0 (.int .i64 0) 1 8 Tryz.underlying25 HI.out HZ0.out HZ1.out HZ2.out rfl (by decide) _ 0 _ rfl (empty_row _ w) ⟨X,0,none⟩ n n (zs.map (Value.int .i64)) rfl (by rw[List.length_map,HZl.out,Nat.mul_one]) HNews.out (fun u hu=>by obtain⟨z,_,rfl⟩:=List.mem_map.1 hu;rfl) (by unfold maxLen;omega) Om (by first|(simp;done)|(simp;omega)) ?_);intro v' w9 hown' hgrow9 hnil9);have HO9:Hid (w9.ownsRow w.heap.size 3 1 v' zs.length (zs.map (Value.int .i64))):=hid (by rw[HZl.out];simpa using hown');have hba:Below w.heap.size w (w.alloc (.cells #[] 3)):=Bl;have HB9:Hid (Below w.heap.size w w9):=hid (hba.grown hgrow9 (by simp) (fun j hj=>by have hj':some w.heap.size=some j:=hj;injection hj' with hj';omega));clear hown' hgrow9 hnil9 hba;go_wp2;go_ret;exact⟨_,rfl,HO9.out,HB9.out⟩
theorem via_impl (r:Rt) (w:World) :
  Calls Tryz.prog 90 #[.agg #[.int .i64 r.via,.int .i64 r.pref,.int .i64 r.len,.bool r.mark]] w fun e w'=>e=.returned (.int .i64 r.via)∧Below w.heap.size w w' := by
 go_enter Tryz.func90,Tryz.ntmps90;go_wp2;go_ret;exact⟨rfl,Bl⟩
set_option maxRecDepth 8000 in
set_option maxHeartbeats 1600000 in
theorem each_impl (a:Option Addr) (len cap:Nat) (r:Nat→Rt) (w:World) (h:RtRow w a len r) (hl:len≤4) :
  Calls Tryz.prog 89 #[.slice a len cap,.func (.func 90) #[] #[]] w fun e w'=>∃v,e=.returned v∧OwnInts w.heap.size w' v (viasL r len)∧Below w.heap.size w w' := by
 have HR:=hid h;clear h;obtain⟨i0,hi,hzz⟩:=Option.map_eq_some_iff.1 Tryz.info_int;simp only[Prod.mk.injEq]at hzz;obtain⟨hz0,hz1,hz2⟩:=hzz;have HI:=hid hi;have HZ0:=hid hz0;have HZ1:=hid hz1;have HZ2:=hid hz2;clear hi hz0 hz1 hz2;go_enter Tryz.func89,Tryz.ntmps89;go_wp2;go_loopw [10,5] (fun i v wr=>∃k:Nat,k≤len∧i=.int .i64 k∧OwnInts w.heap.size wr v (viasL r k)∧Below w.heap.size w wr) (fun i _ _=>len - (intOf i).toNat)
 case atStart=>exact⟨0,Nat.zero_le _,rfl,World.ownsRow_nil _ _ _ _,Below.refl _ _⟩
 rename_i v;obtain⟨k,hk,rfl,hox,hbel⟩:=hrel;have HO:=hid hox;have HB:=hid hbel;have hszw:=hbel.size;have HSu:=hid (vias_succ r k);obtain⟨xa,xc,hv,-⟩:=hox.form;rw[vias_len]at hv;subst hv;clear hox;by_cases hlt:k<len
 · obtain⟨b,off,rfl,hcs⟩:=(HR.out).cell k hlt;have hc0:wr.cell? ⟨b,off+k*4,none⟩=some (rc (r k) 0):=keep hbel (hcs 0 Om);have hc1:=keep hbel (hcs 1 Om);have hc2:=keep hbel (hcs 2 Om);have hc3:=keep hbel (hcs 3 Om);have hki:(k:Int)<(len:Int):=by omega
   obtain⟨R,hR⟩:∃R,r k=R:=⟨_,rfl⟩;rw[hR]at hc0 hc1 hc2 hc3 HSu;simp only[rc]at hc0 hc1 hc2 hc3;have HV:=hid (fun W=>via_impl R W);clear hbel hcs hR;go_wp2_with fail;refine(HV.out _).mono ?_;rintro e1 w2 ⟨rfl,hb2⟩;have HB2:Hid (Below wr.heap.size wr w2):=hid ((show Below wr.heap.size wr _ from Bl).trans (hb2.mono (by simp)));have hz2:=HB2.out.size;have HBw2:=hid (HB.out.trans (HB2.out.mono hszw));have HO2:Hid (OwnInts w.heap.size w2 (.slice xa k xc) (viasL r k)):=hid (own_pass HO.out HB2.out);obtain⟨x,hx⟩:∃x,R.via=x:=⟨_,rfl⟩;rw[hx]at HSu ⊢;clear hb2 hx;go_wp2_with (at_builtin;(refine wpList_append_own _ rfl _ _ 25 rfl w.heap.size 3 i0 (.int .i64 0) 1 8 Tryz.underlying25 HI.out HZ0.out HZ1.out HZ2.out rfl (by decide) _ k _ rfl (by have h9:=World.ownsRow.alloc HO2.out (.cells #[.int .i64 x] 3);rw[vias_len]at h9;exact h9) ⟨w2.heap.size,0,none⟩ 1 1 [.int .i64 x] rfl rfl (cell_one_new _ _ _) (fun u hu=>by simp at hu;subst hu;rfl) (by unfold maxLen;omega) Om (by simp;omega) ?_);intro v' w9 hown' hgrow9 hnil9)
   have HO9:Hid (OwnInts w.heap.size w9 v' (viasL r (k+1))):=hid (by
    unfold OwnInts;rw[HSu.out,List.length_append,List.map_append,vias_len]
    exact hown')
   have hba:Below w.heap.size w (w2.alloc (.cells #[.int .i64 x] 3)):=HBw2.out.alloc HBw2.out.size _;have HB9:Hid (Below w.heap.size w w9):=hid (hba.grown hgrow9 (by simp;omega) (fun j hj=>(World.ownsRow.lt HO2.out j hj).1));clear hown' hgrow9 hnil9 hba;go_wp2;go_roundw
   case rel=>exact⟨k+1,by omega,by go_num,HO9.out,HB9.out⟩
   case measure=>simp[intOf];omega
 have e:k=len:=by omega
 subst e;go_wp2;go_ret;exact⟨_,rfl,HO.out,HB.out⟩
theorem vias_impl (a:Option Addr) (len cap:Nat) (r:Nat→Rt) (w:World) (h:RtRow w a len r) (hl:len≤4) :
  Calls Tryz.prog 52 #[.slice a len cap] w fun e w'=>∃v,e=.returned v∧OwnInts w.heap.size w' v (viasL r len)∧Below w.heap.size w w' := by
 have HE:=hid (each_impl a len cap r w h hl);clear h;go_enter Tryz.func52,Tryz.ntmps52;go_wp2_with (go_at_call 89;refine HE.out.mono ?_;rintro e w' ⟨v,rfl,ho,hb⟩;have HR:=hid (And.intro ho hb);clear ho hb);go_ret;exact⟨_,rfl,HR.out⟩
end Go.Proofs.YtcnoemjeijjnjaaGreat.cloneImpl
namespace Go.Proofs.YtcnoemjeijjnjaaGreat.verSem
variable {D E S : Type}
def rowT (ST : D→E→List S) (d : D) (es : List E) : List (D × E × S) := es.flatMap fun e=>(ST d e).map fun s=>(d,e,s)
def trips (ST : D→E→List S) (ds : List D) (es : List E) : List (D × E × S) := ds.flatMap fun d=>rowT ST d es
theorem row_app (ST:D→E→List S) (d:D) (xs ys:List E):rowT ST d (xs++ys)=rowT ST d xs++rowT ST d ys:=by unfold rowT;rw[List.flatMap_append]
theorem row_one (ST:D→E→List S) (d:D) (e:E):rowT ST d [e]=(ST d e).map fun s=>(d,e,s):=by simp[rowT]
theorem trips_app (ST:D→E→List S) (xs ys:List D) (es:List E):trips ST (xs++ys) es=trips ST xs es++trips ST ys es:=by unfold trips;rw[List.flatMap_append]
theorem trips_one (ST:D→E→List S) (d:D) (es:List E):trips ST [d] es=rowT ST d es:=by simp[trips]
theorem take_next {A:Type} {l:List A} {k:Nat} {a:A} (h:l[k]? = some a):l.take (k+1)=l.take k++[a]:=by
 obtain⟨hk,e⟩:=List.getElem?_eq_some_iff.1 h;rw[List.take_succ_eq_append_getElem hk,e]
theorem parts {A:Type} {l:List A} {k:Nat} {a:A} (h:l[k]? = some a):l=l.take k++[a]++l.drop (k+1):=by
 rw[←take_next h,List.take_append_drop]
theorem trips_at (ST:D→E→List S) {ds:List D} {es:List E} {m q k:Nat} {d:D} {e:E} {s:S} (hd:ds[m]? = some d) (he:es[q]? = some e) (hs:(ST d e)[k]? = some s) :
  ∃rest,trips ST ds es=(trips ST (ds.take m) es++rowT ST d (es.take q)++((ST d e).take k).map fun s=>(d,e,s))++(d,e,s)::rest:=by
 refine⟨((ST d e).drop (k+1)).map (fun s=>(d,e,s))++rowT ST d (es.drop (q+1))++trips ST (ds.drop (m+1)) es,?_⟩
 have h1:trips ST ds es=trips ST (ds.take m) es++rowT ST d es++trips ST (ds.drop (m+1)) es:=by
  conv=>lhs;rw[parts hd]
  rw[trips_app,trips_app,trips_one]
 have h2:rowT ST d es=rowT ST d (es.take q)++((ST d e).map fun s=>(d,e,s))++rowT ST d (es.drop (q+1)):=by
  conv=>lhs;rw[parts he]
  rw[row_app,row_app,row_one]
 have h3:((ST d e).map fun s=>(d,e,s))=(((ST d e).take k).map fun s=>(d,e,s))++[(d,e,s)]++(((ST d e).drop (k+1)).map fun s=>(d,e,s)):=by
  conv=>lhs;rw[parts hs]
  simp
 rw[h1,h2,h3];simp
theorem first_uniq {A:Type} (bad:A→Bool):∀ {p p':List A} {t t':A} {r r':List A},p++t::r=p'++t'::r'→(∀a∈p,bad a=false)→(∀a∈p',bad a=false)→bad t=true→bad t' = true→p=p'∧t=t'
 | [],[],_,_,_,_,h,_,_,_,_=>by simp at h;exact⟨rfl,h.1⟩
 | [],a::p',t,t',_,_,h,_,hp',ht,_=>by
  simp at h;have:=hp' a (by simp);rw[←h.1,ht]at this;cases this
 | a::p,[],t,t',_,_,h,hp,_,_,ht'=>by
  simp at h;have:=hp a (by simp);rw[h.1,ht']at this;cases this
 | a::p,b::p',_,_,_,_,h,hp,hp',ht,ht'=>by
  simp at h;obtain⟨h1,h2⟩:=h;have:=first_uniq bad h2 (fun x hx=>hp x (by simp[hx])) (fun x hx=>hp' x (by simp[hx])) ht ht';exact⟨by rw[h1,this.1],this.2⟩
end Go.Proofs.YtcnoemjeijjnjaaGreat.verSem
