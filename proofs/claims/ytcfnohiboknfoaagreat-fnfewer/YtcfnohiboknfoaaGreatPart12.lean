import Derived.Test.YtcfnohiboknfoaaGreatCandImp
import Derived.Laws.ResultCell
set_option linter.unusedVariables false
namespace Go.Proofs.YtcfnohiboknfoaaGreat.candTake
open Go.RowKit Go.Deep Go base drawn netSem routeRow candSem candImp
set_option maxHeartbeats 3200000 in
set_option maxRecDepth 8000 in
theorem take_impl (H off ny ic:Nat) (ia:Option Addr) (y:R) (cost router fr:Int) (r:Rt) (w:World) (h1:w.cell? ⟨H,off+1,none⟩=some (.int .i64 cost)) (h2:w.cell? ⟨H,off+2,none⟩=some (.slice ia ny ic)) (hy:Row 5 w ia ny y) (hp:∀ i,i<ny→y i 0=router∧y i 1=fr∧1≤y i 3∧y i 3≤4)
  (hc:0≤cost∧cost≤100) (h0:0≤r.len∧r.len≤20000) :
  Calls Tryz.prog 112 #[.pointer (some ⟨H,off,none⟩),.int .i64 fr,rtV r] w fun e' w'=>e' = .returned (.tuple #[rtV ((impK y router fr (startI fr cost r) ny).getD zRt),.bool (impK y router fr (startI fr cost r) ny).isSome])∧Below w.heap.size w w' := by
 have HY:=hid hy
 have HP:=hid hp
 have my:=hy.most
 unfold maxLen at my
 have HH1:=hid h1
 have HH2:=hid h2
 have hH:=World.block_lt_of_cell? _ _ h1
 simp only at hH
 clear hy hp
 obtain ⟨via,pref,len,mark⟩:=r
 simp only [startI]
 simp only at h0
 simp only [rtV]
 obtain ⟨r0,hr0⟩:∃ q:Rt,q=⟨fr,100,len+cost,mark⟩:=⟨_,rfl⟩
 rw [← hr0]
 obtain ⟨ri,hri⟩:∃ q,impK y router fr r0 ny=q:=⟨_,rfl⟩
 have HRI:=hid hri
 rw [hri]
 clear hri
 have hadd:IntKind.i64.wrap (len+cost)=len+cost:=by rw [IntKind.wrap_i64];omega
 go_enter Tryz.func112,Tryz.ntmps112
 go_wp2_with fail
 have HW:Hid (∀ w8:World,Below ((w.alloc (.cells #[.int .i64 via,.int .i64 pref,.int .i64 len,.bool mark] 106)).alloc (.cells #[.int .i64 0,.int .i64 0,.int .i64 0,.bool false] 106)).heap.size ((w.alloc (.cells #[.int .i64 via,.int .i64 pref,.int .i64 len,.bool mark] 106)).alloc (.cells #[.int .i64 0,.int .i64 0,.int .i64 0,.bool false] 106)) w8→w8.cell? ⟨w.heap.size,2,none⟩=some (.int .i64 len)∧w8.cell? ⟨w.heap.size,3,none⟩=some (.bool mark)∧w8.cell? ⟨H,off+1,none⟩=some (.int .i64 cost)∧w8.rowIs w.heap.size 106 4 (rc ⟨via,pref,len,mark⟩)):=hid (fun w8 hb=>by
  have hb0:Below w.heap.size w ((w.alloc (.cells #[.int .i64 via,.int .i64 pref,.int .i64 len,.bool mark] 106)).alloc (.cells #[.int .i64 0,.int .i64 0,.int .i64 0,.bool false] 106)):=Bl
  have hb8:=hb0.trans (hb.mono hb0.size)
  have hrow:=row_alloc (ob:=.cells #[.int .i64 0,.int .i64 0,.int .i64 0,.bool false] 106) (row_new w ⟨via,pref,len,mark⟩)
  exact ⟨keep hb (by simp [go_sem]),keep hb (by simp [go_sem]),keep hb8 HH1.out,World.rowIs.of_block hrow (hb.block _ (by simp;omega))⟩)
 have hz8:((w.alloc (.cells #[.int .i64 via,.int .i64 pref,.int .i64 len,.bool mark] 106)).alloc (.cells #[.int .i64 0,.int .i64 0,.int .i64 0,.bool false] 106)).heap.size=w.heap.size+2:=by simp
 have V8:Hid (Below w.heap.size w ((w.alloc (.cells #[.int .i64 via,.int .i64 pref,.int .i64 len,.bool mark] 106)).alloc (.cells #[.int .i64 0,.int .i64 0,.int .i64 0,.bool false] 106))):=hid Bl
 have Z8:Hid (((w.alloc (.cells #[.int .i64 via,.int .i64 pref,.int .i64 len,.bool mark] 106)).alloc (.cells #[.int .i64 0,.int .i64 0,.int .i64 0,.bool false] 106)).rowIs (w.heap.size+1) 106 4 (rc zRt)):=hid (by
  have hrow:=row_new (w.alloc (.cells #[.int .i64 via,.int .i64 pref,.int .i64 len,.bool mark] 106)) zRt
  rw [World.size_alloc] at hrow
  exact hrow)
 have hz8:=hid hz8
 clear h1 h2
 generalize ((w.alloc (.cells #[.int .i64 via,.int .i64 pref,.int .i64 len,.bool mark] 106)).alloc (.cells #[.int .i64 0,.int .i64 0,.int .i64 0,.bool false] 106))=W8 at *
 refine region_below (fun u=>⟨#[.pointer (some { block:=H,off:=off }),.int .i64 fr,.agg #[.int .i64 via,.int .i64 pref,.int .i64 len,.bool mark],undef,undef,.pointer (some { block:=w.heap.size,off:=0 }),.pointer (some { block:=w.heap.size+1,off:=0 }),.bool false,undef,undef,u 10,u 11,u 12,u 13,u 14,u 15,u 16,u 17,u 18,u 19,u 20,undef,undef,undef,undef,undef,undef,undef,undef,undef,undef,undef,undef,undef,undef,undef,undef,undef,undef,undef,undef,undef,undef,undef,undef,undef,undef,undef,undef,undef,undef,undef,undef,undef,undef,undef,undef,undef,undef,undef,undef,undef,undef,undef,undef],[]⟩) (fun i=>[10,11,12,13,14,15,16,17,18,19,20].getD i 0) (fun i v w8=>match i with|0=>v=.int .i64 fr|1=>v=.pointer (some ⟨w.heap.size,2,none⟩)|2=>v=.int .i64 len|3=>v=.pointer (some ⟨H,off,none⟩)|4=>v=.pointer (some ⟨H,off,none⟩)|5=>v=.pointer (some ⟨H,off+1,none⟩)|6=>v=.int .i64 cost|7=>v=.int .i64 (len+cost)|8=>v=.pointer (some ⟨w.heap.size,3,none⟩)|9=>v=.bool mark|10=>v=.agg #[.int .i64 fr,.int .i64 100,.int .i64 (len+cost),.bool mark]|_=>True) W8 11 (fun k=>match k with|10=>undef|11=>undef|12=>undef|13=>undef|14=>undef|15=>undef|16=>undef|17=>undef|18=>undef|19=>undef|20=>undef|_=>undef) (by rfl) (by kernel_rfl) (by rfl) ⟨by kernel_rfl,by kernel_rfl,by kernel_rfl,by decide⟩ (by kernel_rfl) Bz ?hput ?hinj ?stable ?step ?last
 case hput =>
  intro i hi u v
  match i,hi with
  | 0,_=>rfl
  | 1,_=>rfl
  | 2,_=>rfl
  | 3,_=>rfl
  | 4,_=>rfl
  | 5,_=>rfl
  | 6,_=>rfl
  | 7,_=>rfl
  | 8,_=>rfl
  | 9,_=>rfl
  | 10,_=>rfl
  | i+11,hi=>exact absurd hi (by omega)
 case hinj =>
  intro i j hi hj h
  exact slots_inj [10,11,12,13,14,15,16,17,18,19,20] (by decide) hi hj h
 case stable =>
  intro i v w8 w9 hb h
  match i,h with
  | 0,h=>exact h
  | 1,h=>exact h
  | 2,h=>exact h
  | 3,h=>exact h
  | 4,h=>exact h
  | 5,h=>exact h
  | 6,h=>exact h
  | 7,h=>exact h
  | 8,h=>exact h
  | 9,h=>exact h
  | 10,h=>exact h
  | _+11,h=>trivial
 case step =>
  intro i hi u w8 S8 hdep
  match i,hi with
  | 0,_ =>
   clear hdep
   refine ⟨_,rfl,fun K' hK=>?_⟩
   go_simp
   exact hK.out _ _ Bz rfl
  | 1,_ =>
   clear hdep
   refine ⟨_,rfl,fun K' hK=>?_⟩
   go_simp
   exact hK.out _ _ Bz rfl
  | 2,_ =>
   have h1:(u 11)=.pointer (some ⟨w.heap.size,2,none⟩):=hdep 1 (by kernel_rfl)
   clear hdep
   refine ⟨_,rfl,fun K' hK=>?_⟩
   obtain ⟨q0,q1,q2,-⟩:=HW.out w8 S8
   simp only [h1] at hK ⊢
   go_simp
   exact hK.out _ _ Bz rfl
  | 3,_ =>
   clear hdep
   refine ⟨_,rfl,fun K' hK=>?_⟩
   go_simp
   exact hK.out _ _ Bz rfl
  | 4,_ =>
   have h3:(u 13)=.pointer (some ⟨H,off,none⟩):=hdep 3 (by kernel_rfl)
   clear hdep
   refine ⟨_,rfl,fun K' hK=>?_⟩
   simp only [h3] at hK ⊢
   go_simp
   exact hK.out _ _ Bz rfl
  | 5,_ =>
   have h4:(u 14)=.pointer (some ⟨H,off,none⟩):=hdep 4 (by kernel_rfl)
   clear hdep
   refine ⟨_,rfl,fun K' hK=>?_⟩
   simp only [h4] at hK ⊢
   go_simp
   exact hK.out _ _ Bz rfl
  | 6,_ =>
   have h5:(u 15)=.pointer (some ⟨H,off+1,none⟩):=hdep 5 (by kernel_rfl)
   clear hdep
   refine ⟨_,rfl,fun K' hK=>?_⟩
   obtain ⟨q0,q1,q2,-⟩:=HW.out w8 S8
   simp only [h5] at hK ⊢
   go_simp
   exact hK.out _ _ Bz rfl
  | 7,_ =>
   have h2:(u 12)=.int .i64 len:=hdep 2 (by kernel_rfl)
   have h6:(u 16)=.int .i64 cost:=hdep 6 (by kernel_rfl)
   clear hdep
   refine ⟨_,rfl,fun K' hK=>?_⟩
   simp only [h2,h6] at hK ⊢
   go_simp
   exact hK.out _ _ Bz rfl
  | 8,_ =>
   clear hdep
   refine ⟨_,rfl,fun K' hK=>?_⟩
   go_simp
   exact hK.out _ _ Bz rfl
  | 9,_ =>
   have h8:(u 18)=.pointer (some ⟨w.heap.size,3,none⟩):=hdep 8 (by kernel_rfl)
   clear hdep
   refine ⟨_,rfl,fun K' hK=>?_⟩
   obtain ⟨q0,q1,q2,-⟩:=HW.out w8 S8
   simp only [h8] at hK ⊢
   go_simp
   exact hK.out _ _ Bz rfl
  | 10,_ =>
   have h0:(u 10)=.int .i64 fr:=hdep 0 (by kernel_rfl)
   have h7:(u 17)=.int .i64 (len+cost):=hdep 7 (by kernel_rfl)
   have h9:(u 19)=.bool mark:=hdep 9 (by kernel_rfl)
   clear hdep
   refine ⟨_,rfl,fun K' hK=>?_⟩
   simp only [h0,h7,h9] at hK ⊢
   go_simp
   exact hK.out _ _ Bz rfl
  | i+11,hi=>exact absurd hi (by omega)
 intro u w8 S8 hall
 have h10:(u 20)=.agg #[.int .i64 fr,.int .i64 100,.int .i64 (len+cost),.bool mark]:=hall 10 (by decide)
 clear hall
 refine ⟨_,rfl,fun K' hK=>?_⟩
 simp only [h10] at hK ⊢
 have hrow:=(HW.out w8 S8).2.2.2
 obtain ⟨y0,y1,y2,y3⟩:=row_cells hrow
 have z0:=hrow.frozen 0
 have z1:=hrow.frozen 1
 have z2:=hrow.frozen 2
 have z3:=hrow.frozen 3
 go_simp
 refine hK.out _ _ ?_
 have HO:Hid (((((w8.setCell ⟨w.heap.size,0,none⟩ (.int .i64 fr)).setCell ⟨w.heap.size,1,none⟩ (.int .i64 100)).setCell ⟨w.heap.size,2,none⟩ (.int .i64 (len+cost))).setCell ⟨w.heap.size,3,none⟩ (.bool mark)).rowIs w.heap.size 106 4 (rc r0)):=hid (by rw [hr0];exact row_set (r:=⟨fr,100,len+cost,mark⟩) hrow)
 have B9:Hid (Below w.heap.size w ((((w8.setCell ⟨w.heap.size,0,none⟩ (.int .i64 fr)).setCell ⟨w.heap.size,1,none⟩ (.int .i64 100)).setCell ⟨w.heap.size,2,none⟩ (.int .i64 (len+cost))).setCell ⟨w.heap.size,3,none⟩ (.bool mark))):=hid (((((V8.out.trans (S8.mono V8.out.size)).setCell (Nat.le_refl _) _).setCell (Nat.le_refl _) _).setCell (Nat.le_refl _) _).setCell (Nat.le_refl _) _)
 have ZR:Hid (((((w8.setCell ⟨w.heap.size,0,none⟩ (.int .i64 fr)).setCell ⟨w.heap.size,1,none⟩ (.int .i64 100)).setCell ⟨w.heap.size,2,none⟩ (.int .i64 (len+cost))).setCell ⟨w.heap.size,3,none⟩ (.bool mark)).rowIs (w.heap.size+1) 106 4 (rc zRt)):=hid (by
  refine World.rowIs.of_block (Z8.out.of_block (S8.block _ Z8.out.lt)) ?_
  rw [Below.heap_setCell _ _ _ _ (by dsimp only;omega),Below.heap_setCell _ _ _ _ (by dsimp only;omega),Below.heap_setCell _ _ _ _ (by dsimp only;omega),Below.heap_setCell _ _ _ _ (by dsimp only;omega)])
 clear hK K' h10 y0 y1 y2 y3 z0 z1 z2 z3 hrow S8
 (try simp only [Exit.then])
 generalize (((w8.setCell ⟨w.heap.size,0,none⟩ (.int .i64 fr)).setCell ⟨w.heap.size,1,none⟩ (.int .i64 100)).setCell ⟨w.heap.size,2,none⟩ (.int .i64 (len+cost))).setCell ⟨w.heap.size,3,none⟩ (.bool mark)=w9 at *
 have k2:=keep B9.out HH2.out
 go_wp2
 go_loopw [26] (fun i wr=>∃ (k:Nat) (q:Rt),k≤ny∧i=.int .i64 k∧impK y router fr r0 k=some q∧Below w.heap.size w wr∧wr.rowIs w.heap.size 106 4 (rc q)∧wr.rowIs (w.heap.size+1) 106 4 (rc zRt)) (fun i _=>ny - (intOf i).toNat)
 case atStart=>exact ⟨0,r0,Nat.zero_le _,rfl,rfl,B9.out,HO.out,ZR.out⟩
 obtain ⟨k,q,hk,rfl,hq,hb,hro,hre⟩:=hrel
 have HQ:=hid hq
 have HB:=hid hb
 have HRo:=hid hro
 have HRes:=hid hre
 obtain ⟨t0,t1,t2,t3⟩:=row_cells hro
 obtain ⟨y0,y1,y2,y3⟩:=row_cells hre
 simp only [zRt] at y0 y1 y2 y3
 have z0:=hre.frozen 0
 have z1:=hre.frozen 1
 have z2:=hre.frozen 2
 have z3:=hre.frozen 3
 have v1:=hro.frozen 1
 have v3:=hro.frozen 3
 have hR2:=hre.lt
 have hNs:=hro.lt
 obtain ⟨qv,qp,ql,qm⟩:=q
 simp only at t0 t1 t2 t3
 clear hq hb hro hre HO B9 ZR k2
 by_cases hlt:k<ny
 · obtain ⟨b4,off4,rfl,d0,d1,d2,d3,d4⟩:=HY.out.at5 hlt
   replace d0:=keep HB.out d0
   have hb4:=World.block_lt_of_cell? _ _ d0
   simp only at hb4
   replace d1:=keep HB.out d1
   replace d2:=keep HB.out d2
   replace d3:=keep HB.out d3
   replace d4:=keep HB.out d4
   obtain ⟨p0,p1,p2,p3⟩:=HP.out k hlt
   have HStep:Hid (impK y router fr r0 (k+1)=stepI y router fr k ⟨qv,qp,ql,qm⟩):=hid (by simp only [impK];rw [HQ.out];rfl)
   simp only [stepI,skipB,p0,p1] at HStep
   clear p0 p1
   generalize y k 0=x0 at *
   generalize y k 1=x1 at *
   generalize y k 2=x2 at *
   generalize y k 3=x3 at *
   generalize y k 4=x4 at *
   obtain ⟨s3,e3⟩:∃ b,(x2 == 1)=b:=⟨_,rfl⟩
   obtain ⟨s4,e4⟩:∃ b,(x2 == 2)=b:=⟨_,rfl⟩
   have f3:decide (x2=1)=s3:=by rw [← e3,Bool.eq_iff_iff];simp
   have f4:decide (x2=2)=s4:=by rw [← e4,Bool.eq_iff_iff];simp
   rw [f3,f4] at HStep
   simp only [ne_eq,not_true_eq_false,decide_false,Bool.false_or] at HStep
   clear f3 f4
   cases s3 with
   | true =>
    cases qm with
    | false =>
     go_wp2
     go_roundw
     case rel=>exact ⟨k+1,_,by omega,by go_num,HStep.out,by have hbb:=HB.out;exact Bl,row_alloc HRo.out,row_alloc HRes.out⟩
     case measure=>simp [intOf];omega
    | true =>
     cases s4 with
     | true =>
      go_wp2
      go_roundw
      case rel=>exact ⟨k+1,_,by omega,by go_num,HStep.out,by have hbb:=HB.out;exact Bl,row_alloc HRo.out,row_alloc HRes.out⟩
      case measure=>simp [intOf];omega
     | false =>
      by_cases g1:x3=1
      · have g2:(x3 == 1)=true:=by simp [g1]
        have HS2:Hid (impK y router fr r0 (k+1)=none):=hid (by rw [HStep.out,if_neg (by simp),if_pos g1])
        have HA2:ri=none:=by rw [← HRI.out];exact impK_none HS2.out hlt
        subst HA2
        clear g1
        go_wp2
        refine bodyPost_ret (v:=.tuple #[.agg #[.int .i64 0,.int .i64 0,.int .i64 0,.bool false],.bool false]) (by rw [results_cell_tmp rfl];go_simp) rfl ?_
        exact ⟨rfl,by have hbb:=HB.out;exact Bl⟩
      have g2:(x3 == 1)=false:=by simp [g1]
      by_cases g3:x3=2
      · have g4:(x3 == 2)=true:=by simp [g3]
        have HS2:=hid HStep.out
        rw [if_neg (by simp),if_neg g1,if_pos g3] at HS2
        clear g1 g3
        go_wp2
        go_roundw
        case rel=>exact ⟨k+1,⟨qv,x4,ql,_⟩,by omega,by go_num,HS2.out,by have hbb:=HB.out;exact Bl,row_alloc (row_pref x4 HRo.out),row_alloc (World.rowIs.of_block HRes.out (by rw [Below.heap_setCell _ _ _ _ (by dsimp only;omega)]))⟩
        case measure=>simp [intOf];omega
      have g4:(x3 == 2)=false:=by simp [g3]
      by_cases g5:x3=3
      · have g6:(x3 == 3)=true:=by simp [g5]
        have HS2:=hid HStep.out
        rw [if_neg (by simp),if_neg g1,if_neg g3,decide_eq_true g5] at HS2
        clear g1 g3 g5
        go_wp2
        go_roundw
        case rel=>exact ⟨k+1,⟨qv,qp,ql,true⟩,by omega,by go_num,HS2.out,by have hbb:=HB.out;exact Bl,row_alloc (row_mark true HRo.out),row_alloc (World.rowIs.of_block HRes.out (by rw [Below.heap_setCell _ _ _ _ (by dsimp only;omega)]))⟩
        case measure=>simp [intOf];omega
      have g6:(x3 == 3)=false:=by simp [g5]
      have g7:(x3 == 4)=true:=by simp;omega
      have HS2:=hid HStep.out
      rw [if_neg (by simp),if_neg g1,if_neg g3,decide_eq_false g5] at HS2
      clear g1 g3 g5
      go_wp2
      go_roundw
      case rel=>exact ⟨k+1,⟨qv,qp,ql,false⟩,by omega,by go_num,HS2.out,by have hbb:=HB.out;exact Bl,row_alloc (row_mark false HRo.out),row_alloc (World.rowIs.of_block HRes.out (by rw [Below.heap_setCell _ _ _ _ (by dsimp only;omega)]))⟩
      case measure=>simp [intOf];omega
   | false =>
    cases s4 with
    | true =>
     cases qm with
     | true =>
      go_wp2
      go_roundw
      case rel=>exact ⟨k+1,_,by omega,by go_num,HStep.out,by have hbb:=HB.out;exact Bl,row_alloc HRo.out,row_alloc HRes.out⟩
      case measure=>simp [intOf];omega
     | false =>
      by_cases g1:x3=1
      · have g2:(x3 == 1)=true:=by simp [g1]
        have HS2:Hid (impK y router fr r0 (k+1)=none):=hid (by rw [HStep.out,if_neg (by simp),if_pos g1])
        have HA2:ri=none:=by rw [← HRI.out];exact impK_none HS2.out hlt
        subst HA2
        clear g1
        go_wp2
        refine bodyPost_ret (v:=.tuple #[.agg #[.int .i64 0,.int .i64 0,.int .i64 0,.bool false],.bool false]) (by rw [results_cell_tmp rfl];go_simp) rfl ?_
        exact ⟨rfl,by have hbb:=HB.out;exact Bl⟩
      have g2:(x3 == 1)=false:=by simp [g1]
      by_cases g3:x3=2
      · have g4:(x3 == 2)=true:=by simp [g3]
        have HS2:=hid HStep.out
        rw [if_neg (by simp),if_neg g1,if_pos g3] at HS2
        clear g1 g3
        go_wp2
        go_roundw
        case rel=>exact ⟨k+1,⟨qv,x4,ql,_⟩,by omega,by go_num,HS2.out,by have hbb:=HB.out;exact Bl,row_alloc (row_pref x4 HRo.out),row_alloc (World.rowIs.of_block HRes.out (by rw [Below.heap_setCell _ _ _ _ (by dsimp only;omega)]))⟩
        case measure=>simp [intOf];omega
      have g4:(x3 == 2)=false:=by simp [g3]
      by_cases g5:x3=3
      · have g6:(x3 == 3)=true:=by simp [g5]
        have HS2:=hid HStep.out
        rw [if_neg (by simp),if_neg g1,if_neg g3,decide_eq_true g5] at HS2
        clear g1 g3 g5
        go_wp2
        go_roundw
        case rel=>exact ⟨k+1,⟨qv,qp,ql,true⟩,by omega,by go_num,HS2.out,by have hbb:=HB.out;exact Bl,row_alloc (row_mark true HRo.out),row_alloc (World.rowIs.of_block HRes.out (by rw [Below.heap_setCell _ _ _ _ (by dsimp only;omega)]))⟩
        case measure=>simp [intOf];omega
      have g6:(x3 == 3)=false:=by simp [g5]
      have g7:(x3 == 4)=true:=by simp;omega
      have HS2:=hid HStep.out
      rw [if_neg (by simp),if_neg g1,if_neg g3,decide_eq_false g5] at HS2
      clear g1 g3 g5
      go_wp2
      go_roundw
      case rel=>exact ⟨k+1,⟨qv,qp,ql,false⟩,by omega,by go_num,HS2.out,by have hbb:=HB.out;exact Bl,row_alloc (row_mark false HRo.out),row_alloc (World.rowIs.of_block HRes.out (by rw [Below.heap_setCell _ _ _ _ (by dsimp only;omega)]))⟩
      case measure=>simp [intOf];omega
    | false =>
     by_cases g1:x3=1
     · have g2:(x3 == 1)=true:=by simp [g1]
       have HS2:Hid (impK y router fr r0 (k+1)=none):=hid (by rw [HStep.out,if_neg (by simp),if_pos g1])
       have HA2:ri=none:=by rw [← HRI.out];exact impK_none HS2.out hlt
       subst HA2
       clear g1
       go_wp2
       refine bodyPost_ret (v:=.tuple #[.agg #[.int .i64 0,.int .i64 0,.int .i64 0,.bool false],.bool false]) (by rw [results_cell_tmp rfl];go_simp) rfl ?_
       exact ⟨rfl,by have hbb:=HB.out;exact Bl⟩
     have g2:(x3 == 1)=false:=by simp [g1]
     by_cases g3:x3=2
     · have g4:(x3 == 2)=true:=by simp [g3]
       have HS2:=hid HStep.out
       rw [if_neg (by simp),if_neg g1,if_pos g3] at HS2
       clear g1 g3
       go_wp2
       go_roundw
       case rel=>exact ⟨k+1,⟨qv,x4,ql,_⟩,by omega,by go_num,HS2.out,by have hbb:=HB.out;exact Bl,row_alloc (row_pref x4 HRo.out),row_alloc (World.rowIs.of_block HRes.out (by rw [Below.heap_setCell _ _ _ _ (by dsimp only;omega)]))⟩
       case measure=>simp [intOf];omega
     have g4:(x3 == 2)=false:=by simp [g3]
     by_cases g5:x3=3
     · have g6:(x3 == 3)=true:=by simp [g5]
       have HS2:=hid HStep.out
       rw [if_neg (by simp),if_neg g1,if_neg g3,decide_eq_true g5] at HS2
       clear g1 g3 g5
       go_wp2
       go_roundw
       case rel=>exact ⟨k+1,⟨qv,qp,ql,true⟩,by omega,by go_num,HS2.out,by have hbb:=HB.out;exact Bl,row_alloc (row_mark true HRo.out),row_alloc (World.rowIs.of_block HRes.out (by rw [Below.heap_setCell _ _ _ _ (by dsimp only;omega)]))⟩
       case measure=>simp [intOf];omega
     have g6:(x3 == 3)=false:=by simp [g5]
     have g7:(x3 == 4)=true:=by simp;omega
     have HS2:=hid HStep.out
     rw [if_neg (by simp),if_neg g1,if_neg g3,decide_eq_false g5] at HS2
     clear g1 g3 g5
     go_wp2
     go_roundw
     case rel=>exact ⟨k+1,⟨qv,qp,ql,false⟩,by omega,by go_num,HS2.out,by have hbb:=HB.out;exact Bl,row_alloc (row_mark false HRo.out),row_alloc (World.rowIs.of_block HRes.out (by rw [Below.heap_setCell _ _ _ _ (by dsimp only;omega)]))⟩
     case measure=>simp [intOf];omega
 have ek:k=ny:=by omega
 subst ek
 have HA2:ri=some ⟨qv,qp,ql,qm⟩:=by rw [← HRI.out,HQ.out]
 subst HA2
 go_wp2
 refine bodyPost_ret (v:=.tuple #[.agg #[.int .i64 qv,.int .i64 qp,.int .i64 ql,.bool qm],.bool true]) (by rw [results_cell_tmp rfl];go_simp) rfl ?_
 exact ⟨rfl,(((HB.out.setCell (by dsimp only;omega) _).setCell (by dsimp only;omega) _).setCell (by dsimp only;omega) _).setCell (by dsimp only;omega) _⟩
end Go.Proofs.YtcfnohiboknfoaaGreat.candTake
namespace Go.Proofs.YtcfnohiboknfoaaGreat.candClear
open Go.RowKit Go.Deep Go base netSem nbSem routeRow candSem
set_option maxHeartbeats 1600000 in
theorem clear_impl (a:Option Addr) (n cap:Nat) (rs:Rs) (fr other:Int) (w:World) (hr:RtRow w a n rs) (hv:∀ i,i<n→(rs i).via<n) (hf:0≤fr) (hf2:fr<n) :
  Calls Tryz.prog 110 #[.slice a n cap,.int .i64 fr,.int .i64 other] w fun e w'=>e=.returned (.bool (!(thru rs other n fr)))∧Below w.heap.size w w' := by
 have HR:=hid hr
 have HV:=hid hv
 have mr:=hr.most
 unfold maxLen at mr
 clear hr hv
 obtain ⟨m0,rfl⟩:∃ m:Nat,fr=(m:Int):=⟨fr.toNat,by omega⟩
 obtain ⟨T,hT⟩:∃ T,thru rs other n (m0:Int)=T:=⟨_,rfl⟩
 have HT:=hid hT
 rw [hT]
 clear hT
 go_enter Tryz.func110,Tryz.ntmps110
 go_wp2
 go_loopw [9,1] (fun i v wr=>∃ k m:Nat,k≤n∧m<n∧i=.int .i64 k∧v=.int .i64 m∧Below w.heap.size w wr∧thru rs other (n - k) (m:Int)=T) (fun i _ _=>n - (intOf i).toNat)
 case atStart=>exact ⟨0,m0,Nat.zero_le _,by omega,rfl,rfl,Bl,HT.out⟩
 obtain ⟨k,m,hk,hm,rfl,rfl,hb,ht⟩:=hrel
 have HB:=hid hb
 have HU:=hid ht
 clear hb ht HT
 by_cases hlt:k<n
 · have HU2 : Hid ((if (m : Int) = other then true else if (m : Int) < 0 then false else if (rs m).via < 0 then false else thru rs other (n - k - 1) (rs m).via) = T) := hid (by
    have h:=HU.out
    rw [show n - k=n - k - 1+1 from by omega] at h
    exact h)
   have HVm:=hid (HV.out m hm)
   obtain ⟨b0,off,rfl,c0,c1,c2,c3⟩:=HR.out.at4 hm
   replace c0:=keep HB.out c0
   clear c1 c2 c3
   generalize (rs m).via=y at *
   clear HU
   by_cases h1:(m:Int)=other
   · have e1:((m:Int) == other)=true:=by simp [h1]
     have HT2:=HU2.out
     rw [if_pos h1] at HT2
     subst HT2
     clear h1 HU2
     go_wp2
     go_ret
     exact ⟨rfl,HB.out⟩
   have e1:((m:Int) == other)=false:=by simp [h1]
   have HU3:=HU2.out
   rw [if_neg h1,if_neg (by omega)] at HU3
   clear h1 HU2
   by_cases h2:y<0
   · have e3:decide (y<0)=true:=decide_eq_true h2
     rw [if_pos h2] at HU3
     subst HU3
     clear h2
     go_wp2
     go_ret
     exact ⟨rfl,HB.out⟩
   have e3:decide (y<0)=false:=decide_eq_false h2
   rw [if_neg h2] at HU3
   have HU4:=hid HU3
   clear HU3
   obtain ⟨m1,rfl⟩:∃ q:Nat,y=(q:Int):=⟨y.toNat,by omega⟩
   clear h2
   go_wp2
   go_roundw
   case rel=>exact ⟨k+1,m1,by omega,by have:=HVm.out;omega,by go_num,rfl,HB.out,by rw [show n - (k+1)=n - k - 1 from by omega];exact HU4.out⟩
   case measure=>simp [intOf];omega
 have e:k=n:=by omega
 subst e
 have HT2:=HU.out
 rw [Nat.sub_self] at HT2
 have HT3:true=T:=HT2
 subst HT3
 clear HT2 HU hlt
 go_wp2
 go_ret
 exact ⟨rfl,HB.out⟩
end Go.Proofs.YtcfnohiboknfoaaGreat.candClear
namespace Go.Proofs.YtcfnohiboknfoaaGreat.walkSem
open Go.RowKit Go.Deep base names netSem routeRow
def filtB (f : R) (a b port : Int) (i : Nat) : Bool := f i 0 == a && f i 1 == b && inB port (f i 2) (f i 3)
def filt (f : R) (m : Nat) (a b port : Int) : Bool := decide (0≤firstAt (filtB f a b port) m)
theorem filt_hit {f:R} {m k:Nat} {a b port:Int} (hk:k<m) (h:filtB f a b port k=true):filt f m a b port=true:=decide_eq_true (firstAt_spec.2 ⟨k,hk,h⟩)
theorem filt_none {f:R} {m:Nat} {a b port:Int} (h:∀ i,i<m→filtB f a b port i=false):filt f m a b port=false:=by
 unfold filt
 rw [firstAt_none h];decide
def outAt (f : R) (m : Nat) (a via port : Int) : Int := if via = -2 then 1 else if via = -1 then 2 else if via = -3 then 3 else if filt f m a via port=true then 4 else 0
def wayR (rs : Rs) (f : R) (m : Nat) (port : Int) : Nat→Int→List Int
 | 0,_=>[]
 | n+1,a=>if outAt f m a (rs a.toNat).via port=0 then (rs a.toNat).via::wayR rs f m port n (rs a.toNat).via else []
def wayO (rs : Rs) (f : R) (m : Nat) (port : Int) : Nat→Int→Int
 | 0,_=>3
 | n+1,a=>if outAt f m a (rs a.toNat).via port=0 then wayO rs f m port n (rs a.toNat).via else outAt f m a (rs a.toNat).via port
theorem way_stop {rs:Rs} {f:R} {m n:Nat} {port a:Int} (h:outAt f m a (rs a.toNat).via port≠0):wayR rs f m port (n+1) a=[]∧wayO rs f m port (n+1) a=outAt f m a (rs a.toNat).via port:=by
 simp only [wayR,wayO]
 rw [if_neg h,if_neg h]
 exact ⟨rfl,rfl⟩
theorem way_go {rs:Rs} {f:R} {m n:Nat} {port a:Int} (h:outAt f m a (rs a.toNat).via port=0):wayR rs f m port (n+1) a=(rs a.toNat).via::wayR rs f m port n (rs a.toNat).via∧wayO rs f m port (n+1) a=wayO rs f m port n (rs a.toNat).via:=by
 simp only [wayR,wayO]
 rw [if_pos h,if_pos h]
 exact ⟨rfl,rfl⟩
def Viable (rs : Rs) (n : Nat) : Prop := ∀ i,i<n→-3≤(rs i).via∧(rs i).via<n
theorem out_next {f:R} {m:Nat} {a via port:Int} (h:outAt f m a via port=0) (hv : -3≤via):0≤via:=by
 unfold outAt at h
 split at h
 · cases h
 split at h
 · cases h
 split at h
 · cases h
 omega
end Go.Proofs.YtcfnohiboknfoaaGreat.walkSem
namespace Go.Proofs.YtcfnohiboknfoaaGreat.routesB
open Go.RowKit Go.Deep base names netSem routeRow walkSem
end Go.Proofs.YtcfnohiboknfoaaGreat.routesB
