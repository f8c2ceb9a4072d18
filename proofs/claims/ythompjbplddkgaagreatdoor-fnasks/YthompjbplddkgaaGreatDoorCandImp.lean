import Derived.Test.YthompjbplddkgaaGreatDoorPart20
import Derived.BigRegion
import Derived.Laws.ResultCell
set_option linter.unusedVariables false
namespace Go.Proofs.YthompjbplddkgaaGreatDoor.candImp
open Go.RowKit Go.Deep Go base names drawn netSem netSpec nbSem routeRow candSem candWay
def zRt : Rt := ⟨0,0,0,false⟩
def NewRt (B : Nat) (w : World) (v : Value) : Prop := ∃ N,v=.pointer (some ⟨N,0,none⟩)∧B≤N∧w.rowIs N 122 4 (rc zRt)
theorem NewRt.below {B:Nat} {w w':World} {v:Value} (h:NewRt B w v) (hb:Below w.heap.size w w'):NewRt B w' v:=by
 obtain ⟨N,e,hN,hr⟩:=h
 exact ⟨N,e,hN,hr.of_block (hb.block _ hr.lt)⟩
theorem row_new (w:World) (r:Rt):(w.alloc (.cells #[.int .i64 r.via,.int .i64 r.pref,.int .i64 r.len,.bool r.mark] 122)).rowIs w.heap.size 122 4 (rc r) :=
 World.rowIs_alloc w #[.int .i64 r.via,.int .i64 r.pref,.int .i64 r.len,.bool r.mark] 122 (rc r) (fun i hi=>by
  match i,hi with
  | 0,_=>rfl
  | 1,_=>rfl
  | 2,_=>rfl
  | 3,_=>rfl
  | i+4,hi=>exact absurd hi (by simp))
theorem row_set {w:World} {N:Nat} {q r:Rt} (h:w.rowIs N 122 4 (rc q)):((((w.setCell ⟨N,0,none⟩ (.int .i64 r.via)).setCell ⟨N,1,none⟩ (.int .i64 r.pref)).setCell ⟨N,2,none⟩ (.int .i64 r.len)).setCell ⟨N,3,none⟩ (.bool r.mark)).rowIs N 122 4 (rc r):=by
 refine World.rowIs.congr ((((h.set 0 _).set 1 _).set 2 _).set 3 _) fun i hi=>?_
 match i,hi with
 | 0,_=>rfl
 | 1,_=>rfl
 | 2,_=>rfl
 | 3,_=>rfl
 | i+4,hi=>exact absurd hi (by omega)
theorem row_cells {w:World} {N:Nat} {r:Rt} (h:w.rowIs N 122 4 (rc r)):w.cell? ⟨N,0,none⟩=some (.int .i64 r.via)∧w.cell? ⟨N,1,none⟩=some (.int .i64 r.pref)∧w.cell? ⟨N,2,none⟩=some (.int .i64 r.len)∧w.cell? ⟨N,3,none⟩=some (.bool r.mark) :=
 ⟨h.cell (i:=0) (by omega),h.cell (i:=1) (by omega),h.cell (i:=2) (by omega),h.cell (i:=3) (by omega)⟩
theorem row_pref {w:World} {N:Nat} {v q l:Int} {m:Bool} (x:Int) (h:w.rowIs N 122 4 (rc ⟨v,q,l,m⟩)):(w.setCell ⟨N,1,none⟩ (.int .i64 x)).rowIs N 122 4 (rc ⟨v,x,l,m⟩):=by
 refine World.rowIs.congr (h.set 1 _) fun i hi=>?_
 match i,hi with
 | 0,_=>rfl
 | 1,_=>rfl
 | 2,_=>rfl
 | 3,_=>rfl
 | i+4,hi=>exact absurd hi (by omega)
theorem row_mark {w:World} {N:Nat} {v q l:Int} {m:Bool} (x:Bool) (h:w.rowIs N 122 4 (rc ⟨v,q,l,m⟩)):(w.setCell ⟨N,3,none⟩ (.bool x)).rowIs N 122 4 (rc ⟨v,q,l,x⟩):=by
 refine World.rowIs.congr (h.set 3 _) fun i hi=>?_
 match i,hi with
 | 0,_=>rfl
 | 1,_=>rfl
 | 2,_=>rfl
 | 3,_=>rfl
 | i+4,hi=>exact absurd hi (by omega)
theorem row_alloc {w:World} {N:Nat} {r:Rt} {ob:Obj} (h:w.rowIs N 122 4 (rc r)):(w.alloc ob).rowIs N 122 4 (rc r) :=
 h.of_block (((Below.refl w.heap.size w).alloc (Nat.le_refl _) ob).block _ h.lt)
theorem none_spec (w:World):Calls Tryz.prog 97 #[] w fun e w'=>e=.returned (rtV noRt)∧Below w.heap.size w w' := by
 unfold rtV noRt
 go_enter Tryz.func97,Tryz.ntmps97
 go_wp2
 refine bodyPost_ret (v:=.agg #[.int .i64 (-3),.int .i64 0,.int .i64 0,.bool false]) (by simp [results,Tryz.results97,go_sem]) rfl ⟨rfl,Bl⟩
set_option maxHeartbeats 3200000 in
set_option maxRecDepth 8000 in
theorem import_spec (p:Nat→Option Addr) (l c:Nat→Nat) (s:Ss) (g:R) (o e:List Int) (x f:R) (router fr:Int) (r:Rt) (w:World) (h:NetIs w p l s g o e x f) (hl:0≤linkAt g (l 1) router fr) (hg:∀ i,i<l 1→0≤g i 2∧g i 2≤100) (h0:0≤r.len) (h1:r.len≤20000) :
  Calls Tryz.prog 117 #[netV p l c,.int .i64 router,.int .i64 fr,rtV r] w fun e' w'=>e' = .returned (rtV ((impR g (l 1) x (l 4) router fr r).getD noRt))∧Below w.heap.size w w' := by
 have HLk:=hid h.links
 have HIm:=hid h.imports
 have HG:=hid hg
 have m1:=h.links.most
 have m4:=h.imports.most
 unfold maxLen at m1 m4
 have HLB:=hid (firstAt_bounds (hit g router fr) (l 1))
 clear h hg
 unfold impR
 obtain ⟨L,hL⟩:∃ L,linkAt g (l 1) router fr=L:=⟨_,rfl⟩
 have hLL:firstAt (hit g router fr) (l 1)=L:=hL
 rw [hLL] at HLB
 have HL:=hid hL
 rw [hL] at hl ⊢
 clear hLL hL
 obtain ⟨m,rfl⟩:∃ m:Nat,L=(m:Int):=⟨L.toNat,by omega⟩
 have hml:m<l 1:=by have:=HLB.out;omega
 have HC:=HG.out m hml
 rw [Int.toNat_natCast]
 obtain ⟨via,pref,len,mark⟩:=r
 simp only [startI]
 simp only at h0 h1
 unfold netV
 simp only [rtV]
 obtain ⟨P1,hP1⟩:∃ q,p 1=q:=⟨_,rfl⟩
 obtain ⟨P4,hP4⟩:∃ q,p 4=q:=⟨_,rfl⟩
 obtain ⟨l1,hl1⟩:∃ q,l 1=q:=⟨_,rfl⟩
 obtain ⟨l4,hl4⟩:∃ q,l 4=q:=⟨_,rfl⟩
 rw [hP1,hl1] at HLk
 rw [hP4,hl4] at HIm
 rw [hl1] at HL HLB HG hml m1
 rw [hl4] at m4
 rw [hP1,hP4,hl1,hl4]
 clear hP1 hP4 hl1 hl4
 obtain ⟨b1,off1,rfl,k0,k1,k2⟩:=HLk.out.at3 hml
 have hb1:=World.block_lt_of_cell? _ _ k2
 simp only at hb1
 obtain ⟨cost,hcost⟩:∃ q,g m 2=q:=⟨_,rfl⟩
 rw [hcost] at k2 HC ⊢
 clear k0 k1 hcost HG
 obtain ⟨r0,hr0⟩:∃ q:Rt,q=⟨fr,100,len+cost,mark⟩:=⟨_,rfl⟩
 rw [← hr0]
 obtain ⟨A,hA⟩:∃ q,(impK x router fr r0 l4).getD noRt=q:=⟨_,rfl⟩
 have HA:=hid hA
 rw [hA]
 clear hA
 have hadd:IntKind.i64.wrap (len+cost)=len+cost:=by rw [IntKind.wrap_i64];omega
 go_enter Tryz.func117,Tryz.ntmps117
 go_wp2_with fail
 have HW:Hid (∀ w8:World,Below (((w.alloc (.cells #[.slice (p 0) (l 0) (c 0),.slice (some ⟨b1,off1,none⟩) l1 (c 1),.slice (p 2) (l 2) (c 2),.slice (p 3) (l 3) (c 3),.slice P4 l4 (c 4),.slice (p 5) (l 5) (c 5)] 29)).alloc (.cells #[.int .i64 via,.int .i64 pref,.int .i64 len,.bool mark] 122)).alloc (.cells #[.int .i64 0,.int .i64 0,.int .i64 0,.bool false] 122)).heap.size (((w.alloc (.cells #[.slice (p 0) (l 0) (c 0),.slice (some ⟨b1,off1,none⟩) l1 (c 1),.slice (p 2) (l 2) (c 2),.slice (p 3) (l 3) (c 3),.slice P4 l4 (c 4),.slice (p 5) (l 5) (c 5)] 29)).alloc (.cells #[.int .i64 via,.int .i64 pref,.int .i64 len,.bool mark] 122)).alloc (.cells #[.int .i64 0,.int .i64 0,.int .i64 0,.bool false] 122)) w8→w8.cell? ⟨w.heap.size,1,none⟩=some (.slice (some ⟨b1,off1,none⟩) l1 (c 1))∧w8.cell? ⟨w.heap.size,4,none⟩=some (.slice P4 l4 (c 4))∧w8.cell? ⟨w.heap.size+1,2,none⟩=some (.int .i64 len)∧w8.cell? ⟨w.heap.size+1,3,none⟩=some (.bool mark)∧w8.cell? ⟨b1,off1+m*3+2,none⟩=some (.int .i64 cost)∧Row 3 w8 (some ⟨b1,off1,none⟩) l1 g∧Row 5 w8 P4 l4 x∧w8.rowIs (w.heap.size+1+1) 122 4 (rc zRt)∧Below w.heap.size w w8):=hid (fun w8 hb=>by
  have hb0:Below w.heap.size w (((w.alloc (.cells #[.slice (p 0) (l 0) (c 0),.slice (some ⟨b1,off1,none⟩) l1 (c 1),.slice (p 2) (l 2) (c 2),.slice (p 3) (l 3) (c 3),.slice P4 l4 (c 4),.slice (p 5) (l 5) (c 5)] 29)).alloc (.cells #[.int .i64 via,.int .i64 pref,.int .i64 len,.bool mark] 122)).alloc (.cells #[.int .i64 0,.int .i64 0,.int .i64 0,.bool false] 122)):=Bl
  have hb8:=hb0.trans (hb.mono hb0.size)
  have hrow:=row_new ((w.alloc (.cells #[.slice (p 0) (l 0) (c 0),.slice (some ⟨b1,off1,none⟩) l1 (c 1),.slice (p 2) (l 2) (c 2),.slice (p 3) (l 3) (c 3),.slice P4 l4 (c 4),.slice (p 5) (l 5) (c 5)] 29)).alloc (.cells #[.int .i64 via,.int .i64 pref,.int .i64 len,.bool mark] 122)) zRt
  rw [World.size_alloc,World.size_alloc] at hrow
  exact ⟨keep hb (by simp [go_sem]),keep hb (by simp [go_sem]),keep hb (by simp [go_sem]),keep hb (by simp [go_sem]),keep hb8 k2,HLk.out.below hb8,HIm.out.below hb8,World.rowIs.of_block hrow (hb.block _ (by simp)),hb8⟩)
 have hz8:(((w.alloc (.cells #[.slice (p 0) (l 0) (c 0),.slice (some ⟨b1,off1,none⟩) l1 (c 1),.slice (p 2) (l 2) (c 2),.slice (p 3) (l 3) (c 3),.slice P4 l4 (c 4),.slice (p 5) (l 5) (c 5)] 29)).alloc (.cells #[.int .i64 via,.int .i64 pref,.int .i64 len,.bool mark] 122)).alloc (.cells #[.int .i64 0,.int .i64 0,.int .i64 0,.bool false] 122)).heap.size=w.heap.size+3:=by simp
 clear k2 HLk HIm
 generalize (((w.alloc (.cells #[.slice (p 0) (l 0) (c 0),.slice (some ⟨b1,off1,none⟩) l1 (c 1),.slice (p 2) (l 2) (c 2),.slice (p 3) (l 3) (c 3),.slice P4 l4 (c 4),.slice (p 5) (l 5) (c 5)] 29)).alloc (.cells #[.int .i64 via,.int .i64 pref,.int .i64 len,.bool mark] 122)).alloc (.cells #[.int .i64 0,.int .i64 0,.int .i64 0,.bool false] 122))=W8 at *
 refine region_below (fun u=>⟨#[.agg #[.slice (p 0) (l 0) (c 0),.slice (some ⟨b1,off1,none⟩) l1 (c 1),.slice (p 2) (l 2) (c 2),.slice (p 3) (l 3) (c 3),.slice P4 l4 (c 4),.slice (p 5) (l 5) (c 5)],.int .i64 router,.int .i64 fr,.agg #[.int .i64 via,.int .i64 pref,.int .i64 len,.bool mark],.pointer (some ⟨w.heap.size,0,none⟩),undef,undef,.pointer (some ⟨w.heap.size+1,0,none⟩),.pointer (some ⟨w.heap.size+1+1,0,none⟩),u 9,undef,undef,u 12,u 13,u 14,u 15,u 16,u 17,u 18,u 19,u 20,u 21,u 22,u 23,u 24,u 25,u 26,u 27,u 28,undef,undef,undef,undef,undef,undef,undef,undef,undef,undef,undef,undef,undef,undef,undef,undef,undef,undef,undef,undef,undef,undef,undef,undef,undef,undef,undef,undef,undef,undef,undef,undef,undef,undef,undef,undef,undef,undef,undef,undef,undef,undef,undef,undef,undef,undef,undef,undef,undef,undef,undef,undef,undef,undef,undef,undef],[]⟩) (fun i=>[12,13,14,15,16,17,18,19,20,21,22,23,24,25,26,27,28,9].getD i 0) (fun i v w8=>match i with|0=>v=.int .i64 fr|1=>v=.pointer (some ⟨w.heap.size+1,2,none⟩)|2=>v=.int .i64 len|3=>v=.pointer (some ⟨w.heap.size,1,none⟩)|4=>v=.slice (some ⟨b1,off1,none⟩) l1 (c 1)|5=>v=.pointer (some ⟨w.heap.size,1,none⟩)|6=>v=.slice (some ⟨b1,off1,none⟩) l1 (c 1)|7=>v=.int .i64 router|8=>v=.int .i64 fr|9=>v=.int .i64 (m:Int)|10=>v=.pointer (some ⟨b1,off1+m*3,none⟩)|11=>v=.pointer (some ⟨b1,off1+m*3+2,none⟩)|12=>v=.int .i64 cost|13=>v=.int .i64 (len+cost)|14=>v=.pointer (some ⟨w.heap.size+1,3,none⟩)|15=>v=.bool mark|16=>v=.agg #[.int .i64 fr,.int .i64 100,.int .i64 (len+cost),.bool mark]|17=>NewRt W8.heap.size w8 v|_=>True) W8 18 (fun k=>match k with|12=>undef|13=>undef|14=>undef|15=>undef|16=>undef|17=>undef|18=>undef|19=>undef|20=>undef|21=>undef|22=>undef|23=>undef|24=>undef|25=>undef|26=>undef|27=>undef|28=>undef|9=>undef|_=>undef) (by rfl) (by kernel_rfl) (by rfl) ⟨by kernel_rfl,by kernel_rfl,by kernel_rfl,by decide⟩ (by kernel_rfl) (Below.refl _ _) ?hput ?hinj ?stable ?step ?last
 case hput =>
  intro i hi u v
  match i,hi with
  | 0,_=>rfl
  | 1,_=>rfl
  | 2,_=>rfl
  | 3,_=>rfl
  | 4,_=>rfl
  | 5,_=>rfl
  | 6,_=>rfl
  | 7,_=>rfl
  | 8,_=>rfl
  | 9,_=>rfl
  | 10,_=>rfl
  | 11,_=>rfl
  | 12,_=>rfl
  | 13,_=>rfl
  | 14,_=>rfl
  | 15,_=>rfl
  | 16,_=>rfl
  | 17,_=>rfl
  | i+18,hi=>exact absurd hi (by omega)
 case hinj =>
  intro i j hi hj h
  exact slots_inj [12,13,14,15,16,17,18,19,20,21,22,23,24,25,26,27,28,9] (by decide) hi hj h
 case stable =>
  intro i v w8 w9 hb h
  match i,h with
  | 0,h=>exact h
  | 1,h=>exact h
  | 2,h=>exact h
  | 3,h=>exact h
  | 4,h=>exact h
  | 5,h=>exact h
  | 6,h=>exact h
  | 7,h=>exact h
  | 8,h=>exact h
  | 9,h=>exact h
  | 10,h=>exact h
  | 11,h=>exact h
  | 12,h=>exact h
  | 13,h=>exact h
  | 14,h=>exact h
  | 15,h=>exact h
  | 16,h=>exact h
  | 17,h=>exact h.below hb
  | _+18,h=>trivial
 case step =>
  intro i hi u w8 S8 hdep
  match i,hi with
  | 0,_ =>
   clear hdep
   refine ⟨_,rfl,fun K' hK=>?_⟩
   go_simp
   exact hK.out _ _ (Below.refl _ _) rfl
  | 1,_ =>
   clear hdep
   refine ⟨_,rfl,fun K' hK=>?_⟩
   go_simp
   exact hK.out _ _ (Below.refl _ _) rfl
  | 2,_ =>
   have h1:(u 13)=.pointer (some ⟨w.heap.size+1,2,none⟩):=hdep 1 (by kernel_rfl)
   clear hdep
   refine ⟨_,rfl,fun K' hK=>?_⟩
   obtain ⟨q0,q1,q2,q3,q4,-⟩:=HW.out w8 S8
   simp only [h1] at hK ⊢
   go_simp
   exact hK.out _ _ (Below.refl _ _) rfl
  | 3,_ =>
   clear hdep
   refine ⟨_,rfl,fun K' hK=>?_⟩
   go_simp
   exact hK.out _ _ (Below.refl _ _) rfl
  | 4,_ =>
   have h3:(u 15)=.pointer (some ⟨w.heap.size,1,none⟩):=hdep 3 (by kernel_rfl)
   clear hdep
   refine ⟨_,rfl,fun K' hK=>?_⟩
   obtain ⟨q0,q1,q2,q3,q4,-⟩:=HW.out w8 S8
   simp only [h3] at hK ⊢
   go_simp
   exact hK.out _ _ (Below.refl _ _) rfl
  | 5,_ =>
   clear hdep
   refine ⟨_,rfl,fun K' hK=>?_⟩
   go_simp
   exact hK.out _ _ (Below.refl _ _) rfl
  | 6,_ =>
   have h5:(u 17)=.pointer (some ⟨w.heap.size,1,none⟩):=hdep 5 (by kernel_rfl)
   clear hdep
   refine ⟨_,rfl,fun K' hK=>?_⟩
   obtain ⟨q0,q1,q2,q3,q4,-⟩:=HW.out w8 S8
   simp only [h5] at hK ⊢
   go_simp
   exact hK.out _ _ (Below.refl _ _) rfl
  | 7,_ =>
   clear hdep
   refine ⟨_,rfl,fun K' hK=>?_⟩
   go_simp
   exact hK.out _ _ (Below.refl _ _) rfl
  | 8,_ =>
   clear hdep
   refine ⟨_,rfl,fun K' hK=>?_⟩
   go_simp
   exact hK.out _ _ (Below.refl _ _) rfl
  | 9,_ =>
   have h6:(u 18)=.slice (some ⟨b1,off1,none⟩) l1 (c 1):=hdep 6 (by kernel_rfl)
   have h7:(u 19)=.int .i64 router:=hdep 7 (by kernel_rfl)
   have h8:(u 20)=.int .i64 fr:=hdep 8 (by kernel_rfl)
   clear hdep
   refine ⟨_,rfl,fun K' hK=>?_⟩
   simp only [h6,h7,h8] at hK ⊢
   go_simp
   refine (link_spec (some ⟨b1,off1,none⟩) l1 (c 1) g router fr _ (HW.out w8 S8).2.2.2.2.2.1).mono ?_
   rintro e w9 ⟨rfl,rfl⟩
   exact hK.out _ _ (Below.refl _ _) (by rw [HL.out])
  | 10,_ =>
   have h4:(u 16)=.slice (some ⟨b1,off1,none⟩) l1 (c 1):=hdep 4 (by kernel_rfl)
   have h9:(u 21)=.int .i64 (m:Int):=hdep 9 (by kernel_rfl)
   clear hdep
   refine ⟨_,rfl,fun K' hK=>?_⟩
   simp only [h4,h9] at hK ⊢
   go_simp
   exact hK.out _ _ (Below.refl _ _) rfl
  | 11,_ =>
   have h10:(u 22)=.pointer (some ⟨b1,off1+m*3,none⟩):=hdep 10 (by kernel_rfl)
   clear hdep
   refine ⟨_,rfl,fun K' hK=>?_⟩
   simp only [h10] at hK ⊢
   go_simp
   exact hK.out _ _ (Below.refl _ _) rfl
  | 12,_ =>
   have h11:(u 23)=.pointer (some ⟨b1,off1+m*3+2,none⟩):=hdep 11 (by kernel_rfl)
   clear hdep
   refine ⟨_,rfl,fun K' hK=>?_⟩
   obtain ⟨q0,q1,q2,q3,q4,-⟩:=HW.out w8 S8
   simp only [h11] at hK ⊢
   go_simp
   exact hK.out _ _ (Below.refl _ _) rfl
  | 13,_ =>
   have h2:(u 14)=.int .i64 len:=hdep 2 (by kernel_rfl)
   have h12:(u 24)=.int .i64 cost:=hdep 12 (by kernel_rfl)
   clear hdep
   refine ⟨_,rfl,fun K' hK=>?_⟩
   simp only [h2,h12] at hK ⊢
   go_simp
   exact hK.out _ _ (Below.refl _ _) rfl
  | 14,_ =>
   clear hdep
   refine ⟨_,rfl,fun K' hK=>?_⟩
   go_simp
   exact hK.out _ _ (Below.refl _ _) rfl
  | 15,_ =>
   have h14:(u 26)=.pointer (some ⟨w.heap.size+1,3,none⟩):=hdep 14 (by kernel_rfl)
   clear hdep
   refine ⟨_,rfl,fun K' hK=>?_⟩
   obtain ⟨q0,q1,q2,q3,q4,-⟩:=HW.out w8 S8
   simp only [h14] at hK ⊢
   go_simp
   exact hK.out _ _ (Below.refl _ _) rfl
  | 16,_ =>
   have h0:(u 12)=.int .i64 fr:=hdep 0 (by kernel_rfl)
   have h13:(u 25)=.int .i64 (len+cost):=hdep 13 (by kernel_rfl)
   have h15:(u 27)=.bool mark:=hdep 15 (by kernel_rfl)
   clear hdep
   refine ⟨_,rfl,fun K' hK=>?_⟩
   simp only [h0,h13,h15] at hK ⊢
   go_simp
   exact hK.out _ _ (Below.refl _ _) rfl
  | 17,_ =>
   clear hdep
   refine ⟨_,rfl,fun K' hK=>?_⟩
   go_simp
   exact hK.out _ _ Bl ⟨w8.heap.size,rfl,S8.size,row_new w8 zRt⟩
  | i+18,hi=>exact absurd hi (by omega)
 case last =>
  intro u w8 S8 hall
  have h16:(u 28)=.agg #[.int .i64 fr,.int .i64 100,.int .i64 (len+cost),.bool mark]:=hall 16 (by decide)
  have h17:NewRt W8.heap.size w8 (u 9):=hall 17 (by decide)
  clear hall
  refine ⟨_,rfl,fun K' hK=>?_⟩
  obtain ⟨N,e9,hN,hrow⟩:=h17
  simp only [h16,e9] at hK ⊢
  obtain ⟨y0,y1,y2,y3⟩:=row_cells hrow
  have z0:=hrow.frozen 0
  have z1:=hrow.frozen 1
  have z2:=hrow.frozen 2
  have z3:=hrow.frozen 3
  go_simp
  refine hK.out _ _ ?_
  have HO:Hid (((((w8.setCell ⟨N,0,none⟩ (.int .i64 fr)).setCell ⟨N,1,none⟩ (.int .i64 100)).setCell ⟨N,2,none⟩ (.int .i64 (len+cost))).setCell ⟨N,3,none⟩ (.bool mark)).rowIs N 122 4 (rc r0)):=hid (by rw [hr0];exact row_set (r:=⟨fr,100,len+cost,mark⟩) hrow)
  have B9:Hid (Below W8.heap.size W8 ((((w8.setCell ⟨N,0,none⟩ (.int .i64 fr)).setCell ⟨N,1,none⟩ (.int .i64 100)).setCell ⟨N,2,none⟩ (.int .i64 (len+cost))).setCell ⟨N,3,none⟩ (.bool mark))):=hid ((((S8.setCell (by exact hN) _).setCell (by exact hN) _).setCell (by exact hN) _).setCell (by exact hN) _)
  clear hK K' h16 y0 y1 y2 y3 z0 z1 z2 z3 hrow S8
  (try simp only [Exit.then])
  (try dsimp only at HO)
  generalize (((w8.setCell ⟨N,0,none⟩ (.int .i64 fr)).setCell ⟨N,1,none⟩ (.int .i64 100)).setCell ⟨N,2,none⟩ (.int .i64 (len+cost))).setCell ⟨N,3,none⟩ (.bool mark)=w9 at *
  go_wp2
  go_loopw [10] (fun i wr=>∃ (k:Nat) (q:Rt),k≤l4∧i=.int .i64 k∧impK x router fr r0 k=some q∧Below W8.heap.size W8 wr∧wr.rowIs N 122 4 (rc q)) (fun i _=>l4 - (intOf i).toNat)
  case atStart=>exact ⟨0,r0,Nat.zero_le _,rfl,rfl,B9.out,HO.out⟩
  case round =>
   obtain ⟨k,q,hk,rfl,hq,hb,hro⟩:=hrel
   have HQ:=hid hq
   have HB:=hid hb
   have HRo:=hid hro
   obtain ⟨w0,w1,w2,w3,-,-,w4,w5,-⟩:=HW.out wr hb
   have HIk:=hid w4
   have HRes:=hid w5
   obtain ⟨t0,t1,t2,t3⟩:=row_cells hro
   have hNs:=hro.lt
   clear hq hb hro w4 w5 HO B9
   by_cases hlt:k<l4
   · obtain ⟨b4,off4,rfl,d0,d1,d2,d3,d4⟩:=HIk.out.at5 hlt
     have hb4:=World.block_lt_of_cell? _ _ d0
     simp only at hb4
     have hsz:=HB.out.size
     have hR2:=HRes.out.lt
     obtain ⟨qv,qp,ql,qm⟩:=q
     simp only at t0 t1 t2 t3
     obtain ⟨y0,y1,y2,y3⟩:=row_cells HRes.out
     simp only [zRt] at y0 y1 y2 y3
     have z0:=HRes.out.frozen 0
     have z1:=HRes.out.frozen 1
     have z2:=HRes.out.frozen 2
     have z3:=HRes.out.frozen 3
     have v1:=HRo.out.frozen 1
     have v3:=HRo.out.frozen 3
     have HStep:Hid (impK x router fr r0 (k+1)=stepI x router fr k ⟨qv,qp,ql,qm⟩):=hid (by simp only [impK];rw [HQ.out];rfl)
     simp only [stepI,skipB] at HStep
     generalize x k 0=x0 at *
     generalize x k 1=x1 at *
     generalize x k 2=x2 at *
     generalize x k 3=x3 at *
     generalize x k 4=x4 at *
     obtain ⟨s1,e1⟩:∃ b,(x0 != router)=b:=⟨_,rfl⟩
     obtain ⟨s2,e2⟩:∃ b,(x1 != fr)=b:=⟨_,rfl⟩
     obtain ⟨s3,e3⟩:∃ b,(x2 == 1)=b:=⟨_,rfl⟩
     obtain ⟨s4,e4⟩:∃ b,(x2 == 2)=b:=⟨_,rfl⟩
     have f1:decide (x0≠router)=s1:=by rw [← e1,Bool.eq_iff_iff];simp
     have f2:decide (x1≠fr)=s2:=by rw [← e2,Bool.eq_iff_iff];simp
     have f3:decide (x2=1)=s3:=by rw [← e3,Bool.eq_iff_iff];simp
     have f4:decide (x2=2)=s4:=by rw [← e4,Bool.eq_iff_iff];simp
     rw [f1,f2,f3,f4] at HStep
     clear f1 f2 f3 f4
     have HRk:=hid (fun w8 (hb:Below wr.heap.size wr w8)=>HRo.out.of_block (hb.block _ hNs))
     have HBk:=hid (fun w8 (hb:Below wr.heap.size wr w8)=>HB.out.trans (hb.mono hsz))
     have HBw:=hid (HW.out wr HB.out).2.2.2.2.2.2.2.2
     have hsw:w.heap.size+3≤wr.heap.size:=by omega
     cases s1 with
     | true =>
      go_wp2
      go_roundw
      case rel=>exact ⟨k+1,_,by omega,by go_num,HStep.out,HBk.out _ Bl,HRk.out _ Bl⟩
      case measure=>simp [intOf];omega
     | false =>
     cases s2 with
     | true =>
      go_wp2
      go_roundw
      case rel=>exact ⟨k+1,_,by omega,by go_num,HStep.out,HBk.out _ Bl,HRk.out _ Bl⟩
      case measure=>simp [intOf];omega
     | false =>
     cases s3 with
     | true =>
      cases qm with
      | false =>
       go_wp2
       go_roundw
       case rel=>exact ⟨k+1,_,by omega,by go_num,HStep.out,HBk.out _ Bl,HRk.out _ Bl⟩
       case measure=>simp [intOf];omega
      | true =>
       cases s4 with
       | true =>
        go_wp2
        go_roundw
        case rel=>exact ⟨k+1,_,by omega,by go_num,HStep.out,HBk.out _ Bl,HRk.out _ Bl⟩
        case measure=>simp [intOf];omega
       | false =>
        by_cases g1:x3=1
        · have g2:(x3 == 1)=true:=by simp [g1]
          have HS2:Hid (impK x router fr r0 (k+1)=none):=hid (by rw [HStep.out,if_neg (by simp),if_pos g1])
          have HA2:A=noRt:=by rw [← HA.out,impK_none HS2.out hlt];rfl
          subst HA2
          clear g1
          go_wp2_with fail
          refine (none_spec _).mono ?_
          rintro e' w6 ⟨rfl,hb6⟩
          have hb7:Below wr.heap.size wr w6:=(show Below wr.heap.size wr _ from Bl).trans (hb6.mono (by simp))
          have HR6:=hid (HRes.out.of_block (hb7.block _ hR2))
          have B7:=hid (HBw.out.trans (hb7.mono HBw.out.size))
          clear hb6 hb7 y0 y1 y2 y3 z0 z1 z2 z3 v1 v3 d0 d1 d2 d3 d4 t0 t1 t2 t3
          obtain ⟨y0,y1,y2,y3⟩:=row_cells HR6.out
          simp only [zRt] at y0 y1 y2 y3
          have z0:=HR6.out.frozen 0
          have z1:=HR6.out.frozen 1
          have z2:=HR6.out.frozen 2
          have z3:=HR6.out.frozen 3
          simp only [rtV,noRt]
          go_wp2
          refine bodyPost_ret (v:=.agg #[.int .i64 (-3),.int .i64 0,.int .i64 0,.bool false]) (by first|(simp [results,Tryz.results117];go_simp;done)|(simp [results,Tryz.results117,go_sem,y0,y1,y2,y3];done)) rfl ?_
          exact ⟨rfl,(((B7.out.setCell (by dsimp only;omega) _).setCell (by dsimp only;omega) _).setCell (by dsimp only;omega) _).setCell (by dsimp only;omega) _⟩
        have g2:(x3 == 1)=false:=by simp [g1]
        by_cases g3:x3=2
        · have g4:(x3 == 2)=true:=by simp [g3]
          have HS2:=hid HStep.out
          rw [if_neg (by simp),if_neg g1,if_pos g3] at HS2
          clear g1 g3
          go_wp2
          go_roundw
          case rel=>exact ⟨k+1,⟨qv,x4,ql,_⟩,by omega,by go_num,HS2.out,by have hbb:=HB.out;exact Bl,row_alloc (row_pref x4 HRo.out)⟩
          case measure=>simp [intOf];omega
        have g4:(x3 == 2)=false:=by simp [g3]
        obtain ⟨s5,e5⟩:∃ b,(x3 == 3)=b:=⟨_,rfl⟩
        have f5:decide (x3=3)=s5:=by rw [← e5,Bool.eq_iff_iff];simp
        have HS2:=hid HStep.out
        rw [if_neg (by simp),if_neg g1,if_neg g3,f5] at HS2
        clear g1 g3 f5
        go_wp2
        go_roundw
        case rel=>exact ⟨k+1,⟨qv,qp,ql,s5⟩,by omega,by go_num,HS2.out,by have hbb:=HB.out;exact Bl,row_alloc (row_mark s5 HRo.out)⟩
        case measure=>simp [intOf];omega
     | false =>
      cases s4 with
      | true =>
       cases qm with
       | true =>
        go_wp2
        go_roundw
        case rel=>exact ⟨k+1,_,by omega,by go_num,HStep.out,HBk.out _ Bl,HRk.out _ Bl⟩
        case measure=>simp [intOf];omega
       | false =>
        by_cases g1:x3=1
        · have g2:(x3 == 1)=true:=by simp [g1]
          have HS2:Hid (impK x router fr r0 (k+1)=none):=hid (by rw [HStep.out,if_neg (by simp),if_pos g1])
          have HA2:A=noRt:=by rw [← HA.out,impK_none HS2.out hlt];rfl
          subst HA2
          clear g1
          go_wp2_with fail
          refine (none_spec _).mono ?_
          rintro e' w6 ⟨rfl,hb6⟩
          have hb7:Below wr.heap.size wr w6:=(show Below wr.heap.size wr _ from Bl).trans (hb6.mono (by simp))
          have HR6:=hid (HRes.out.of_block (hb7.block _ hR2))
          have B7:=hid (HBw.out.trans (hb7.mono HBw.out.size))
          clear hb6 hb7 y0 y1 y2 y3 z0 z1 z2 z3 v1 v3 d0 d1 d2 d3 d4 t0 t1 t2 t3
          obtain ⟨y0,y1,y2,y3⟩:=row_cells HR6.out
          simp only [zRt] at y0 y1 y2 y3
          have z0:=HR6.out.frozen 0
          have z1:=HR6.out.frozen 1
          have z2:=HR6.out.frozen 2
          have z3:=HR6.out.frozen 3
          simp only [rtV,noRt]
          go_wp2
          refine bodyPost_ret (v:=.agg #[.int .i64 (-3),.int .i64 0,.int .i64 0,.bool false]) (by first|(simp [results,Tryz.results117];go_simp;done)|(simp [results,Tryz.results117,go_sem,y0,y1,y2,y3];done)) rfl ?_
          exact ⟨rfl,(((B7.out.setCell (by dsimp only;omega) _).setCell (by dsimp only;omega) _).setCell (by dsimp only;omega) _).setCell (by dsimp only;omega) _⟩
        have g2:(x3 == 1)=false:=by simp [g1]
        by_cases g3:x3=2
        · have g4:(x3 == 2)=true:=by simp [g3]
          have HS2:=hid HStep.out
          rw [if_neg (by simp),if_neg g1,if_pos g3] at HS2
          clear g1 g3
          go_wp2
          go_roundw
          case rel=>exact ⟨k+1,⟨qv,x4,ql,_⟩,by omega,by go_num,HS2.out,by have hbb:=HB.out;exact Bl,row_alloc (row_pref x4 HRo.out)⟩
          case measure=>simp [intOf];omega
        have g4:(x3 == 2)=false:=by simp [g3]
        obtain ⟨s5,e5⟩:∃ b,(x3 == 3)=b:=⟨_,rfl⟩
        have f5:decide (x3=3)=s5:=by rw [← e5,Bool.eq_iff_iff];simp
        have HS2:=hid HStep.out
        rw [if_neg (by simp),if_neg g1,if_neg g3,f5] at HS2
        clear g1 g3 f5
        go_wp2
        go_roundw
        case rel=>exact ⟨k+1,⟨qv,qp,ql,s5⟩,by omega,by go_num,HS2.out,by have hbb:=HB.out;exact Bl,row_alloc (row_mark s5 HRo.out)⟩
        case measure=>simp [intOf];omega
      | false =>
       by_cases g1:x3=1
       · have g2:(x3 == 1)=true:=by simp [g1]
         have HS2:Hid (impK x router fr r0 (k+1)=none):=hid (by rw [HStep.out,if_neg (by simp),if_pos g1])
         have HA2:A=noRt:=by rw [← HA.out,impK_none HS2.out hlt];rfl
         subst HA2
         clear g1
         go_wp2_with fail
         refine (none_spec _).mono ?_
         rintro e' w6 ⟨rfl,hb6⟩
         have hb7:Below wr.heap.size wr w6:=(show Below wr.heap.size wr _ from Bl).trans (hb6.mono (by simp))
         have HR6:=hid (HRes.out.of_block (hb7.block _ hR2))
         have B7:=hid (HBw.out.trans (hb7.mono HBw.out.size))
         clear hb6 hb7 y0 y1 y2 y3 z0 z1 z2 z3 v1 v3 d0 d1 d2 d3 d4 t0 t1 t2 t3
         obtain ⟨y0,y1,y2,y3⟩:=row_cells HR6.out
         simp only [zRt] at y0 y1 y2 y3
         have z0:=HR6.out.frozen 0
         have z1:=HR6.out.frozen 1
         have z2:=HR6.out.frozen 2
         have z3:=HR6.out.frozen 3
         simp only [rtV,noRt]
         go_wp2
         refine bodyPost_ret (v:=.agg #[.int .i64 (-3),.int .i64 0,.int .i64 0,.bool false]) (by first|(simp [results,Tryz.results117];go_simp;done)|(simp [results,Tryz.results117,go_sem,y0,y1,y2,y3];done)) rfl ?_
         exact ⟨rfl,(((B7.out.setCell (by dsimp only;omega) _).setCell (by dsimp only;omega) _).setCell (by dsimp only;omega) _).setCell (by dsimp only;omega) _⟩
       have g2:(x3 == 1)=false:=by simp [g1]
       by_cases g3:x3=2
       · have g4:(x3 == 2)=true:=by simp [g3]
         have HS2:=hid HStep.out
         rw [if_neg (by simp),if_neg g1,if_pos g3] at HS2
         clear g1 g3
         go_wp2
         go_roundw
         case rel=>exact ⟨k+1,⟨qv,x4,ql,_⟩,by omega,by go_num,HS2.out,by have hbb:=HB.out;exact Bl,row_alloc (row_pref x4 HRo.out)⟩
         case measure=>simp [intOf];omega
       have g4:(x3 == 2)=false:=by simp [g3]
       obtain ⟨s5,e5⟩:∃ b,(x3 == 3)=b:=⟨_,rfl⟩
       have f5:decide (x3=3)=s5:=by rw [← e5,Bool.eq_iff_iff];simp
       have HS2:=hid HStep.out
       rw [if_neg (by simp),if_neg g1,if_neg g3,f5] at HS2
       clear g1 g3 f5
       go_wp2
       go_roundw
       case rel=>exact ⟨k+1,⟨qv,qp,ql,s5⟩,by omega,by go_num,HS2.out,by have hbb:=HB.out;exact Bl,row_alloc (row_mark s5 HRo.out)⟩
       case measure=>simp [intOf];omega
   · have ek:k=l4:=by omega
     subst ek
     have HA2:A=q:=by rw [← HA.out,HQ.out];rfl
     subst HA2
     obtain ⟨qv,qp,ql,qm⟩:=A
     simp only at t0 t1 t2 t3
     obtain ⟨y0,y1,y2,y3⟩:=row_cells HRes.out
     simp only [zRt] at y0 y1 y2 y3
     have z0:=HRes.out.frozen 0
     have z1:=HRes.out.frozen 1
     have z2:=HRes.out.frozen 2
     have z3:=HRes.out.frozen 3
     have HBw:=hid (HW.out wr HB.out).2.2.2.2.2.2.2.2
     go_wp2
     refine bodyPost_ret (v:=.agg #[.int .i64 qv,.int .i64 qp,.int .i64 ql,.bool qm]) (by first|(simp [results,Tryz.results117];go_simp;done)|(simp [results,Tryz.results117,go_sem,y0,y1,y2,y3];done)) rfl ?_
     exact ⟨rfl,(((HBw.out.setCell (by dsimp only;omega) _).setCell (by dsimp only;omega) _).setCell (by dsimp only;omega) _).setCell (by dsimp only;omega) _⟩
end Go.Proofs.YthompjbplddkgaaGreatDoor.candImp
