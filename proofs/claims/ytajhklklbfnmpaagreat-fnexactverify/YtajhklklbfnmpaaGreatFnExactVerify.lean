/- For every network, property and number Verify answers as its specification (the verdict, field by field, and the code); the network is as it was, and the answer owns its memory; conditions: none. -/
import Derived.Test.YtajhklklbfnmpaaGreatVerMark
import Derived.Test.YtajhklklbfnmpaaGreatPart48
set_option linter.unusedVariables false
namespace Go.Proofs.YtajhklklbfnmpaaGreat.fnExactVerify
open Go.ChangeShapes Go.WideShapes Go.ChangeAt Go.RowKit Go.Deep Go.Joins base copy names netSem netCopy netWhole netOKImpl netOKSpec netArgs args intsOwn nbSem netMark routeRow candSem prodSem downsSpec downsTwo verSem verSpec verdictImpl verMath verMark propSem drawnMk drawnSrc
open rangeTwo (Df)
open drawn (slots_inj)
theorem nil_ns {N : Nat→Nat} {a b g : Nat} (hu : N 0 < N 1∧N 1 < N 2∧N 2 < N 3∧N 3 < N 4∧N 4 < N 5) (h : g < N 0 ∨ N 5 < g) : ¬ Ns N g := by
 rintro ⟨i,hi,rfl⟩
 match i,hi with
 | 0,_=>omega
 | 1,_=>omega
 | 2,_=>omega
 | 3,_=>omega
 | 4,_=>omega
 | 5,_=>omega
 | i+6,hi=>omega
theorem ns_low {N : Nat→Nat} {M g : Nat} (hu : N 0 < N 1∧N 1 < N 2∧N 2 < N 3∧N 3 < N 4∧N 4 < N 5) (h : M≤N 0) (hg : Ns N g) : M≤g := by
 obtain ⟨i,hi,rfl⟩:=hg
 match i,hi with
 | 0,_=>omega
 | 1,_=>omega
 | 2,_=>omega
 | 3,_=>omega
 | 4,_=>omega
 | 5,_=>omega
 | i+6,hi=>omega
theorem cells_prop : Tryz.prog.cellsOf 30=4 := by kernel_rfl
theorem array4 {α : Type} {cs : Array α} (h : cs.size=4) : ∃ c0 c1 c2 c3,cs=#[c0,c1,c2,c3] := by
 obtain ⟨l⟩:=cs
 match l,h with
 | [c0,c1,c2,c3],_=>exact ⟨c0,c1,c2,c3,rfl⟩
set_option maxRecDepth 100000 in
theorem prop_of_trod {H : Type} {enc : TypeId × Value→H} {w : World} {base b0 : Nat} {held : Bool} {r : Reach} {v : Value} {d : DataW H} {pl : List MemPlace} (hv : Value.okWide Tryz.prog w r b0 30 v) (h : DataW.Trod enc Tryz.prog w base (fun _=>true) held 30 v d pl) :
  ∃ k fr po wy,v=.agg #[.int .i64 k,.int .i64 fr,.int .i64 po,.int .i64 wy]:=by
 obtain ⟨cs,rfl,hsz⟩:=okWide_struct Tryz.underlying30 hv
 obtain ⟨c0,c1,c2,c3,rfl⟩:=array4 (hsz.trans cells_prop)
 obtain ⟨fuel,hf⟩:=h
 obtain ⟨xs,n,_,_,_,hlen,hfld⟩:=DataW.trod_struct Tryz.underlying30 hf
 match xs,hlen with
 | [y0,y1,y2,y3],_ =>
  have g0:=hfld 0 _ rfl
  have g1:=hfld 1 _ rfl
  have g2:=hfld 2 _ rfl
  have g3:=hfld 3 _ rfl
  simp [Value.cells,cells_int] at g0 g1 g2 g3
  obtain ⟨k,rfl,_⟩:=int_of_trod Tryz.underlying3 g0
  obtain ⟨fr,rfl,_⟩:=int_of_trod Tryz.underlying3 g1
  obtain ⟨po,rfl,_⟩:=int_of_trod Tryz.underlying3 g2
  obtain ⟨wy,rfl,_⟩:=int_of_trod Tryz.underlying3 g3
  exact ⟨k,fr,po,wy,rfl⟩
set_option maxHeartbeats 400000 in
theorem toProp (k fr po wy : Int) (w : World) :
  Calls Tryz.prog 7 #[.agg #[.int .i64 k,.int .i64 fr,.int .i64 po,.int .i64 wy]] w fun e w'=>e=.returned (.agg #[.int .i64 k,.int .i64 fr,.int .i64 po,.int .i64 wy])∧Below w.heap.size w w' := by
 go_enter Tryz.func7,Tryz.ntmps7
 go_wp2
 refine bodyPost_ret (v:=.agg #[.int .i64 k,.int .i64 fr,.int .i64 po,.int .i64 wy]) (by simp [results,Tryz.results7,go_sem]) rfl ⟨rfl,Bl⟩
theorem trips_mem {ST : List Bool→List Int→List (List Rt)} {DL : List (List Bool)} {EL : List (List Int)} {d : List Bool} {e : List Int} {s : List Rt} (h : (d,e,s) ∈ trips ST DL EL) : d ∈ DL∧e ∈ EL∧s ∈ ST d e := by
 unfold trips rowT at h
 obtain ⟨d',hd,h⟩:=List.mem_flatMap.1 h
 obtain ⟨e',he,h⟩:=List.mem_flatMap.1 h
 obtain ⟨s',hs,h⟩:=List.mem_map.1 h
 simp only [Prod.mk.injEq] at h
 obtain ⟨rfl,rfl,rfl⟩:=h
 exact ⟨hd,he,hs⟩
theorem content (C : Int) (ST : List Bool→List Int→List (List Rt)) (DL : List (List Bool)) (EL : List (List Int)) (fa : List Rt→Int) (hD : C=0→∀ d ∈ DL,d.length≤1000) (hE : C=0→∀ e ∈ EL,e.length≤1000) (hS : C=0→∀ d e,∀ s ∈ ST d e,s.length≤1000) :
  ∃ (hv:Bool) (n:Int) (D:List Bool) (E V:List Int) (pt:Int),D.length≤1000∧E.length≤1000∧V.length≤1000∧∀ w B v,VerAns w B C ST DL EL fa v→∃ x1 x2 x3 x4 x5 x6,v=.agg #[.bool hv,.int .i64 n,.slice x1 D.length x4,.slice x2 E.length x5,.slice x3 V.length x6,.int .i64 pt]∧OwnBools B w (.slice x1 D.length x4) D∧OwnInts B w (.slice x2 E.length x5) E∧OwnInts B w (.slice x3 V.length x6) V:=by
 by_cases hC:C=0
 · by_cases hex:∃ pre d e s rest,trips ST DL EL=pre ++ (d,e,s) :: rest∧(∀ t ∈ pre,decide (0≤fa t.2.2)=false)∧decide (0≤fa s)=true
   · obtain ⟨pre,d,e,s,rest,t1,t2,t3⟩:=hex
     have hm:(d,e,s) ∈ trips ST DL EL:=by rw [t1];simp
     obtain ⟨m1,m2,m3⟩:=trips_mem hm
     refine ⟨false,(pre.length:Int)+1,d,e,s.map (·.via),fa s,hD hC d m1,hE hC e m2,by rw [List.length_map];exact hS hC d e s m3,fun w B v h=>?_⟩
     unfold VerAns at h
     rw [if_pos hC] at h
     rcases h with ⟨hall,_⟩ | ⟨pre',d',e',s',rest',dv,ev,vv,u1,u2,u3,rfl,o1,o2,o3⟩
     · have:=hall _ hm
       simp only at this
       rw [t3] at this
       cases this
     · obtain ⟨r1,r2⟩:=first_uniq (fun t:List Bool × List Int × List Rt=>decide (0≤fa t.2.2)) (t1.symm.trans u1) t2 u2 t3 u3
       simp only [Prod.mk.injEq] at r2
       obtain ⟨rfl,rfl,rfl⟩:=r2
       subst r1
       obtain ⟨x1,y1,e1⟩:=bools_form o1
       obtain ⟨x2,y2,e2,-⟩:=OwnInts.form o2
       obtain ⟨x3,y3,e3,-⟩:=OwnInts.form o3
       subst e1
       subst e2
       subst e3
       exact ⟨x1,x2,x3,y1,y2,y3,rfl,o1,o2,o3⟩
   · refine ⟨true,((trips ST DL EL).length:Int),[],[],[],0,by simp,by simp,by simp,fun w B v h=>?_⟩
     unfold VerAns at h
     rw [if_pos hC] at h
     rcases h with ⟨_,rfl⟩ | ⟨pre',d',e',s',rest',dv,ev,vv,u1,u2,u3,_⟩
     · exact ⟨none,none,none,0,0,0,rfl,World.ownsRow_nil _ _ _ _,World.ownsRow_nil _ _ _ _,World.ownsRow_nil _ _ _ _⟩
     · exact absurd ⟨pre',d',e',s',rest',u1,u2,u3⟩ hex
 · refine ⟨false,0,[],[],[],0,by simp,by simp,by simp,fun w B v h=>?_⟩
   unfold VerAns at h
   rw [if_neg hC] at h
   subst h
   exact ⟨none,none,none,0,0,0,rfl,World.ownsRow_nil _ _ _ _,World.ownsRow_nil _ _ _ _,World.ownsRow_nil _ _ _ _⟩
theorem own_six {w : World} {B N m s : Nat} {t : TypeId} {v v0 v1 v2 v3 v4 v5 : Value} {xs : List Value} {cs : Array Value} (h : w.ownsRow B t s v m xs) (hN : w.heap[N]? = some (.cells cs 34 (0,0))) (ht : t ≠ 34) : ((((((w.setCell ⟨N,0,none⟩ v0).setCell ⟨N,1,none⟩ v1).setCell ⟨N,2,none⟩ v2).setCell ⟨N,3,none⟩ v3).setCell ⟨N,4,none⟩ v4).setCell ⟨N,5,none⟩ v5).ownsRow B t s v m xs :=
 own_atT h fun q cs' _ hh=>(six_df w N v0 v1 v2 v3 v4 v5).blk q (Array.getElem?_eq_some_iff.1 hh).1 (fun e=>by
  subst e
  rw [hN] at hh
  injection hh with hh
  injection hh with _ hh _
  exact ht hh.symm)
theorem own_ne {w : World} {B N m s : Nat} {t : TypeId} {v : Value} {xs : List Value} {cs : Array Value} (h : w.ownsRow B t s v m xs) (hN : w.heap[N]? = some (.cells cs 34 (0,0))) (ht : t ≠ 34) : v.ownBlock ≠ some N := fun e=>by
 rcases h.2 with ⟨e',_⟩ | ⟨q,cap,cur,e',_,hh,_⟩
 · rw [e'] at e;simp [Value.ownBlock] at e
 · rw [e'] at e
   simp [Value.ownBlock] at e
   subst e
   rw [hN] at hh
   injection hh with hh
   injection hh with _ hh _
   exact ht hh.symm
theorem six_cells {w : World} {N : Nat} {c0 c1 c2 c3 c4 c5 : Value} (h : w.heap[N]? = some (.cells #[c0,c1,c2,c3,c4,c5] 34 (0,0))) : (w.cell? ⟨N,0,none⟩=some c0∧w.cell? ⟨N,1,none⟩=some c1∧w.cell? ⟨N,2,none⟩=some c2∧w.cell? ⟨N,3,none⟩=some c3∧w.cell? ⟨N,4,none⟩=some c4∧w.cell? ⟨N,5,none⟩=some c5)∧N < w.heap.size := by
 refine ⟨⟨?_,?_,?_,?_,?_,?_⟩,(Array.getElem?_eq_some_iff.1 h).1⟩ <;> simp [World.cell?,h]
theorem six_froz {w : World} {N : Nat} {cs : Array Value} (h : w.heap[N]? = some (.cells cs 34 (0,0))) : ∀ i,w.frozen? ⟨N,i,none⟩=false := fun i=>by simp [World.frozen?,h]
set_option maxHeartbeats 12800000 in
set_option maxRecDepth 100000 in
theorem walk (p : Nat→Option Addr) (l c : Nat→Nat) (s : Ss) (g : R) (o e : List Int) (x f : R) (kind fr pp way k : Int) (w : World) (h : NetIs w p l s g o e x f) :
  Calls Tryz.prog 3 #[netV p l c,.agg #[.int .i64 kind,.int .i64 fr,.int .i64 pp,.int .i64 way],.int .i64 k] w fun e' w'=>e' = .returned (.bool true)∧Below w.heap.size w w' := by
 have HN:=hid h
 have HM:Hid (∀ i,i < 6→l i≤maxLen):=fun i hi=>by
  match i,hi with
  | 0,_=>exact h.routers.most
  | 1,_=>exact h.links.most
  | 2,_=>exact h.origins.most
  | 3,_=>exact h.externals.most
  | 4,_=>exact h.imports.most
  | 5,_=>exact h.filters.most
  | i+6,hi=>exact absurd hi (by omega)
 have HS:=hid h.routers.size
 have HO:=hid h.origins.length
 have HE:=hid h.externals.length
 obtain ⟨C,hC⟩:∃ C,verC (propB (netB l s g o e x f) (l 0) kind fr pp way) k=C:=⟨_,rfl⟩
 have h0:C=0→netB l s g o e x f=true:=fun hc=>by
  cases hp:propB (netB l s g o e x f) (l 0) kind fr pp way with
  | true=>exact (prop_facts hp).1
  | false=>rw [hp,hc] at hC;simp [verC] at hC
 obtain ⟨hv,n,D,E,V,pt,lD,lE,lV,hcon⟩:=content C (stP g o e x l) (downsP (l 1) (k.toNat+1)) (prod (fun _=>[0,1,2]) (l 3)) (fun st=>faultSpec.faultAt (rtsRow.rF st) f (l 5) (l 0) kind pp way fr.toNat) (fun hc d hd=>by rw [downs_len hd];have:=(net_facts (h0 hc)).2.2.1;omega) (fun hc d hd=>by rw [prod_len hd];have:=(net_facts (h0 hc)).2.2.2.1;omega) (fun hc d e' st hst=>by rw [st_len st hst];have:=(net_facts (h0 hc)).1.few;omega)
 have HSpec:Hid (∀ (W W0:World) (N:Nat→Nat),W0.heap.size≤W.heap.size→NetIs W (fun i=>some ⟨N i,0,none⟩) l s g o e x f→Calls Tryz.prog 5 #[.agg #[.slice (some ⟨N 0,0,none⟩) (l 0) (l 0),.slice (some ⟨N 1,0,none⟩) (l 1) (l 1),.slice (some ⟨N 2,0,none⟩) (l 2) (l 2),.slice (some ⟨N 3,0,none⟩) (l 3) (l 3),.slice (some ⟨N 4,0,none⟩) (l 4) (l 4),.slice (some ⟨N 5,0,none⟩) (l 5) (l 5)],.agg #[.int .i64 kind,.int .i64 fr,.int .i64 pp,.int .i64 way],.int .i64 k] W fun e' w'=>∃ x1 x2 x3 x4 x5 x6,e' = .returned (.tuple #[.agg #[.bool hv,.int .i64 n,.slice x1 D.length x4,.slice x2 E.length x5,.slice x3 V.length x6,.int .i64 pt],.int .i64 C])∧OwnBools W0.heap.size w' (.slice x1 D.length x4) D∧OwnInts W0.heap.size w' (.slice x2 E.length x5) E∧OwnInts W0.heap.size w' (.slice x3 V.length x6) V∧Below W.heap.size W w'):=hid (fun W W0 N hz hn=>by
  refine (verFaceS.verify_spec (fun i=>some ⟨N i,0,none⟩) l l s g o e x f kind fr pp way k W hn (Nat.le_refl _) (Nat.le_refl _)).mono ?_
  rintro e' w' ⟨v,rfl,hva,hb'⟩
  rw [hC] at hva ⊢
  obtain ⟨x1,x2,x3,x4,x5,x6,rfl,o1,o2,o3⟩:=hcon _ _ _ hva
  exact ⟨x1,x2,x3,x4,x5,x6,rfl,own_low o1 hz,own_low o2 hz,own_low o3 hz,hb'⟩)
 have HImpl:Hid (∀ (W W0:World) (N:Nat→Nat),W0.heap.size≤W.heap.size→NetIs W (fun i=>some ⟨N i,0,none⟩) l s g o e x f→Calls Tryz.prog 8 #[.agg #[.slice (some ⟨N 0,0,none⟩) (l 0) (l 0),.slice (some ⟨N 1,0,none⟩) (l 1) (l 1),.slice (some ⟨N 2,0,none⟩) (l 2) (l 2),.slice (some ⟨N 3,0,none⟩) (l 3) (l 3),.slice (some ⟨N 4,0,none⟩) (l 4) (l 4),.slice (some ⟨N 5,0,none⟩) (l 5) (l 5)],.agg #[.int .i64 kind,.int .i64 fr,.int .i64 pp,.int .i64 way],.int .i64 k] W fun e' w'=>∃ x1 x2 x3 x4 x5 x6,e' = .returned (.tuple #[.agg #[.bool hv,.int .i64 n,.slice x1 D.length x4,.slice x2 E.length x5,.slice x3 V.length x6,.int .i64 pt],.int .i64 C])∧OwnBools W0.heap.size w' (.slice x1 D.length x4) D∧OwnInts W0.heap.size w' (.slice x2 E.length x5) E∧OwnInts W0.heap.size w' (.slice x3 V.length x6) V∧Ap (.slice x2 E.length x5) (.slice x3 V.length x6)∧Below W.heap.size W w'):=hid (fun W W0 N hz hn=>by
  refine (verFaceI.verify_impl (fun i=>some ⟨N i,0,none⟩) l l s g o e x f kind fr pp way k W hn (Nat.le_refl _) (Nat.le_refl _)).mono ?_
  rintro e' w' ⟨v,rfl,hva,hap,hb'⟩
  rw [hC] at hva ⊢
  obtain ⟨x1,x2,x3,x4,x5,x6,rfl,o1,o2,o3⟩:=hcon _ _ _ hva
  exact ⟨x1,x2,x3,x4,x5,x6,rfl,own_low o1 hz,own_low o2 hz,own_low o3 hz,hap _ _ _ _ _ _ rfl,hb'⟩)
 have C1:∀ w8:World,Below ((w.alloc (.cells #[.slice (p 0) (l 0) (c 0),.slice (p 1) (l 1) (c 1),.slice (p 2) (l 2) (c 2),.slice (p 3) (l 3) (c 3),.slice (p 4) (l 4) (c 4),.slice (p 5) (l 5) (c 5)] 28)).alloc (.cells #[.int .i64 kind,.int .i64 fr,.int .i64 pp,.int .i64 way] 30)).heap.size ((w.alloc (.cells #[.slice (p 0) (l 0) (c 0),.slice (p 1) (l 1) (c 1),.slice (p 2) (l 2) (c 2),.slice (p 3) (l 3) (c 3),.slice (p 4) (l 4) (c 4),.slice (p 5) (l 5) (c 5)] 28)).alloc (.cells #[.int .i64 kind,.int .i64 fr,.int .i64 pp,.int .i64 way] 30)) w8→(w8.cell? ⟨w.heap.size,0,none⟩=some (.slice (p 0) (l 0) (c 0))∧w8.cell? ⟨w.heap.size,1,none⟩=some (.slice (p 1) (l 1) (c 1))∧w8.cell? ⟨w.heap.size,2,none⟩=some (.slice (p 2) (l 2) (c 2))∧w8.cell? ⟨w.heap.size,3,none⟩=some (.slice (p 3) (l 3) (c 3))∧w8.cell? ⟨w.heap.size,4,none⟩=some (.slice (p 4) (l 4) (c 4))∧w8.cell? ⟨w.heap.size,5,none⟩=some (.slice (p 5) (l 5) (c 5)))∧(w8.cell? ⟨w.heap.size+1,0,none⟩=some (.int .i64 kind)∧w8.cell? ⟨w.heap.size+1,1,none⟩=some (.int .i64 fr)∧w8.cell? ⟨w.heap.size+1,2,none⟩=some (.int .i64 pp)∧w8.cell? ⟨w.heap.size+1,3,none⟩=some (.int .i64 way))∧NetIs w8 p l s g o e x f∧Below w.heap.size w w8∧w.heap.size+1 < w8.heap.size :=
  fun w8 hb=>⟨⟨keep hb (by simp [go_sem]),keep hb (by simp [go_sem]),keep hb (by simp [go_sem]),keep hb (by simp [go_sem]),keep hb (by simp [go_sem]),keep hb (by simp [go_sem])⟩,⟨keep hb (by simp [go_sem]),keep hb (by simp [go_sem]),keep hb (by simp [go_sem]),keep hb (by simp [go_sem])⟩,(HN.out.below Bl).below hb,(show Below w.heap.size w _ from Bl).trans (hb.mono (by simp;omega)),Nat.lt_of_lt_of_le (by simp) hb.size⟩
 have HC1:=hid C1
 have hqC:(C != C)=false:=by simp
 clear C1 h hC h0 hcon
 unfold netV
 go_enter Tryz.func3,Tryz.ntmps3
 go_wp2_with fail
 refine (szNet p l c s g o e x f 1048576 _ (HN.out.below Bl) (by omega) (by omega)).mono ?_
 rintro e' w1 ⟨r,rfl,hb',hr1,hr2,hr3⟩
 have H3:=hid hr3
 have HB:=hid hb'
 obtain ⟨⟨q0,q1,q2,q3,q4,q5⟩,⟨y0,y1,y2,y3⟩,hn,hB,hz⟩:=HC1.out w1 hb'
 have NW:=hid hn
 clear hr3 hn
 by_cases hneg:r < 0
 · clear hb'
   go_wp2
   go_ret
   exact ⟨rfl,hB⟩
 have HL:=hid (H3.out (by omega))
 have HBf:=hid (show ((w.alloc (.cells #[.slice (p 0) (l 0) (c 0),.slice (p 1) (l 1) (c 1),.slice (p 2) (l 2) (c 2),.slice (p 3) (l 3) (c 3),.slice (p 4) (l 4) (c 4),.slice (p 5) (l 5) (c 5)] 28)).alloc (.cells #[.int .i64 kind,.int .i64 fr,.int .i64 pp,.int .i64 way] 30)).heap.size≤w1.heap.size from hb'.size)
 clear hb' hB
 go_wp2_with fail
 refine region_mk (fun uu=>⟨#[.agg #[.slice (p 0) (l 0) (c 0),.slice (p 1) (l 1) (c 1),.slice (p 2) (l 2) (c 2),.slice (p 3) (l 3) (c 3),.slice (p 4) (l 4) (c 4),.slice (p 5) (l 5) (c 5)],.agg #[.int .i64 kind,.int .i64 fr,.int .i64 pp,.int .i64 way],.int .i64 k,.pointer (some ⟨w.heap.size,0,none⟩),.pointer (some ⟨w.heap.size+1,0,none⟩),undef,.bool false,.int .i64 r,uu 8,uu 9,undef,undef,undef,undef,undef,undef,undef,undef,.agg #[.slice (p 0) (l 0) (c 0),.slice (p 1) (l 1) (c 1),.slice (p 2) (l 2) (c 2),.slice (p 3) (l 3) (c 3),.slice (p 4) (l 4) (c 4),.slice (p 5) (l 5) (c 5)],.int .i64 1048576,.int .i64 r,.int .i64 r,.bool (decide (r < 0)),uu 23,uu 24,uu 25,uu 26,uu 27,uu 28,uu 29,uu 30,uu 31,undef,undef,undef,undef,undef,undef,undef,undef,undef,undef,undef,undef,undef,undef,undef,undef,undef,undef,undef,undef,undef,undef,undef,undef,undef,undef,undef,undef,undef,undef,undef,undef,undef,undef,undef,undef,undef,undef,undef,undef,undef,undef,undef,undef,undef,undef,undef,undef,undef,undef,undef,undef,undef,undef,undef,undef,undef,undef,undef,undef,undef,undef,undef,undef,undef,undef,undef,undef,undef,undef,undef,undef,undef,undef,undef,undef,undef],[]⟩) (fun i=>[some 24,some 25,some 26,some 27,some 28,some 29,some 23,some 30,some 31,some 8,none,some 9].getD i none) (fun i v w8=>match i with | 0=>v=.agg #[.slice (p 0) (l 0) (c 0),.slice (p 1) (l 1) (c 1),.slice (p 2) (l 2) (c 2),.slice (p 3) (l 3) (c 3),.slice (p 4) (l 4) (c 4),.slice (p 5) (l 5) (c 5)] | 1=>∃ N:Nat→Nat,v=.agg #[.slice (some ⟨N 0,0,none⟩) (l 0) (l 0),.slice (some ⟨N 1,0,none⟩) (l 1) (l 1),.slice (some ⟨N 2,0,none⟩) (l 2) (l 2),.slice (some ⟨N 3,0,none⟩) (l 3) (l 3),.slice (some ⟨N 4,0,none⟩) (l 4) (l 4),.slice (some ⟨N 5,0,none⟩) (l 5) (l 5)]∧NetIs w8 (fun i=>some ⟨N i,0,none⟩) l s g o e x f | 2=>v=.agg #[.int .i64 kind,.int .i64 fr,.int .i64 pp,.int .i64 way] | 3=>v=.agg #[.int .i64 kind,.int .i64 fr,.int .i64 pp,.int .i64 way] | 4=>v=.int .i64 k | 5=>∃ x1 x2 x3 x4 x5 x6,v=.tuple #[.agg #[.bool hv,.int .i64 n,.slice x1 D.length x4,.slice x2 E.length x5,.slice x3 V.length x6,.int .i64 pt],.int .i64 C]∧OwnBools w1.heap.size w8 (.slice x1 D.length x4) D∧OwnInts w1.heap.size w8 (.slice x2 E.length x5) E∧OwnInts w1.heap.size w8 (.slice x3 V.length x6) V | 6=>∃ x1 x2 x3 x4 x5 x6,v=.tuple #[.agg #[.bool hv,.int .i64 n,.slice x1 D.length x4,.slice x2 E.length x5,.slice x3 V.length x6,.int .i64 pt],.int .i64 C]∧OwnBools w1.heap.size w8 (.slice x1 D.length x4) D∧OwnInts w1.heap.size w8 (.slice x2 E.length x5) E∧OwnInts w1.heap.size w8 (.slice x3 V.length x6) V | 7=>∃ x1 x2 x3 x4 x5 x6,v=.agg #[.bool hv,.int .i64 n,.slice x1 D.length x4,.slice x2 E.length x5,.slice x3 V.length x6,.int .i64 pt]∧OwnBools w1.heap.size w8 (.slice x1 D.length x4) D∧OwnInts w1.heap.size w8 (.slice x2 E.length x5) E∧OwnInts w1.heap.size w8 (.slice x3 V.length x6) V | 8=>True | 9=>∃ N:Nat,v=.pointer (some ⟨N,0,none⟩)∧w1.heap.size≤N∧w8.heap[N]? = some (.cells #[.bool false,.int .i64 0,.slice none 0 0,.slice none 0 0,.slice none 0 0,.int .i64 0] 34 (0,0)) | 11=>True | _=>True) (fun i v=>match i with | 6=>∃ (vq:Value),v=.tuple #[vq,.int .i64 C] | 8=>v=.int .i64 C | 11=>v=.int .i64 C | _=>True) (fun uu w8=>∃ (N:Nat) (x1 x2 x3:Option Addr) (x4 x5 x6:Nat),uu 8=.pointer (some ⟨N,0,none⟩)∧w1.heap.size≤N∧w8.heap[N]? = some (.cells #[.bool hv,.int .i64 n,.slice x1 D.length x4,.slice x2 E.length x5,.slice x3 V.length x6,.int .i64 pt] 34 (0,0))∧OwnBools w1.heap.size w8 (.slice x1 D.length x4) D∧OwnInts w1.heap.size w8 (.slice x2 E.length x5) E∧OwnInts w1.heap.size w8 (.slice x3 V.length x6) V∧Below w1.heap.size w1 w8) w1 12 10 (fun i=>decide (i=8) || decide (i=11)) (fun k=>match k with | 24=>undef | 25=>undef | 26=>undef | 27=>undef | 28=>undef | 29=>undef | 23=>undef | 30=>undef | 31=>undef | 8=>undef | 9=>undef | _=>undef) (by rfl) (by kernel_rfl) (by rfl) (by kernel_rfl) (by decide) rfl (by kernel_rfl) (Below.refl _ _) ?hput ?hinj ?hsome ?hom ?stable ?hpsi ?step ?stepL ?store ?fin
 case hput =>
  intro i hi uu v
  match i,hi with
  | 0,_=>rfl
  | 1,_=>rfl
  | 2,_=>rfl
  | 3,_=>rfl
  | 4,_=>rfl
  | 5,_=>rfl
  | 6,_=>rfl
  | 7,_=>rfl
  | 8,_=>rfl
  | 9,_=>rfl
  | 10,_=>rfl
  | 11,_=>rfl
  | i+12,hi=>exact absurd hi (by omega)
 case hinj =>
  intro i j hi hj _ h
  have h9:∀ i,i < 12→∀ j,j < 12→[some 24,some 25,some 26,some 27,some 28,some 29,some 23,some 30,some 31,some 8,none,some 9].getD i none=[some 24,some 25,some 26,some 27,some 28,some 29,some 23,some 30,some 31,some 8,none,some 9].getD j none→i=j:=by decide
  exact h9 i hi j hj h
 case hsome =>
  intro i hi hne
  have h9:∀ i,i < 12→i ≠ 10→[some 24,some 25,some 26,some 27,some 28,some 29,some 23,some 30,some 31,some 8,none,some 9].getD i none ≠ none:=by decide
  exact h9 i hi hne
 case hom =>
  intro i v w8 hl h
  match i,hl,h with
  | 0,hl,h=>trivial
  | 1,hl,h=>trivial
  | 2,hl,h=>trivial
  | 3,hl,h=>trivial
  | 4,hl,h=>trivial
  | 5,hl,h=>trivial
  | 6,hl,h=>(obtain ⟨x1,x2,x3,x4,x5,x6,e9,-⟩:=h;exact ⟨_,e9⟩)
  | 7,hl,h=>trivial
  | 8,hl,h=>exact absurd hl (by decide)
  | 9,hl,h=>trivial
  | 10,hl,h=>trivial
  | 11,hl,h=>exact absurd hl (by decide)
  | _+12,hl,h=>trivial
 case stable =>
  intro i v w8 w9 hb h
  match i,hb,h with
  | 0,hb,h=>exact h
  | 1,hb,h=>(obtain ⟨N,e9,h9⟩:=h;exact ⟨N,e9,h9.below hb⟩)
  | 2,hb,h=>exact h
  | 3,hb,h=>exact h
  | 4,hb,h=>exact h
  | 5,hb,h=>(obtain ⟨x1,x2,x3,x4,x5,x6,e9,o1,o2,o3⟩:=h;exact ⟨x1,x2,x3,x4,x5,x6,e9,own_pass o1 hb,own_pass o2 hb,own_pass o3 hb⟩)
  | 6,hb,h=>(obtain ⟨x1,x2,x3,x4,x5,x6,e9,o1,o2,o3⟩:=h;exact ⟨x1,x2,x3,x4,x5,x6,e9,own_pass o1 hb,own_pass o2 hb,own_pass o3 hb⟩)
  | 7,hb,h=>(obtain ⟨x1,x2,x3,x4,x5,x6,e9,o1,o2,o3⟩:=h;exact ⟨x1,x2,x3,x4,x5,x6,e9,own_pass o1 hb,own_pass o2 hb,own_pass o3 hb⟩)
  | 8,hb,h=>exact h
  | 9,hb,h=>(obtain ⟨N,e9,hN,hrw⟩:=h;exact ⟨N,e9,hN,(hb.block N (Array.getElem?_eq_some_iff.1 hrw).1).trans hrw⟩)
  | 10,hb,h=>trivial
  | 11,hb,h=>exact h
  | _+12,hb,h=>trivial
 case hpsi =>
  intro i hi hl uu v w8 h
  match i,hi,hl,h with
  | 0,_,hl,h=>exact absurd hl (by decide)
  | 1,_,hl,h=>exact absurd hl (by decide)
  | 2,_,hl,h=>exact absurd hl (by decide)
  | 3,_,hl,h=>exact absurd hl (by decide)
  | 4,_,hl,h=>exact absurd hl (by decide)
  | 5,_,hl,h=>exact absurd hl (by decide)
  | 6,_,hl,h=>exact absurd hl (by decide)
  | 7,_,hl,h=>exact absurd hl (by decide)
  | 8,_,hl,h=>exact h
  | 9,_,hl,h=>exact absurd hl (by decide)
  | 10,_,hl,h=>exact absurd hl (by decide)
  | 11,_,hl,h=>exact h
  | i+12,hi,_,_=>exact absurd hi (by omega)
 case step =>
  intro i hi hne hl uu w8 S8 hdep
  match i,hi,hne,hl,hdep with
  | 0,_,_,_,hdep =>
   clear hdep
   refine ⟨_,rfl,fun K' hK=>?_⟩
   obtain ⟨⟨q0,q1,q2,q3,q4,q5⟩,⟨y0,y1,y2,y3⟩,hn8,-,-⟩:=HC1.out w8 (HB.out.trans (S8.mono HB.out.size))
   go_simp
   exact hK.out _ _ (Below.refl _ _) (rfl)
  | 1,_,_,_,hdep =>
   have h0:(uu 24)=.agg #[.slice (p 0) (l 0) (c 0),.slice (p 1) (l 1) (c 1),.slice (p 2) (l 2) (c 2),.slice (p 3) (l 3) (c 3),.slice (p 4) (l 4) (c 4),.slice (p 5) (l 5) (c 5)]:=hdep 0 (by kernel_rfl) (by decide)
   clear hdep
   refine ⟨_,rfl,fun K' hK=>?_⟩
   obtain ⟨⟨q0,q1,q2,q3,q4,q5⟩,⟨y0,y1,y2,y3⟩,hn8,-,-⟩:=HC1.out w8 (HB.out.trans (S8.mono HB.out.size))
   simp only [h0] at hK ⊢
   go_simp
   refine (toNet p l c s g o e x f w8 hn8 HL.out).mono ?_
   rintro e9 w9 ⟨N9,rfl,hb9,hc9⟩
   exact hK.out _ _ hb9 ⟨N9,rfl,hc9.net HM.out HS.out HO.out HE.out⟩
  | 2,_,_,_,hdep =>
   clear hdep
   refine ⟨_,rfl,fun K' hK=>?_⟩
   obtain ⟨⟨q0,q1,q2,q3,q4,q5⟩,⟨y0,y1,y2,y3⟩,hn8,-,-⟩:=HC1.out w8 (HB.out.trans (S8.mono HB.out.size))
   go_simp
   exact hK.out _ _ (Below.refl _ _) (rfl)
  | 3,_,_,_,hdep =>
   have h2:(uu 26)=.agg #[.int .i64 kind,.int .i64 fr,.int .i64 pp,.int .i64 way]:=hdep 2 (by kernel_rfl) (by decide)
   clear hdep
   refine ⟨_,rfl,fun K' hK=>?_⟩
   simp only [h2] at hK ⊢
   go_simp
   refine (toProp kind fr pp way w8).mono ?_
   rintro e9 w9 ⟨rfl,hb9⟩
   exact hK.out _ _ hb9 rfl
  | 4,_,_,_,hdep =>
   clear hdep
   refine ⟨_,rfl,fun K' hK=>?_⟩
   go_simp
   exact hK.out _ _ (Below.refl _ _) (rfl)
  | 5,_,_,_,hdep =>
   have h1:∃ N:Nat→Nat,(uu 25)=.agg #[.slice (some ⟨N 0,0,none⟩) (l 0) (l 0),.slice (some ⟨N 1,0,none⟩) (l 1) (l 1),.slice (some ⟨N 2,0,none⟩) (l 2) (l 2),.slice (some ⟨N 3,0,none⟩) (l 3) (l 3),.slice (some ⟨N 4,0,none⟩) (l 4) (l 4),.slice (some ⟨N 5,0,none⟩) (l 5) (l 5)]∧NetIs w8 (fun i=>some ⟨N i,0,none⟩) l s g o e x f:=hdep 1 (by kernel_rfl) (by decide)
   have h3:(uu 27)=.agg #[.int .i64 kind,.int .i64 fr,.int .i64 pp,.int .i64 way]:=hdep 3 (by kernel_rfl) (by decide)
   have h4:(uu 28)=.int .i64 k:=hdep 4 (by kernel_rfl) (by decide)
   clear hdep
   refine ⟨_,rfl,fun K' hK=>?_⟩
   obtain ⟨N9,e9,hn9⟩:=h1
   simp only [e9,h3,h4] at hK ⊢
   go_simp
   refine (HSpec.out w8 w1 N9 S8.size hn9).mono ?_
   rintro e9 w9 ⟨x1,x2,x3,x4,x5,x6,rfl,o1,o2,o3,hb9⟩
   exact hK.out _ _ hb9 ⟨x1,x2,x3,x4,x5,x6,rfl,o1,o2,o3⟩
  | 6,_,_,_,hdep =>
   have h5:∃ x1 x2 x3 x4 x5 x6,(uu 29)=.tuple #[.agg #[.bool hv,.int .i64 n,.slice x1 D.length x4,.slice x2 E.length x5,.slice x3 V.length x6,.int .i64 pt],.int .i64 C]∧OwnBools w1.heap.size w8 (.slice x1 D.length x4) D∧OwnInts w1.heap.size w8 (.slice x2 E.length x5) E∧OwnInts w1.heap.size w8 (.slice x3 V.length x6) V:=hdep 5 (by kernel_rfl) (by decide)
   clear hdep
   refine ⟨_,rfl,fun K' hK=>?_⟩
   obtain ⟨x1,x2,x3,x4,x5,x6,e9,o1,o2,o3⟩:=h5
   simp only [e9] at hK ⊢
   go_simp
   exact hK.out _ _ (Below.refl _ _) (⟨x1,x2,x3,x4,x5,x6,rfl,o1,o2,o3⟩)
  | 7,_,_,_,hdep =>
   have h6:∃ x1 x2 x3 x4 x5 x6,(uu 23)=.tuple #[.agg #[.bool hv,.int .i64 n,.slice x1 D.length x4,.slice x2 E.length x5,.slice x3 V.length x6,.int .i64 pt],.int .i64 C]∧OwnBools w1.heap.size w8 (.slice x1 D.length x4) D∧OwnInts w1.heap.size w8 (.slice x2 E.length x5) E∧OwnInts w1.heap.size w8 (.slice x3 V.length x6) V:=hdep 6 (by kernel_rfl) (by decide)
   clear hdep
   refine ⟨_,rfl,fun K' hK=>?_⟩
   obtain ⟨x1,x2,x3,x4,x5,x6,e9,o1,o2,o3⟩:=h6
   simp only [e9] at hK ⊢
   go_simp
   exact hK.out _ _ (Below.refl _ _) (⟨x1,x2,x3,x4,x5,x6,rfl,o1,o2,o3⟩)
  | 8,_,_,hl,_=>exact absurd hl (by decide)
  | 9,_,_,_,hdep =>
   clear hdep
   refine ⟨_,rfl,fun K' hK=>?_⟩
   go_simp
   exact hK.out _ _ Bl ⟨w8.heap.size,rfl,S8.size,World.alloc_heap_new w8 _⟩
  | 10,_,hne,_,_=>exact absurd rfl hne
  | 11,_,_,hl,_=>exact absurd hl (by decide)
  | i+12,hi,_,_,_=>exact absurd hi (by omega)
 case stepL =>
  intro i hi hne hl uu w8 hdep
  match i,hi,hne,hl,hdep with
  | 0,_,_,hl,_=>exact absurd hl (by decide)
  | 1,_,_,hl,_=>exact absurd hl (by decide)
  | 2,_,_,hl,_=>exact absurd hl (by decide)
  | 3,_,_,hl,_=>exact absurd hl (by decide)
  | 4,_,_,hl,_=>exact absurd hl (by decide)
  | 5,_,_,hl,_=>exact absurd hl (by decide)
  | 6,_,_,hl,_=>exact absurd hl (by decide)
  | 7,_,_,hl,_=>exact absurd hl (by decide)
  | 8,_,_,_,hdep =>
   have h6:∃ (vq:Value),(uu 23)=.tuple #[vq,.int .i64 C]:=hdep 6 (by kernel_rfl) (by decide)
   clear hdep
   refine ⟨_,rfl,fun K' hK=>?_⟩
   obtain ⟨vq,e9⟩:=h6
   simp only [e9] at hK ⊢
   go_simp
   exact hK.out _ rfl
  | 9,_,_,hl,_=>exact absurd hl (by decide)
  | 10,_,hne,_,_=>exact absurd rfl hne
  | 11,_,_,_,hdep =>
   have h8:(uu 31)=.int .i64 C:=hdep 8 (by kernel_rfl) (by decide)
   clear hdep
   refine ⟨_,rfl,fun K' hK=>?_⟩
   simp only [h8] at hK ⊢
   go_simp
   exact hK.out _ rfl
  | i+12,hi,_,_,_=>exact absurd hi (by omega)
 case store =>
  intro uu w8 S8 hdep
  have h7:∃ x1 x2 x3 x4 x5 x6,(uu 30)=.agg #[.bool hv,.int .i64 n,.slice x1 D.length x4,.slice x2 E.length x5,.slice x3 V.length x6,.int .i64 pt]∧OwnBools w1.heap.size w8 (.slice x1 D.length x4) D∧OwnInts w1.heap.size w8 (.slice x2 E.length x5) E∧OwnInts w1.heap.size w8 (.slice x3 V.length x6) V:=hdep 7 (by kernel_rfl) (by decide)
  have h9:∃ N:Nat,(uu 8)=.pointer (some ⟨N,0,none⟩)∧w1.heap.size≤N∧w8.heap[N]? = some (.cells #[.bool false,.int .i64 0,.slice none 0 0,.slice none 0 0,.slice none 0 0,.int .i64 0] 34 (0,0)):=hdep 9 (by kernel_rfl) (by decide)
  clear hdep
  refine ⟨_,rfl,fun K' hK=>?_⟩
  obtain ⟨x1,x2,x3,x4,x5,x6,e8,o1,o2,o3⟩:=h7
  obtain ⟨N,e9,hN,hrw⟩:=h9
  have HP9:=e9
  obtain ⟨⟨n0,n1,n2,n3,n4,n5⟩,hlt⟩:=six_cells hrw
  have z0:=six_froz hrw 0
  have z1:=six_froz hrw 1
  have z2:=six_froz hrw 2
  have z3:=six_froz hrw 3
  have z4:=six_froz hrw 4
  have z5:=six_froz hrw 5
  simp only [e8,e9] at hK ⊢
  have hd6:=six_df w8 N (.bool hv) (.int .i64 n) (.slice x1 D.length x4) (.slice x2 E.length x5) (.slice x3 V.length x6) (.int .i64 pt)
  go_simp
  exact hK.out undef _ ⟨N,x1,x2,x3,x4,x5,x6,rfl,hN,six_block hrw,own_six o1 hrw (by decide),own_six o2 hrw (by decide),own_six o3 hrw (by decide),hd6.os.trans S8.os,hd6.tape.trans S8.tape,hd6.output.trans S8.output,Nat.le_trans S8.size hd6.size,fun q hq=>(hd6.blk q (by have:=S8.size;omega) (by omega)).trans (S8.block q hq)⟩
 case fin =>
  intro uu wf hpsi hom
  have hsc:uu 9=.int .i64 C:=hom 11 (by decide) (by decide)
  obtain ⟨N0,a1,a2,a3,a4,a5,a6,hsw,hN,hrn,ho1,ho2,ho3,hb⟩:=hpsi
  simp only [hsc,hsw]
  have W0:=hid hrn
  have X1:=hid ho1
  have X2:=hid ho2
  have X3:=hid ho3
  have ZF:=hid hb.size
  have ZN0:Hid (N0 < wf.heap.size):=hid (Array.getElem?_eq_some_iff.1 hrn).1
  have HB:=hid (HB.out.trans (hb.mono HB.out.size))
  clear hrn ho1 ho2 ho3 hN hsc hsw hom hb
  clear q0 q1 q2 q3 q4 q5 y0 y1 y2 y3 hz NW
  obtain ⟨⟨q0,q1,q2,q3,q4,q5⟩,⟨y0,y1,y2,y3⟩,hn,-,hz⟩:=HC1.out wf HB.out
  have NW:=hid hn
  clear hn
  have XL1:=hid (fun q (hq:(Value.slice a1 D.length a4).ownBlock=some q)=>(World.ownsRow.lt X1.out q hq).2)
  have XL2:=hid (fun q (hq:(Value.slice a2 E.length a5).ownBlock=some q)=>(World.ownsRow.lt X2.out q hq).2)
  have XL3:=hid (fun q (hq:(Value.slice a3 V.length a6).ownBlock=some q)=>(World.ownsRow.lt X3.out q hq).2)
  go_wp2_with fail
  refine (toNet p l c s g o e x f wf NW.out HL.out).mono ?_
  rintro e' w6 ⟨Nb,rfl,hb,hc⟩
  have HB:=hid (HB.out.trans (hb.mono HB.out.size))
  have W0:=hid ((hb.block _ (Array.getElem?_eq_some_iff.1 W0.out).1).trans W0.out)
  have X1:=hid (own_pass X1.out hb)
  have X2:=hid (own_pass X2.out hb)
  have X3:=hid (own_pass X3.out hb)
  clear q0 q1 q2 q3 q4 q5 y0 y1 y2 y3 hz NW
  obtain ⟨⟨q0,q1,q2,q3,q4,q5⟩,⟨y0,y1,y2,y3⟩,hn,-,hz⟩:=HC1.out w6 HB.out
  have NW:=hid hn
  clear hn
  have CB:=hid hc
  have NL:=hid (And.intro hc.low (And.intro hc.up hc.lt))
  have Z6:=hid hb.size
  clear hc hb
  unfold netV
  go_wp2_with fail
  obtain ⟨W6,hW6⟩:∃ W6,(w6.alloc (.cells #[.slice (some ⟨Nb 0,0,none⟩) (l 0) (l 0),.slice (some ⟨Nb 1,0,none⟩) (l 1) (l 1),.slice (some ⟨Nb 2,0,none⟩) (l 2) (l 2),.slice (some ⟨Nb 3,0,none⟩) (l 3) (l 3),.slice (some ⟨Nb 4,0,none⟩) (l 4) (l 4),.slice (some ⟨Nb 5,0,none⟩) (l 5) (l 5)] 41))=W6:=⟨_,rfl⟩
  have hb:Below w6.heap.size w6 W6:=by rw [← hW6];exact Bl
  have z6:W6.heap.size=w6.heap.size+1:=by rw [← hW6];simp
  have XC:Hid (∀ w8:World,Below W6.heap.size W6 w8→(w8.cell? ⟨w6.heap.size,0,none⟩=some (.slice (some ⟨Nb 0,0,none⟩) (l 0) (l 0))∧w8.cell? ⟨w6.heap.size,1,none⟩=some (.slice (some ⟨Nb 1,0,none⟩) (l 1) (l 1))∧w8.cell? ⟨w6.heap.size,2,none⟩=some (.slice (some ⟨Nb 2,0,none⟩) (l 2) (l 2))∧w8.cell? ⟨w6.heap.size,3,none⟩=some (.slice (some ⟨Nb 3,0,none⟩) (l 3) (l 3))∧w8.cell? ⟨w6.heap.size,4,none⟩=some (.slice (some ⟨Nb 4,0,none⟩) (l 4) (l 4))∧w8.cell? ⟨w6.heap.size,5,none⟩=some (.slice (some ⟨Nb 5,0,none⟩) (l 5) (l 5)))):=hid (fun w8 hb=>by
   refine ⟨?_,?_,?_,?_,?_,?_⟩ <;> (refine keep hb ?_;rw [← hW6];simp [go_sem]))
  rw [hW6]
  have HB:=hid (HB.out.trans (hb.mono HB.out.size))
  have W0:=hid ((hb.block _ (Array.getElem?_eq_some_iff.1 W0.out).1).trans W0.out)
  have X1:=hid (own_pass X1.out hb)
  have X2:=hid (own_pass X2.out hb)
  have X3:=hid (own_pass X3.out hb)
  have CB:=hid (CB.out.below hb)
  clear q0 q1 q2 q3 q4 q5 y0 y1 y2 y3 hz NW
  obtain ⟨⟨q0,q1,q2,q3,q4,q5⟩,⟨y0,y1,y2,y3⟩,hn,-,hz⟩:=HC1.out W6 HB.out
  have NW:=hid hn
  clear hn
  have CBn:Hid (∀ w8:World,Below W6.heap.size W6 w8→NetIs w8 (fun i=>some ⟨Nb i,0,none⟩) l s g o e x f):=hid (fun w8 hb=>(CB.out.below hb).net HM.out HS.out HO.out HE.out)
  have HB6s:=hid HB.out.size
  have ZW6:=hid z6
  clear hb hW6 z6
  refine region_mk (fun uv=>⟨#[.agg #[.slice (p 0) (l 0) (c 0),.slice (p 1) (l 1) (c 1),.slice (p 2) (l 2) (c 2),.slice (p 3) (l 3) (c 3),.slice (p 4) (l 4) (c 4),.slice (p 5) (l 5) (c 5)],.agg #[.int .i64 kind,.int .i64 fr,.int .i64 pp,.int .i64 way],.int .i64 k,.pointer (some ⟨w.heap.size,0,none⟩),.pointer (some ⟨w.heap.size+1,0,none⟩),undef,.bool false,.int .i64 r,.pointer (some ⟨N0,0,none⟩),.int .i64 C,.pointer (some ⟨w6.heap.size,0,none⟩),uv 11,uv 12,undef,undef,undef,undef,undef,.agg #[.slice (p 0) (l 0) (c 0),.slice (p 1) (l 1) (c 1),.slice (p 2) (l 2) (c 2),.slice (p 3) (l 3) (c 3),.slice (p 4) (l 4) (c 4),.slice (p 5) (l 5) (c 5)],.int .i64 1048576,.int .i64 r,.int .i64 r,.bool (decide (r < 0)),uu 23,uu 24,uu 25,uu 26,uu 27,uu 28,uu 29,uu 30,uu 31,.agg #[.slice (p 0) (l 0) (c 0),.slice (p 1) (l 1) (c 1),.slice (p 2) (l 2) (c 2),.slice (p 3) (l 3) (c 3),.slice (p 4) (l 4) (c 4),.slice (p 5) (l 5) (c 5)],.agg #[.slice (some ⟨Nb 0,0,none⟩) (l 0) (l 0),.slice (some ⟨Nb 1,0,none⟩) (l 1) (l 1),.slice (some ⟨Nb 2,0,none⟩) (l 2) (l 2),.slice (some ⟨Nb 3,0,none⟩) (l 3) (l 3),.slice (some ⟨Nb 4,0,none⟩) (l 4) (l 4),.slice (some ⟨Nb 5,0,none⟩) (l 5) (l 5)],uv 34,uv 35,uv 36,uv 37,uv 38,uv 39,uv 40,uv 41,undef,undef,undef,undef,undef,undef,undef,undef,undef,undef,undef,undef,undef,undef,undef,undef,undef,undef,undef,undef,undef,undef,undef,undef,undef,undef,undef,undef,undef,undef,undef,undef,undef,undef,undef,undef,undef,undef,undef,undef,undef,undef,undef,undef,undef,undef,undef,undef,undef,undef,undef,undef,undef,undef,undef,undef,undef,undef,undef,undef,undef,undef,undef,undef,undef,undef,undef],[]⟩) (fun i=>[some 35,some 36,some 37,some 38,some 39,some 34,some 40,some 41,some 11,none,some 12].getD i none) (fun i v w8=>match i with | 0=>v=.agg #[.slice (some ⟨Nb 0,0,none⟩) (l 0) (l 0),.slice (some ⟨Nb 1,0,none⟩) (l 1) (l 1),.slice (some ⟨Nb 2,0,none⟩) (l 2) (l 2),.slice (some ⟨Nb 3,0,none⟩) (l 3) (l 3),.slice (some ⟨Nb 4,0,none⟩) (l 4) (l 4),.slice (some ⟨Nb 5,0,none⟩) (l 5) (l 5)] | 1=>v=.agg #[.int .i64 kind,.int .i64 fr,.int .i64 pp,.int .i64 way] | 2=>v=.agg #[.int .i64 kind,.int .i64 fr,.int .i64 pp,.int .i64 way] | 3=>v=.int .i64 k | 4=>∃ x1 x2 x3 x4 x5 x6,v=.tuple #[.agg #[.bool hv,.int .i64 n,.slice x1 D.length x4,.slice x2 E.length x5,.slice x3 V.length x6,.int .i64 pt],.int .i64 C]∧OwnBools W6.heap.size w8 (.slice x1 D.length x4) D∧OwnInts W6.heap.size w8 (.slice x2 E.length x5) E∧OwnInts W6.heap.size w8 (.slice x3 V.length x6) V∧Ap (.slice x2 E.length x5) (.slice x3 V.length x6) | 5=>∃ x1 x2 x3 x4 x5 x6,v=.tuple #[.agg #[.bool hv,.int .i64 n,.slice x1 D.length x4,.slice x2 E.length x5,.slice x3 V.length x6,.int .i64 pt],.int .i64 C]∧OwnBools W6.heap.size w8 (.slice x1 D.length x4) D∧OwnInts W6.heap.size w8 (.slice x2 E.length x5) E∧OwnInts W6.heap.size w8 (.slice x3 V.length x6) V∧Ap (.slice x2 E.length x5) (.slice x3 V.length x6) | 6=>∃ x1 x2 x3 x4 x5 x6,v=.agg #[.bool hv,.int .i64 n,.slice x1 D.length x4,.slice x2 E.length x5,.slice x3 V.length x6,.int .i64 pt]∧OwnBools W6.heap.size w8 (.slice x1 D.length x4) D∧OwnInts W6.heap.size w8 (.slice x2 E.length x5) E∧OwnInts W6.heap.size w8 (.slice x3 V.length x6) V∧Ap (.slice x2 E.length x5) (.slice x3 V.length x6) | 7=>True | 8=>∃ N:Nat,v=.pointer (some ⟨N,0,none⟩)∧W6.heap.size≤N∧w8.heap[N]? = some (.cells #[.bool false,.int .i64 0,.slice none 0 0,.slice none 0 0,.slice none 0 0,.int .i64 0] 34 (0,0)) | 10=>True | _=>True) (fun i v=>match i with | 5=>∃ (vq:Value),v=.tuple #[vq,.int .i64 C] | 7=>v=.int .i64 C | 10=>v=.int .i64 C | _=>True) (fun uv w8=>∃ (N:Nat) (x1 x2 x3:Option Addr) (x4 x5 x6:Nat),uv 11=.pointer (some ⟨N,0,none⟩)∧W6.heap.size≤N∧w8.heap[N]? = some (.cells #[.bool hv,.int .i64 n,.slice x1 D.length x4,.slice x2 E.length x5,.slice x3 V.length x6,.int .i64 pt] 34 (0,0))∧OwnBools W6.heap.size w8 (.slice x1 D.length x4) D∧OwnInts W6.heap.size w8 (.slice x2 E.length x5) E∧OwnInts W6.heap.size w8 (.slice x3 V.length x6) V∧Ap (.slice x2 E.length x5) (.slice x3 V.length x6)∧Below W6.heap.size W6 w8) W6 11 9 (fun i=>decide (i=7) || decide (i=10)) (fun k=>match k with | 35=>undef | 36=>undef | 37=>undef | 38=>undef | 39=>undef | 34=>undef | 40=>undef | 41=>undef | 11=>undef | 12=>undef | _=>undef) (by rfl) (by kernel_rfl) (by rfl) (by kernel_rfl) (by decide) rfl (by kernel_rfl) (Below.refl _ _) ?hput ?hinj ?hsome ?hom ?stable ?hpsi ?step ?stepL ?store ?fin
  case hput =>
   intro i hi uv v
   match i,hi with
   | 0,_=>rfl
   | 1,_=>rfl
   | 2,_=>rfl
   | 3,_=>rfl
   | 4,_=>rfl
   | 5,_=>rfl
   | 6,_=>rfl
   | 7,_=>rfl
   | 8,_=>rfl
   | 9,_=>rfl
   | 10,_=>rfl
   | i+11,hi=>exact absurd hi (by omega)
  case hinj =>
   intro i j hi hj _ h
   have h9:∀ i,i < 11→∀ j,j < 11→[some 35,some 36,some 37,some 38,some 39,some 34,some 40,some 41,some 11,none,some 12].getD i none=[some 35,some 36,some 37,some 38,some 39,some 34,some 40,some 41,some 11,none,some 12].getD j none→i=j:=by decide
   exact h9 i hi j hj h
  case hsome =>
   intro i hi hne
   have h9:∀ i,i < 11→i ≠ 9→[some 35,some 36,some 37,some 38,some 39,some 34,some 40,some 41,some 11,none,some 12].getD i none ≠ none:=by decide
   exact h9 i hi hne
  case hom =>
   intro i v w8 hl h
   match i,hl,h with
   | 0,hl,h=>trivial
   | 1,hl,h=>trivial
   | 2,hl,h=>trivial
   | 3,hl,h=>trivial
   | 4,hl,h=>trivial
   | 5,hl,h=>(obtain ⟨x1,x2,x3,x4,x5,x6,e9,-⟩:=h;exact ⟨_,e9⟩)
   | 6,hl,h=>trivial
   | 7,hl,h=>exact absurd hl (by decide)
   | 8,hl,h=>trivial
   | 9,hl,h=>trivial
   | 10,hl,h=>exact absurd hl (by decide)
   | _+11,hl,h=>trivial
  case stable =>
   intro i v w8 w9 hb h
   match i,hb,h with
   | 0,hb,h=>exact h
   | 1,hb,h=>exact h
   | 2,hb,h=>exact h
   | 3,hb,h=>exact h
   | 4,hb,h=>(obtain ⟨x1,x2,x3,x4,x5,x6,e9,o1,o2,o3,o4⟩:=h;exact ⟨x1,x2,x3,x4,x5,x6,e9,own_pass o1 hb,own_pass o2 hb,own_pass o3 hb,o4⟩)
   | 5,hb,h=>(obtain ⟨x1,x2,x3,x4,x5,x6,e9,o1,o2,o3,o4⟩:=h;exact ⟨x1,x2,x3,x4,x5,x6,e9,own_pass o1 hb,own_pass o2 hb,own_pass o3 hb,o4⟩)
   | 6,hb,h=>(obtain ⟨x1,x2,x3,x4,x5,x6,e9,o1,o2,o3,o4⟩:=h;exact ⟨x1,x2,x3,x4,x5,x6,e9,own_pass o1 hb,own_pass o2 hb,own_pass o3 hb,o4⟩)
   | 7,hb,h=>exact h
   | 8,hb,h=>(obtain ⟨N,e9,hN,hrw⟩:=h;exact ⟨N,e9,hN,(hb.block N (Array.getElem?_eq_some_iff.1 hrw).1).trans hrw⟩)
   | 9,hb,h=>trivial
   | 10,hb,h=>exact h
   | _+11,hb,h=>trivial
  case hpsi =>
   intro i hi hl uv v w8 h
   match i,hi,hl,h with
   | 0,_,hl,h=>exact absurd hl (by decide)
   | 1,_,hl,h=>exact absurd hl (by decide)
   | 2,_,hl,h=>exact absurd hl (by decide)
   | 3,_,hl,h=>exact absurd hl (by decide)
   | 4,_,hl,h=>exact absurd hl (by decide)
   | 5,_,hl,h=>exact absurd hl (by decide)
   | 6,_,hl,h=>exact absurd hl (by decide)
   | 7,_,hl,h=>exact h
   | 8,_,hl,h=>exact absurd hl (by decide)
   | 9,_,hl,h=>exact absurd hl (by decide)
   | 10,_,hl,h=>exact h
   | i+11,hi,_,_=>exact absurd hi (by omega)
  case step =>
   intro i hi hne hl uv w8 S8 hdep
   match i,hi,hne,hl,hdep with
   | 0,_,_,_,hdep =>
    clear hdep
    refine ⟨_,rfl,fun K' hK=>?_⟩
    obtain ⟨x0,x1,x2,x3,x4,x5⟩:=XC.out w8 S8
    go_simp
    exact hK.out _ _ (Below.refl _ _) (rfl)
   | 1,_,_,_,hdep =>
    clear hdep
    refine ⟨_,rfl,fun K' hK=>?_⟩
    obtain ⟨⟨q0,q1,q2,q3,q4,q5⟩,⟨y0,y1,y2,y3⟩,hn8,-,-⟩:=HC1.out w8 (HB.out.trans (S8.mono HB.out.size))
    go_simp
    exact hK.out _ _ (Below.refl _ _) (rfl)
   | 2,_,_,_,hdep =>
    have h1:(uv 36)=.agg #[.int .i64 kind,.int .i64 fr,.int .i64 pp,.int .i64 way]:=hdep 1 (by kernel_rfl) (by decide)
    clear hdep
    refine ⟨_,rfl,fun K' hK=>?_⟩
    simp only [h1] at hK ⊢
    go_simp
    refine (toProp kind fr pp way w8).mono ?_
    rintro e9 w9 ⟨rfl,hb9⟩
    exact hK.out _ _ hb9 rfl
   | 3,_,_,_,hdep =>
    clear hdep
    refine ⟨_,rfl,fun K' hK=>?_⟩
    go_simp
    exact hK.out _ _ (Below.refl _ _) (rfl)
   | 4,_,_,_,hdep =>
    have h0:(uv 35)=.agg #[.slice (some ⟨Nb 0,0,none⟩) (l 0) (l 0),.slice (some ⟨Nb 1,0,none⟩) (l 1) (l 1),.slice (some ⟨Nb 2,0,none⟩) (l 2) (l 2),.slice (some ⟨Nb 3,0,none⟩) (l 3) (l 3),.slice (some ⟨Nb 4,0,none⟩) (l 4) (l 4),.slice (some ⟨Nb 5,0,none⟩) (l 5) (l 5)]:=hdep 0 (by kernel_rfl) (by decide)
    have h2:(uv 37)=.agg #[.int .i64 kind,.int .i64 fr,.int .i64 pp,.int .i64 way]:=hdep 2 (by kernel_rfl) (by decide)
    have h3:(uv 38)=.int .i64 k:=hdep 3 (by kernel_rfl) (by decide)
    clear hdep
    refine ⟨_,rfl,fun K' hK=>?_⟩
    simp only [h0,h2,h3] at hK ⊢
    have hn9:=CBn.out w8 S8
    go_simp
    refine (HImpl.out w8 W6 Nb S8.size hn9).mono ?_
    rintro e9 w9 ⟨x1,x2,x3,x4,x5,x6,rfl,o1,o2,o3,o4,hb9⟩
    exact hK.out _ _ hb9 ⟨x1,x2,x3,x4,x5,x6,rfl,o1,o2,o3,o4⟩
   | 5,_,_,_,hdep =>
    have h4:∃ x1 x2 x3 x4 x5 x6,(uv 39)=.tuple #[.agg #[.bool hv,.int .i64 n,.slice x1 D.length x4,.slice x2 E.length x5,.slice x3 V.length x6,.int .i64 pt],.int .i64 C]∧OwnBools W6.heap.size w8 (.slice x1 D.length x4) D∧OwnInts W6.heap.size w8 (.slice x2 E.length x5) E∧OwnInts W6.heap.size w8 (.slice x3 V.length x6) V∧Ap (.slice x2 E.length x5) (.slice x3 V.length x6):=hdep 4 (by kernel_rfl) (by decide)
    clear hdep
    refine ⟨_,rfl,fun K' hK=>?_⟩
    obtain ⟨x1,x2,x3,x4,x5,x6,e9,o1,o2,o3,o4⟩:=h4
    simp only [e9] at hK ⊢
    go_simp
    exact hK.out _ _ (Below.refl _ _) (⟨x1,x2,x3,x4,x5,x6,rfl,o1,o2,o3,o4⟩)
   | 6,_,_,_,hdep =>
    have h5:∃ x1 x2 x3 x4 x5 x6,(uv 34)=.tuple #[.agg #[.bool hv,.int .i64 n,.slice x1 D.length x4,.slice x2 E.length x5,.slice x3 V.length x6,.int .i64 pt],.int .i64 C]∧OwnBools W6.heap.size w8 (.slice x1 D.length x4) D∧OwnInts W6.heap.size w8 (.slice x2 E.length x5) E∧OwnInts W6.heap.size w8 (.slice x3 V.length x6) V∧Ap (.slice x2 E.length x5) (.slice x3 V.length x6):=hdep 5 (by kernel_rfl) (by decide)
    clear hdep
    refine ⟨_,rfl,fun K' hK=>?_⟩
    obtain ⟨x1,x2,x3,x4,x5,x6,e9,o1,o2,o3,o4⟩:=h5
    simp only [e9] at hK ⊢
    go_simp
    exact hK.out _ _ (Below.refl _ _) (⟨x1,x2,x3,x4,x5,x6,rfl,o1,o2,o3,o4⟩)
   | 7,_,_,hl,_=>exact absurd hl (by decide)
   | 8,_,_,_,hdep =>
    clear hdep
    refine ⟨_,rfl,fun K' hK=>?_⟩
    go_simp
    exact hK.out _ _ Bl ⟨w8.heap.size,rfl,S8.size,World.alloc_heap_new w8 _⟩
   | 9,_,hne,_,_=>exact absurd rfl hne
   | 10,_,_,hl,_=>exact absurd hl (by decide)
   | i+11,hi,_,_,_=>exact absurd hi (by omega)
  case stepL =>
   intro i hi hne hl uv w8 hdep
   match i,hi,hne,hl,hdep with
   | 0,_,_,hl,_=>exact absurd hl (by decide)
   | 1,_,_,hl,_=>exact absurd hl (by decide)
   | 2,_,_,hl,_=>exact absurd hl (by decide)
   | 3,_,_,hl,_=>exact absurd hl (by decide)
   | 4,_,_,hl,_=>exact absurd hl (by decide)
   | 5,_,_,hl,_=>exact absurd hl (by decide)
   | 6,_,_,hl,_=>exact absurd hl (by decide)
   | 7,_,_,_,hdep =>
    have h5:∃ (vq:Value),(uv 34)=.tuple #[vq,.int .i64 C]:=hdep 5 (by kernel_rfl) (by decide)
    clear hdep
    refine ⟨_,rfl,fun K' hK=>?_⟩
    obtain ⟨vq,e9⟩:=h5
    simp only [e9] at hK ⊢
    go_simp
    exact hK.out _ rfl
   | 8,_,_,hl,_=>exact absurd hl (by decide)
   | 9,_,hne,_,_=>exact absurd rfl hne
   | 10,_,_,_,hdep =>
    have h7:(uv 41)=.int .i64 C:=hdep 7 (by kernel_rfl) (by decide)
    clear hdep
    refine ⟨_,rfl,fun K' hK=>?_⟩
    simp only [h7] at hK ⊢
    go_simp
    exact hK.out _ rfl
   | i+11,hi,_,_,_=>exact absurd hi (by omega)
  case store =>
   intro uv w8 S8 hdep
   have h6:∃ x1 x2 x3 x4 x5 x6,(uv 40)=.agg #[.bool hv,.int .i64 n,.slice x1 D.length x4,.slice x2 E.length x5,.slice x3 V.length x6,.int .i64 pt]∧OwnBools W6.heap.size w8 (.slice x1 D.length x4) D∧OwnInts W6.heap.size w8 (.slice x2 E.length x5) E∧OwnInts W6.heap.size w8 (.slice x3 V.length x6) V∧Ap (.slice x2 E.length x5) (.slice x3 V.length x6):=hdep 6 (by kernel_rfl) (by decide)
   have h8:∃ N:Nat,(uv 11)=.pointer (some ⟨N,0,none⟩)∧W6.heap.size≤N∧w8.heap[N]? = some (.cells #[.bool false,.int .i64 0,.slice none 0 0,.slice none 0 0,.slice none 0 0,.int .i64 0] 34 (0,0)):=hdep 8 (by kernel_rfl) (by decide)
   clear hdep
   refine ⟨_,rfl,fun K' hK=>?_⟩
   obtain ⟨x1,x2,x3,x4,x5,x6,e8,o1,o2,o3,o4⟩:=h6
   obtain ⟨N,e9,hN,hrw⟩:=h8
   have HP9:=e9
   obtain ⟨⟨n0,n1,n2,n3,n4,n5⟩,hlt⟩:=six_cells hrw
   have z0:=six_froz hrw 0
   have z1:=six_froz hrw 1
   have z2:=six_froz hrw 2
   have z3:=six_froz hrw 3
   have z4:=six_froz hrw 4
   have z5:=six_froz hrw 5
   simp only [e8,e9] at hK ⊢
   have hd6:=six_df w8 N (.bool hv) (.int .i64 n) (.slice x1 D.length x4) (.slice x2 E.length x5) (.slice x3 V.length x6) (.int .i64 pt)
   go_simp
   exact hK.out undef _ ⟨N,x1,x2,x3,x4,x5,x6,rfl,hN,six_block hrw,own_six o1 hrw (by decide),own_six o2 hrw (by decide),own_six o3 hrw (by decide),o4,hd6.os.trans S8.os,hd6.tape.trans S8.tape,hd6.output.trans S8.output,Nat.le_trans S8.size hd6.size,fun q hq=>(hd6.blk q (by have:=S8.size;omega) (by omega)).trans (S8.block q hq)⟩
  case fin =>
   intro uv wg hpsi hom
   have hsc:uv 12=.int .i64 C:=hom 10 (by decide) (by decide)
   obtain ⟨N1,b1,b2,b3,b4,b5,b6,hsw,hN,hrn,ho1,ho2,ho3,ho4,hb⟩:=hpsi
   simp only [hsc,hsw]
   have G0:=hid hrn
   have Y1:=hid ho1
   have Y2:=hid ho2
   have Y3:=hid ho3
   have HAp:=hid ho4
   have ZN1:Hid (W6.heap.size≤N1):=hid hN
   have HB:=hid (HB.out.trans (hb.mono HB.out.size))
   have W0:=hid ((hb.block _ (Array.getElem?_eq_some_iff.1 W0.out).1).trans W0.out)
   have X1:=hid (own_pass X1.out hb)
   have X2:=hid (own_pass X2.out hb)
   have X3:=hid (own_pass X3.out hb)
   have CB:=hid (CB.out.below hb)
   clear q0 q1 q2 q3 q4 q5 y0 y1 y2 y3 hz NW
   obtain ⟨⟨q0,q1,q2,q3,q4,q5⟩,⟨y0,y1,y2,y3⟩,hn,-,hz⟩:=HC1.out wg HB.out
   have NW:=hid hn
   clear hn
   have XK:Hid (∀ w8:World,Below wg.heap.size wg w8→(w8.cell? ⟨w6.heap.size,0,none⟩=some (.slice (some ⟨Nb 0,0,none⟩) (l 0) (l 0))∧w8.cell? ⟨w6.heap.size,1,none⟩=some (.slice (some ⟨Nb 1,0,none⟩) (l 1) (l 1))∧w8.cell? ⟨w6.heap.size,2,none⟩=some (.slice (some ⟨Nb 2,0,none⟩) (l 2) (l 2))∧w8.cell? ⟨w6.heap.size,3,none⟩=some (.slice (some ⟨Nb 3,0,none⟩) (l 3) (l 3))∧w8.cell? ⟨w6.heap.size,4,none⟩=some (.slice (some ⟨Nb 4,0,none⟩) (l 4) (l 4))∧w8.cell? ⟨w6.heap.size,5,none⟩=some (.slice (some ⟨Nb 5,0,none⟩) (l 5) (l 5)))):=hid (fun w8 h=>XC.out w8 (hb.trans (h.mono hb.size)))
   clear hrn ho1 ho2 ho3 ho4 hN hsc hsw hom hb CBn XC
   obtain ⟨⟨u0,u1,u2,u3,u4,u5⟩,ul⟩:=six_cells W0.out
   obtain ⟨⟨v0,v1,v2,v3,v4,v5⟩,vl⟩:=six_cells G0.out
   go_wp2_with fail
   refine (eq_ver hv n pt D E V b1 b2 b3 a1 a2 a3 b4 b5 b6 a4 a5 a6 wg (brow Y1.out) (row_of_own Y2.out) (row_of_own Y3.out) (brow X1.out) (row_of_own X2.out) (row_of_own X3.out)).mono ?_
   rintro e' w10 ⟨rfl,hb⟩
   clear u0 u1 u2 u3 u4 u5 ul v0 v1 v2 v3 v4 v5 vl
   have HB:=hid (HB.out.trans (hb.mono HB.out.size))
   have W0:=hid ((hb.block _ (Array.getElem?_eq_some_iff.1 W0.out).1).trans W0.out)
   have X1:=hid (own_pass X1.out hb)
   have X2:=hid (own_pass X2.out hb)
   have X3:=hid (own_pass X3.out hb)
   have CB:=hid (CB.out.below hb)
   have G0:=hid ((hb.block _ (Array.getElem?_eq_some_iff.1 G0.out).1).trans G0.out)
   have Y1:=hid (own_pass Y1.out hb)
   have Y2:=hid (own_pass Y2.out hb)
   have Y3:=hid (own_pass Y3.out hb)
   have XK:=hid (fun w8 (h9:Below w10.heap.size w10 w8)=>XK.out w8 (hb.trans (h9.mono hb.size)))
   clear q0 q1 q2 q3 q4 q5 y0 y1 y2 y3 hz NW
   obtain ⟨⟨q0,q1,q2,q3,q4,q5⟩,⟨y0,y1,y2,y3⟩,hn,-,hz⟩:=HC1.out w10 HB.out
   have NW:=hid hn
   clear hn
   clear hb
   obtain ⟨x0,x1,x2,x3,x4,x5⟩:=XK.out w10 (Below.refl _ _)
   go_wp2_with fail
   refine region_calm (fun ux=>⟨#[.agg #[.slice (p 0) (l 0) (c 0),.slice (p 1) (l 1) (c 1),.slice (p 2) (l 2) (c 2),.slice (p 3) (l 3) (c 3),.slice (p 4) (l 4) (c 4),.slice (p 5) (l 5) (c 5)],.agg #[.int .i64 kind,.int .i64 fr,.int .i64 pp,.int .i64 way],.int .i64 k,.pointer (some ⟨w.heap.size,0,none⟩),.pointer (some ⟨w.heap.size+1,0,none⟩),undef,.bool false,.int .i64 r,.pointer (some ⟨N0,0,none⟩),.int .i64 C,.pointer (some ⟨w6.heap.size,0,none⟩),.pointer (some ⟨N1,0,none⟩),.int .i64 C,undef,undef,undef,undef,undef,.agg #[.slice (p 0) (l 0) (c 0),.slice (p 1) (l 1) (c 1),.slice (p 2) (l 2) (c 2),.slice (p 3) (l 3) (c 3),.slice (p 4) (l 4) (c 4),.slice (p 5) (l 5) (c 5)],.int .i64 1048576,.int .i64 r,.int .i64 r,.bool (decide (r < 0)),uu 23,uu 24,uu 25,uu 26,uu 27,uu 28,uu 29,uu 30,uu 31,.agg #[.slice (p 0) (l 0) (c 0),.slice (p 1) (l 1) (c 1),.slice (p 2) (l 2) (c 2),.slice (p 3) (l 3) (c 3),.slice (p 4) (l 4) (c 4),.slice (p 5) (l 5) (c 5)],.agg #[.slice (some ⟨Nb 0,0,none⟩) (l 0) (l 0),.slice (some ⟨Nb 1,0,none⟩) (l 1) (l 1),.slice (some ⟨Nb 2,0,none⟩) (l 2) (l 2),.slice (some ⟨Nb 3,0,none⟩) (l 3) (l 3),.slice (some ⟨Nb 4,0,none⟩) (l 4) (l 4),.slice (some ⟨Nb 5,0,none⟩) (l 5) (l 5)],uv 34,uv 35,uv 36,uv 37,uv 38,uv 39,uv 40,uv 41,.agg #[.bool hv,.int .i64 n,.slice b1 D.length b4,.slice b2 E.length b5,.slice b3 V.length b6,.int .i64 pt],.agg #[.bool hv,.int .i64 n,.slice a1 D.length a4,.slice a2 E.length a5,.slice a3 V.length a6,.int .i64 pt],.bool true,.bool false,.bool false,.int .i64 C,.int .i64 C,.bool false,.bool false,ux 51,ux 52,ux 53,ux 54,ux 55,undef,undef,undef,undef,undef,undef,undef,undef,undef,undef,undef,undef,undef,undef,undef,undef,undef,undef,undef,undef,undef,undef,undef,undef,undef,undef,undef,undef,undef,undef,undef,undef,undef,undef,undef,undef,undef,undef,undef,undef,undef,undef,undef,undef,undef,undef,undef,undef,undef,undef,undef,undef,undef],[]⟩) (fun i=>[51,52,53,54,55].getD i 0) (fun i v w8=>match i with | 0=>v=.agg #[.slice (some ⟨Nb 0,0,none⟩) (l 0) (l 0),.slice (some ⟨Nb 1,0,none⟩) (l 1) (l 1),.slice (some ⟨Nb 2,0,none⟩) (l 2) (l 2),.slice (some ⟨Nb 3,0,none⟩) (l 3) (l 3),.slice (some ⟨Nb 4,0,none⟩) (l 4) (l 4),.slice (some ⟨Nb 5,0,none⟩) (l 5) (l 5)] | 1=>v=.agg #[.slice (p 0) (l 0) (c 0),.slice (p 1) (l 1) (c 1),.slice (p 2) (l 2) (c 2),.slice (p 3) (l 3) (c 3),.slice (p 4) (l 4) (c 4),.slice (p 5) (l 5) (c 5)] | 2=>∃ N:Nat→Nat,v=.agg #[.slice (some ⟨N 0,0,none⟩) (l 0) (l 0),.slice (some ⟨N 1,0,none⟩) (l 1) (l 1),.slice (some ⟨N 2,0,none⟩) (l 2) (l 2),.slice (some ⟨N 3,0,none⟩) (l 3) (l 3),.slice (some ⟨N 4,0,none⟩) (l 4) (l 4),.slice (some ⟨N 5,0,none⟩) (l 5) (l 5)]∧NetIs w8 (fun i=>some ⟨N i,0,none⟩) l s g o e x f | 3=>v=.bool true | 4=>v=.bool false | _=>True) w10 5 (fun k=>match k with | 51=>undef | 52=>undef | 53=>undef | 54=>undef | 55=>undef | _=>undef) (by rfl) (by kernel_rfl) (by rfl) (by kernel_rfl) (Below.refl _ _) ?hput ?hinj ?stable ?step ?fin
   case hput =>
    intro i hi ux v
    match i,hi with
    | 0,_=>rfl
    | 1,_=>rfl
    | 2,_=>rfl
    | 3,_=>rfl
    | 4,_=>rfl
    | i+5,hi=>exact absurd hi (by omega)
   case hinj =>
    intro i j hi hj h
    exact slots_inj [51,52,53,54,55] (by decide) hi hj h
   case stable =>
    intro i v w8 w9 hb h
    match i,hb,h with
    | 0,hb,h=>exact h
    | 1,hb,h=>exact h
    | 2,hb,h=>(obtain ⟨N,e9,h9⟩:=h;exact ⟨N,e9,h9.below hb⟩)
    | 3,hb,h=>exact h
    | 4,hb,h=>exact h
    | _+5,hb,h=>trivial
   case step =>
    intro i hi ux w8 S8 hdep
    match i,hi,hdep with
    | 0,_,hdep =>
     clear hdep
     refine ⟨_,rfl,fun K' hK=>?_⟩
     obtain ⟨x0,x1,x2,x3,x4,x5⟩:=XK.out w8 S8
     go_simp
     exact hK.out _ _ (Below.refl _ _) (rfl)
    | 1,_,hdep =>
     clear hdep
     refine ⟨_,rfl,fun K' hK=>?_⟩
     obtain ⟨⟨q0,q1,q2,q3,q4,q5⟩,-,hn8,-,-⟩:=HC1.out w8 (HB.out.trans (S8.mono HB.out.size))
     go_simp
     exact hK.out _ _ (Below.refl _ _) (rfl)
    | 2,_,hdep =>
     have h1:(ux 52)=.agg #[.slice (p 0) (l 0) (c 0),.slice (p 1) (l 1) (c 1),.slice (p 2) (l 2) (c 2),.slice (p 3) (l 3) (c 3),.slice (p 4) (l 4) (c 4),.slice (p 5) (l 5) (c 5)]:=hdep 1 (by kernel_rfl)
     clear hdep
     refine ⟨_,rfl,fun K' hK=>?_⟩
     obtain ⟨⟨q0,q1,q2,q3,q4,q5⟩,-,hn8,-,-⟩:=HC1.out w8 (HB.out.trans (S8.mono HB.out.size))
     simp only [h1] at hK ⊢
     go_simp
     refine (toNet p l c s g o e x f w8 hn8 HL.out).mono ?_
     rintro e9 w9 ⟨N9,rfl,hb9,hc9⟩
     exact hK.out _ _ hb9 ⟨N9,rfl,hc9.net HM.out HS.out HO.out HE.out⟩
    | 3,_,hdep =>
     have h0:(ux 51)=.agg #[.slice (some ⟨Nb 0,0,none⟩) (l 0) (l 0),.slice (some ⟨Nb 1,0,none⟩) (l 1) (l 1),.slice (some ⟨Nb 2,0,none⟩) (l 2) (l 2),.slice (some ⟨Nb 3,0,none⟩) (l 3) (l 3),.slice (some ⟨Nb 4,0,none⟩) (l 4) (l 4),.slice (some ⟨Nb 5,0,none⟩) (l 5) (l 5)]:=hdep 0 (by kernel_rfl)
     have h2:∃ N:Nat→Nat,(ux 53)=.agg #[.slice (some ⟨N 0,0,none⟩) (l 0) (l 0),.slice (some ⟨N 1,0,none⟩) (l 1) (l 1),.slice (some ⟨N 2,0,none⟩) (l 2) (l 2),.slice (some ⟨N 3,0,none⟩) (l 3) (l 3),.slice (some ⟨N 4,0,none⟩) (l 4) (l 4),.slice (some ⟨N 5,0,none⟩) (l 5) (l 5)]∧NetIs w8 (fun i=>some ⟨N i,0,none⟩) l s g o e x f:=hdep 2 (by kernel_rfl)
     clear hdep
     refine ⟨_,rfl,fun K' hK=>?_⟩
     obtain ⟨N9,e9,hn9⟩:=h2
     simp only [h0,e9] at hK ⊢
     have hn8:=(CB.out.below S8).net HM.out HS.out HO.out HE.out
     go_simp
     refine (eqNet (fun i=>some ⟨Nb i,0,none⟩) (fun i=>some ⟨N9 i,0,none⟩) l l l s g o e x f w8 hn8 hn9).mono ?_
     rintro e9 w9 ⟨rfl,hb9⟩
     exact hK.out _ _ hb9 rfl
    | 4,_,hdep =>
     have h3:(ux 54)=.bool true:=hdep 3 (by kernel_rfl)
     clear hdep
     refine ⟨_,rfl,fun K' hK=>?_⟩
     simp only [h3] at hK ⊢
     go_simp
     exact hK.out _ _ (Below.refl _ _) (rfl)
    | i+5,hi,_=>exact absurd hi (by omega)
   case fin =>
    intro ux w12 S8 hall
    have h4:(ux 55)=.bool false:=hall 4 (by decide)
    clear hall
    simp only [h4]
    have hb:=S8
    clear S8
    have HB:=hid (HB.out.trans (hb.mono HB.out.size))
    have W0:=hid ((hb.block _ (Array.getElem?_eq_some_iff.1 W0.out).1).trans W0.out)
    have X1:=hid (own_pass X1.out hb)
    have X2:=hid (own_pass X2.out hb)
    have X3:=hid (own_pass X3.out hb)
    have CB:=hid (CB.out.below hb)
    have G0:=hid ((hb.block _ (Array.getElem?_eq_some_iff.1 G0.out).1).trans G0.out)
    have Y1:=hid (own_pass Y1.out hb)
    have Y2:=hid (own_pass Y2.out hb)
    have Y3:=hid (own_pass Y3.out hb)
    have XK:=hid (fun w8 (h9:Below w12.heap.size w12 w8)=>XK.out w8 (hb.trans (h9.mono hb.size)))
    clear q0 q1 q2 q3 q4 q5 y0 y1 y2 y3 hz NW
    obtain ⟨⟨q0,q1,q2,q3,q4,q5⟩,⟨y0,y1,y2,y3⟩,hn,-,hz⟩:=HC1.out w12 HB.out
    have NW:=hid hn
    clear hn
    clear hb h4
    obtain ⟨x0,x1,x2,x3,x4,x5⟩:=XK.out w12 (Below.refl _ _)
    have zz:w6.heap.size < w12.heap.size:=World.block_lt_of_cell? _ _ x0
    go_wp2_with fail
    refine (mark_net _ Nb l s g o e x f _ CB.out HL.out).mono ?_
    rintro e' w17 ⟨r17,rfl,hr17,hr17',hch⟩
    clear x0 x1 x2 x3 x4 x5 zz
    have hdn:Df (Ns Nb) w12 w17:=⟨hch.os,hch.tape,hch.output,hch.size,hch.block⟩
    have lowN:Hid (∀ q,q < wf.heap.size→¬ Ns Nb q):=hid (fun q hq=>nil_ns (a:=0) (b:=0) NL.out.2.1 (.inl (by have:=NL.out.1;omega)))
    have highN:Hid (∀ q,W6.heap.size≤q→¬ Ns Nb q):=hid (fun q hq=>nil_ns (a:=0) (b:=0) NL.out.2.1 (.inr (by have:=NL.out.2.2;have:=ZW6.out;omega)))
    have HB:Hid (Below ((w.alloc (.cells #[.slice (p 0) (l 0) (c 0),.slice (p 1) (l 1) (c 1),.slice (p 2) (l 2) (c 2),.slice (p 3) (l 3) (c 3),.slice (p 4) (l 4) (c 4),.slice (p 5) (l 5) (c 5)] 28)).alloc (.cells #[.int .i64 kind,.int .i64 fr,.int .i64 pp,.int .i64 way] 30)).heap.size ((w.alloc (.cells #[.slice (p 0) (l 0) (c 0),.slice (p 1) (l 1) (c 1),.slice (p 2) (l 2) (c 2),.slice (p 3) (l 3) (c 3),.slice (p 4) (l 4) (c 4),.slice (p 5) (l 5) (c 5)] 28)).alloc (.cells #[.int .i64 kind,.int .i64 fr,.int .i64 pp,.int .i64 way] 30)) w17):=hid (Ch.below HB.out hch (fun q hq=>by have:=ns_low NL.out.2.1 NL.out.1 hq;have:=HBf.out;have:=ZF.out;omega))
    have W0:=hid (hdn.keeps W0.out (lowN.out _ ZN0.out))
    have G0:=hid (hdn.keeps G0.out (highN.out _ ZN1.out))
    have X1:=hid (own_df X1.out hdn (fun q hq=>lowN.out _ (XL1.out q hq)))
    have X2:=hid (own_df X2.out hdn (fun q hq=>lowN.out _ (XL2.out q hq)))
    have X3:=hid (own_df X3.out hdn (fun q hq=>lowN.out _ (XL3.out q hq)))
    have Y1:=hid (own_df Y1.out hdn (fun q hq=>highN.out _ (World.ownsRow.lt Y1.out q hq).1))
    have Y2:=hid (own_df Y2.out hdn (fun q hq=>highN.out _ (World.ownsRow.lt Y2.out q hq).1))
    have Y3:=hid (own_df Y3.out hdn (fun q hq=>highN.out _ (World.ownsRow.lt Y3.out q hq).1))
    clear hch hdn CB XK
    clear q0 q1 q2 q3 q4 q5 y0 y1 y2 y3 hz NW
    obtain ⟨⟨q0,q1,q2,q3,q4,q5⟩,⟨y0,y1,y2,y3⟩,hn,-,hz⟩:=HC1.out w17 HB.out
    have NW:=hid hn
    clear hn
    have k0:decide (r17 < 0)=false:=decide_eq_false (by omega)
    obtain ⟨⟨u0,u1,u2,u3,u4,u5⟩,ul⟩:=six_cells W0.out
    obtain ⟨⟨v0,v1,v2,v3,v4,v5⟩,vl⟩:=six_cells G0.out
    go_wp2_with fail
    refine (eq_ver hv n pt D E V b1 b2 b3 a1 a2 a3 b4 b5 b6 a4 a5 a6 w17 (brow Y1.out) (row_of_own Y2.out) (row_of_own Y3.out) (brow X1.out) (row_of_own X2.out) (row_of_own X3.out)).mono ?_
    rintro e' w20 ⟨rfl,hb⟩
    clear u0 u1 u2 u3 u4 u5 ul v0 v1 v2 v3 v4 v5 vl k0
    have HB:=hid (HB.out.trans (hb.mono HB.out.size))
    have W0:=hid ((hb.block _ (Array.getElem?_eq_some_iff.1 W0.out).1).trans W0.out)
    have X1:=hid (own_pass X1.out hb)
    have X2:=hid (own_pass X2.out hb)
    have X3:=hid (own_pass X3.out hb)
    have G0:=hid ((hb.block _ (Array.getElem?_eq_some_iff.1 G0.out).1).trans G0.out)
    have Y1:=hid (own_pass Y1.out hb)
    have Y2:=hid (own_pass Y2.out hb)
    have Y3:=hid (own_pass Y3.out hb)
    clear q0 q1 q2 q3 q4 q5 y0 y1 y2 y3 hz NW
    obtain ⟨⟨q0,q1,q2,q3,q4,q5⟩,⟨y0,y1,y2,y3⟩,hn,-,hz⟩:=HC1.out w20 HB.out
    have NW:=hid hn
    clear hn
    clear hb
    obtain ⟨⟨v0,v1,v2,v3,v4,v5⟩,vl⟩:=six_cells G0.out
    go_wp2_with fail
    refine (mark_ver W6.heap.size hv n pt D E V b1 b2 b3 b4 b5 b6 1 w20 Y1.out Y2.out Y3.out HAp.out (by omega) (by omega) lD lE lV).mono ?_
    rintro e' w21 ⟨rfl,m1,m2,m3,hdm⟩
    clear v0 v1 v2 v3 v4 v5 vl
    have hlow:∀ q,((Value.slice b1 D.length b4).ownBlock=some q ∨ (Value.slice b2 E.length b5).ownBlock=some q ∨ (Value.slice b3 V.length b6).ownBlock=some q)→W6.heap.size≤q:=fun q hq=>by
     rcases hq with h | h | h
     · exact (World.ownsRow.lt Y1.out q h).1
     · exact (World.ownsRow.lt Y2.out q h).1
     · exact (World.ownsRow.lt Y3.out q h).1
    have HB:Hid (Below ((w.alloc (.cells #[.slice (p 0) (l 0) (c 0),.slice (p 1) (l 1) (c 1),.slice (p 2) (l 2) (c 2),.slice (p 3) (l 3) (c 3),.slice (p 4) (l 4) (c 4),.slice (p 5) (l 5) (c 5)] 28)).alloc (.cells #[.int .i64 kind,.int .i64 fr,.int .i64 pp,.int .i64 way] 30)).heap.size ((w.alloc (.cells #[.slice (p 0) (l 0) (c 0),.slice (p 1) (l 1) (c 1),.slice (p 2) (l 2) (c 2),.slice (p 3) (l 3) (c 3),.slice (p 4) (l 4) (c 4),.slice (p 5) (l 5) (c 5)] 28)).alloc (.cells #[.int .i64 kind,.int .i64 fr,.int .i64 pp,.int .i64 way] 30)) w21):=hid (HB.out.trans ⟨hdm.os,hdm.tape,hdm.output,hdm.size,fun q hq=>hdm.blk q (by have:=HB.out.size;omega) (fun h=>by have:=hlow q h;have:=HB6s.out;omega)⟩)
    have W0:=hid (hdm.keeps W0.out (fun h=>by have:=hlow _ h;have:=ZN0.out;have:=Z6.out;have:=ZW6.out;omega))
    have G0:=hid (hdm.keeps G0.out (fun h=>by
     rcases h with h | h | h
     · exact own_ne Y1.out G0.out (by decide) h
     · exact own_ne Y2.out G0.out (by decide) h
     · exact own_ne Y3.out G0.out (by decide) h))
    have X1:=hid (own_df X1.out hdm (fun q hq h=>by have:=hlow q h;have:=XL1.out q hq;have:=Z6.out;have:=ZW6.out;omega))
    have X2:=hid (own_df X2.out hdm (fun q hq h=>by have:=hlow q h;have:=XL2.out q hq;have:=Z6.out;have:=ZW6.out;omega))
    have X3:=hid (own_df X3.out hdm (fun q hq h=>by have:=hlow q h;have:=XL3.out q hq;have:=Z6.out;have:=ZW6.out;omega))
    have M1:=hid m1
    have M2:=hid m2
    have M3:=hid m3
    clear Y1 Y2 Y3 hdm hlow m1 m2 m3
    clear q0 q1 q2 q3 q4 q5 y0 y1 y2 y3 hz NW
    obtain ⟨⟨q0,q1,q2,q3,q4,q5⟩,⟨y0,y1,y2,y3⟩,hn,-,hz⟩:=HC1.out w21 HB.out
    have NW:=hid hn
    clear hn
    have hq1:((1:Int)+(D.length:Int)+(E.length:Int)+(V.length:Int) != (1:Int)+(D.length:Int)+(E.length:Int)+(V.length:Int))=false:=by simp
    have hq2:decide ((1:Int)+(D.length:Int)+(E.length:Int)+(V.length:Int) < 0)=false:=decide_eq_false (by omega)
    obtain ⟨⟨v0,v1,v2,v3,v4,v5⟩,vl⟩:=six_cells G0.out
    go_wp2_with fail
    refine (held_ver hv n pt D E V b1 b2 b3 b4 b5 b6 1 w21 (brow M1.out) (row_of_own M2.out) (row_of_own M3.out) (by omega) (by omega) lD lE lV).mono ?_
    rintro e' w22 ⟨rfl,hb⟩
    clear v0 v1 v2 v3 v4 v5 vl
    have HB:=hid (HB.out.trans (hb.mono HB.out.size))
    have W0:=hid ((hb.block _ (Array.getElem?_eq_some_iff.1 W0.out).1).trans W0.out)
    have X1:=hid (own_pass X1.out hb)
    have X2:=hid (own_pass X2.out hb)
    have X3:=hid (own_pass X3.out hb)
    have G0:=hid ((hb.block _ (Array.getElem?_eq_some_iff.1 G0.out).1).trans G0.out)
    have M1:=hid (own_pass M1.out hb)
    have M2:=hid (own_pass M2.out hb)
    have M3:=hid (own_pass M3.out hb)
    clear q0 q1 q2 q3 q4 q5 y0 y1 y2 y3 hz NW
    obtain ⟨⟨q0,q1,q2,q3,q4,q5⟩,⟨y0,y1,y2,y3⟩,hn,-,hz⟩:=HC1.out w22 HB.out
    have NW:=hid hn
    clear hn
    clear hb
    go_wp2_with fail
    refine region_mk (fun uw=>⟨#[.agg #[.slice (p 0) (l 0) (c 0),.slice (p 1) (l 1) (c 1),.slice (p 2) (l 2) (c 2),.slice (p 3) (l 3) (c 3),.slice (p 4) (l 4) (c 4),.slice (p 5) (l 5) (c 5)],.agg #[.int .i64 kind,.int .i64 fr,.int .i64 pp,.int .i64 way],.int .i64 k,.pointer (some ⟨w.heap.size,0,none⟩),.pointer (some ⟨w.heap.size+1,0,none⟩),undef,.bool false,.int .i64 r,.pointer (some ⟨N0,0,none⟩),.int .i64 C,.pointer (some ⟨w6.heap.size,0,none⟩),.pointer (some ⟨N1,0,none⟩),.int .i64 C,.int .i64 r17,.int .i64 (1 + ↑D.length + ↑E.length + ↑V.length),.int .i64 (1 + ↑D.length + ↑E.length + ↑V.length),uw 16,uw 17,.agg #[.slice (p 0) (l 0) (c 0),.slice (p 1) (l 1) (c 1),.slice (p 2) (l 2) (c 2),.slice (p 3) (l 3) (c 3),.slice (p 4) (l 4) (c 4),.slice (p 5) (l 5) (c 5)],.int .i64 1048576,.int .i64 r,.int .i64 r,.bool (decide (r < 0)),uu 23,uu 24,uu 25,uu 26,uu 27,uu 28,uu 29,uu 30,uu 31,.agg #[.slice (p 0) (l 0) (c 0),.slice (p 1) (l 1) (c 1),.slice (p 2) (l 2) (c 2),.slice (p 3) (l 3) (c 3),.slice (p 4) (l 4) (c 4),.slice (p 5) (l 5) (c 5)],.agg #[.slice (some ⟨Nb 0,0,none⟩) (l 0) (l 0),.slice (some ⟨Nb 1,0,none⟩) (l 1) (l 1),.slice (some ⟨Nb 2,0,none⟩) (l 2) (l 2),.slice (some ⟨Nb 3,0,none⟩) (l 3) (l 3),.slice (some ⟨Nb 4,0,none⟩) (l 4) (l 4),.slice (some ⟨Nb 5,0,none⟩) (l 5) (l 5)],uv 34,uv 35,uv 36,uv 37,uv 38,uv 39,uv 40,uv 41,.agg #[.bool hv,.int .i64 n,.slice b1 D.length b4,.slice b2 E.length b5,.slice b3 V.length b6,.int .i64 pt],.agg #[.bool hv,.int .i64 n,.slice a1 D.length a4,.slice a2 E.length a5,.slice a3 V.length a6,.int .i64 pt],.bool true,.bool false,.bool false,.int .i64 C,.int .i64 C,.bool false,.bool false,ux 51,ux 52,ux 53,ux 54,.bool false,.agg #[.slice (some ⟨Nb 0,0,none⟩) (l 0) (l 0),.slice (some ⟨Nb 1,0,none⟩) (l 1) (l 1),.slice (some ⟨Nb 2,0,none⟩) (l 2) (l 2),.slice (some ⟨Nb 3,0,none⟩) (l 3) (l 3),.slice (some ⟨Nb 4,0,none⟩) (l 4) (l 4),.slice (some ⟨Nb 5,0,none⟩) (l 5) (l 5)],.int .i64 1,.int .i64 r17,.int .i64 r17,.bool false,.bool false,.agg #[.bool hv,.int .i64 n,.slice b1 D.length b4,.slice b2 E.length b5,.slice b3 V.length b6,.int .i64 pt],.agg #[.bool hv,.int .i64 n,.slice a1 D.length a4,.slice a2 E.length a5,.slice a3 V.length a6,.int .i64 pt],.bool true,.bool false,.bool false,.bool false,.int .i64 C,.int .i64 C,.bool false,.bool false,.agg #[.bool hv,.int .i64 n,.slice b1 D.length b4,.slice b2 E.length b5,.slice b3 V.length b6,.int .i64 pt],.int .i64 1,.int .i64 (1 + ↑D.length + ↑E.length + ↑V.length),.agg #[.bool hv,.int .i64 n,.slice b1 D.length b4,.slice b2 E.length b5,.slice b3 V.length b6,.int .i64 pt],.int .i64 1,.int .i64 (1 + ↑D.length + ↑E.length + ↑V.length),.int .i64 (1 + ↑D.length + ↑E.length + ↑V.length),.bool false,.int .i64 (1 + ↑D.length + ↑E.length + ↑V.length),.int .i64 (1 + ↑D.length + ↑E.length + ↑V.length),.bool false,uw 83,uw 84,uw 85,uw 86,uw 87,uw 88,uw 89,uw 90,uw 91,undef,undef,undef,undef,undef,undef,undef,undef,undef,undef,undef,undef,undef,undef,undef,undef,undef],[]⟩) (fun i=>[some 84,some 85,some 86,some 87,some 88,some 89,some 83,some 90,some 91,some 16,none,some 17].getD i none) (fun i v w8=>match i with | 0=>v=.agg #[.slice (p 0) (l 0) (c 0),.slice (p 1) (l 1) (c 1),.slice (p 2) (l 2) (c 2),.slice (p 3) (l 3) (c 3),.slice (p 4) (l 4) (c 4),.slice (p 5) (l 5) (c 5)] | 1=>∃ N:Nat→Nat,v=.agg #[.slice (some ⟨N 0,0,none⟩) (l 0) (l 0),.slice (some ⟨N 1,0,none⟩) (l 1) (l 1),.slice (some ⟨N 2,0,none⟩) (l 2) (l 2),.slice (some ⟨N 3,0,none⟩) (l 3) (l 3),.slice (some ⟨N 4,0,none⟩) (l 4) (l 4),.slice (some ⟨N 5,0,none⟩) (l 5) (l 5)]∧NetIs w8 (fun i=>some ⟨N i,0,none⟩) l s g o e x f | 2=>v=.agg #[.int .i64 kind,.int .i64 fr,.int .i64 pp,.int .i64 way] | 3=>v=.agg #[.int .i64 kind,.int .i64 fr,.int .i64 pp,.int .i64 way] | 4=>v=.int .i64 k | 5=>∃ x1 x2 x3 x4 x5 x6,v=.tuple #[.agg #[.bool hv,.int .i64 n,.slice x1 D.length x4,.slice x2 E.length x5,.slice x3 V.length x6,.int .i64 pt],.int .i64 C]∧OwnBools w22.heap.size w8 (.slice x1 D.length x4) D∧OwnInts w22.heap.size w8 (.slice x2 E.length x5) E∧OwnInts w22.heap.size w8 (.slice x3 V.length x6) V | 6=>∃ x1 x2 x3 x4 x5 x6,v=.tuple #[.agg #[.bool hv,.int .i64 n,.slice x1 D.length x4,.slice x2 E.length x5,.slice x3 V.length x6,.int .i64 pt],.int .i64 C]∧OwnBools w22.heap.size w8 (.slice x1 D.length x4) D∧OwnInts w22.heap.size w8 (.slice x2 E.length x5) E∧OwnInts w22.heap.size w8 (.slice x3 V.length x6) V | 7=>∃ x1 x2 x3 x4 x5 x6,v=.agg #[.bool hv,.int .i64 n,.slice x1 D.length x4,.slice x2 E.length x5,.slice x3 V.length x6,.int .i64 pt]∧OwnBools w22.heap.size w8 (.slice x1 D.length x4) D∧OwnInts w22.heap.size w8 (.slice x2 E.length x5) E∧OwnInts w22.heap.size w8 (.slice x3 V.length x6) V | 8=>True | 9=>∃ N:Nat,v=.pointer (some ⟨N,0,none⟩)∧w22.heap.size≤N∧w8.heap[N]? = some (.cells #[.bool false,.int .i64 0,.slice none 0 0,.slice none 0 0,.slice none 0 0,.int .i64 0] 34 (0,0)) | 11=>True | _=>True) (fun i v=>match i with | 6=>∃ (vq:Value),v=.tuple #[vq,.int .i64 C] | 8=>v=.int .i64 C | 11=>v=.int .i64 C | _=>True) (fun uw w8=>∃ (N:Nat) (x1 x2 x3:Option Addr) (x4 x5 x6:Nat),uw 16=.pointer (some ⟨N,0,none⟩)∧w22.heap.size≤N∧w8.heap[N]? = some (.cells #[.bool hv,.int .i64 n,.slice x1 D.length x4,.slice x2 E.length x5,.slice x3 V.length x6,.int .i64 pt] 34 (0,0))∧OwnBools w22.heap.size w8 (.slice x1 D.length x4) D∧OwnInts w22.heap.size w8 (.slice x2 E.length x5) E∧OwnInts w22.heap.size w8 (.slice x3 V.length x6) V∧Below w22.heap.size w22 w8) w22 12 10 (fun i=>decide (i=8) || decide (i=11)) (fun k=>match k with | 84=>undef | 85=>undef | 86=>undef | 87=>undef | 88=>undef | 89=>undef | 83=>undef | 90=>undef | 91=>undef | 16=>undef | 17=>undef | _=>undef) (by rfl) (by kernel_rfl) (by rfl) (by kernel_rfl) (by decide) rfl (by kernel_rfl) (Below.refl _ _) ?hput ?hinj ?hsome ?hom ?stable ?hpsi ?step ?stepL ?store ?fin
    case hput =>
     intro i hi uw v
     match i,hi with
     | 0,_=>rfl
     | 1,_=>rfl
     | 2,_=>rfl
     | 3,_=>rfl
     | 4,_=>rfl
     | 5,_=>rfl
     | 6,_=>rfl
     | 7,_=>rfl
     | 8,_=>rfl
     | 9,_=>rfl
     | 10,_=>rfl
     | 11,_=>rfl
     | i+12,hi=>exact absurd hi (by omega)
    case hinj =>
     intro i j hi hj _ h
     have h9:∀ i,i < 12→∀ j,j < 12→[some 84,some 85,some 86,some 87,some 88,some 89,some 83,some 90,some 91,some 16,none,some 17].getD i none=[some 84,some 85,some 86,some 87,some 88,some 89,some 83,some 90,some 91,some 16,none,some 17].getD j none→i=j:=by decide
     exact h9 i hi j hj h
    case hsome =>
     intro i hi hne
     have h9:∀ i,i < 12→i ≠ 10→[some 84,some 85,some 86,some 87,some 88,some 89,some 83,some 90,some 91,some 16,none,some 17].getD i none ≠ none:=by decide
     exact h9 i hi hne
    case hom =>
     intro i v w8 hl h
     match i,hl,h with
     | 0,hl,h=>trivial
     | 1,hl,h=>trivial
     | 2,hl,h=>trivial
     | 3,hl,h=>trivial
     | 4,hl,h=>trivial
     | 5,hl,h=>trivial
     | 6,hl,h=>(obtain ⟨x1,x2,x3,x4,x5,x6,e9,-⟩:=h;exact ⟨_,e9⟩)
     | 7,hl,h=>trivial
     | 8,hl,h=>exact absurd hl (by decide)
     | 9,hl,h=>trivial
     | 10,hl,h=>trivial
     | 11,hl,h=>exact absurd hl (by decide)
     | _+12,hl,h=>trivial
    case stable =>
     intro i v w8 w9 hb h
     match i,hb,h with
     | 0,hb,h=>exact h
     | 1,hb,h=>(obtain ⟨N,e9,h9⟩:=h;exact ⟨N,e9,h9.below hb⟩)
     | 2,hb,h=>exact h
     | 3,hb,h=>exact h
     | 4,hb,h=>exact h
     | 5,hb,h=>(obtain ⟨x1,x2,x3,x4,x5,x6,e9,o1,o2,o3⟩:=h;exact ⟨x1,x2,x3,x4,x5,x6,e9,own_pass o1 hb,own_pass o2 hb,own_pass o3 hb⟩)
     | 6,hb,h=>(obtain ⟨x1,x2,x3,x4,x5,x6,e9,o1,o2,o3⟩:=h;exact ⟨x1,x2,x3,x4,x5,x6,e9,own_pass o1 hb,own_pass o2 hb,own_pass o3 hb⟩)
     | 7,hb,h=>(obtain ⟨x1,x2,x3,x4,x5,x6,e9,o1,o2,o3⟩:=h;exact ⟨x1,x2,x3,x4,x5,x6,e9,own_pass o1 hb,own_pass o2 hb,own_pass o3 hb⟩)
     | 8,hb,h=>exact h
     | 9,hb,h=>(obtain ⟨N,e9,hN,hrw⟩:=h;exact ⟨N,e9,hN,(hb.block N (Array.getElem?_eq_some_iff.1 hrw).1).trans hrw⟩)
     | 10,hb,h=>trivial
     | 11,hb,h=>exact h
     | _+12,hb,h=>trivial
    case hpsi =>
     intro i hi hl uw v w8 h
     match i,hi,hl,h with
     | 0,_,hl,h=>exact absurd hl (by decide)
     | 1,_,hl,h=>exact absurd hl (by decide)
     | 2,_,hl,h=>exact absurd hl (by decide)
     | 3,_,hl,h=>exact absurd hl (by decide)
     | 4,_,hl,h=>exact absurd hl (by decide)
     | 5,_,hl,h=>exact absurd hl (by decide)
     | 6,_,hl,h=>exact absurd hl (by decide)
     | 7,_,hl,h=>exact absurd hl (by decide)
     | 8,_,hl,h=>exact h
     | 9,_,hl,h=>exact absurd hl (by decide)
     | 10,_,hl,h=>exact absurd hl (by decide)
     | 11,_,hl,h=>exact h
     | i+12,hi,_,_=>exact absurd hi (by omega)
    case step =>
     intro i hi hne hl uw w8 S8 hdep
     match i,hi,hne,hl,hdep with
     | 0,_,_,_,hdep =>
      clear hdep
      refine ⟨_,rfl,fun K' hK=>?_⟩
      obtain ⟨⟨q0,q1,q2,q3,q4,q5⟩,⟨y0,y1,y2,y3⟩,hn8,-,-⟩:=HC1.out w8 (HB.out.trans (S8.mono HB.out.size))
      go_simp
      exact hK.out _ _ (Below.refl _ _) (rfl)
     | 1,_,_,_,hdep =>
      have h0:(uw 84)=.agg #[.slice (p 0) (l 0) (c 0),.slice (p 1) (l 1) (c 1),.slice (p 2) (l 2) (c 2),.slice (p 3) (l 3) (c 3),.slice (p 4) (l 4) (c 4),.slice (p 5) (l 5) (c 5)]:=hdep 0 (by kernel_rfl) (by decide)
      clear hdep
      refine ⟨_,rfl,fun K' hK=>?_⟩
      obtain ⟨⟨q0,q1,q2,q3,q4,q5⟩,⟨y0,y1,y2,y3⟩,hn8,-,-⟩:=HC1.out w8 (HB.out.trans (S8.mono HB.out.size))
      simp only [h0] at hK ⊢
      go_simp
      refine (toNet p l c s g o e x f w8 hn8 HL.out).mono ?_
      rintro e9 w9 ⟨N9,rfl,hb9,hc9⟩
      exact hK.out _ _ hb9 ⟨N9,rfl,hc9.net HM.out HS.out HO.out HE.out⟩
     | 2,_,_,_,hdep =>
      clear hdep
      refine ⟨_,rfl,fun K' hK=>?_⟩
      obtain ⟨⟨q0,q1,q2,q3,q4,q5⟩,⟨y0,y1,y2,y3⟩,hn8,-,-⟩:=HC1.out w8 (HB.out.trans (S8.mono HB.out.size))
      go_simp
      exact hK.out _ _ (Below.refl _ _) (rfl)
     | 3,_,_,_,hdep =>
      have h2:(uw 86)=.agg #[.int .i64 kind,.int .i64 fr,.int .i64 pp,.int .i64 way]:=hdep 2 (by kernel_rfl) (by decide)
      clear hdep
      refine ⟨_,rfl,fun K' hK=>?_⟩
      simp only [h2] at hK ⊢
      go_simp
      refine (toProp kind fr pp way w8).mono ?_
      rintro e9 w9 ⟨rfl,hb9⟩
      exact hK.out _ _ hb9 rfl
     | 4,_,_,_,hdep =>
      clear hdep
      refine ⟨_,rfl,fun K' hK=>?_⟩
      go_simp
      exact hK.out _ _ (Below.refl _ _) (rfl)
     | 5,_,_,_,hdep =>
      have h1:∃ N:Nat→Nat,(uw 85)=.agg #[.slice (some ⟨N 0,0,none⟩) (l 0) (l 0),.slice (some ⟨N 1,0,none⟩) (l 1) (l 1),.slice (some ⟨N 2,0,none⟩) (l 2) (l 2),.slice (some ⟨N 3,0,none⟩) (l 3) (l 3),.slice (some ⟨N 4,0,none⟩) (l 4) (l 4),.slice (some ⟨N 5,0,none⟩) (l 5) (l 5)]∧NetIs w8 (fun i=>some ⟨N i,0,none⟩) l s g o e x f:=hdep 1 (by kernel_rfl) (by decide)
      have h3:(uw 87)=.agg #[.int .i64 kind,.int .i64 fr,.int .i64 pp,.int .i64 way]:=hdep 3 (by kernel_rfl) (by decide)
      have h4:(uw 88)=.int .i64 k:=hdep 4 (by kernel_rfl) (by decide)
      clear hdep
      refine ⟨_,rfl,fun K' hK=>?_⟩
      obtain ⟨N9,e9,hn9⟩:=h1
      simp only [e9,h3,h4] at hK ⊢
      go_simp
      refine (HImpl.out w8 w22 N9 S8.size hn9).mono ?_
      rintro e9 w9 ⟨x1,x2,x3,x4,x5,x6,rfl,o1,o2,o3,-,hb9⟩
      exact hK.out _ _ hb9 ⟨x1,x2,x3,x4,x5,x6,rfl,o1,o2,o3⟩
     | 6,_,_,_,hdep =>
      have h5:∃ x1 x2 x3 x4 x5 x6,(uw 89)=.tuple #[.agg #[.bool hv,.int .i64 n,.slice x1 D.length x4,.slice x2 E.length x5,.slice x3 V.length x6,.int .i64 pt],.int .i64 C]∧OwnBools w22.heap.size w8 (.slice x1 D.length x4) D∧OwnInts w22.heap.size w8 (.slice x2 E.length x5) E∧OwnInts w22.heap.size w8 (.slice x3 V.length x6) V:=hdep 5 (by kernel_rfl) (by decide)
      clear hdep
      refine ⟨_,rfl,fun K' hK=>?_⟩
      obtain ⟨x1,x2,x3,x4,x5,x6,e9,o1,o2,o3⟩:=h5
      simp only [e9] at hK ⊢
      go_simp
      exact hK.out _ _ (Below.refl _ _) (⟨x1,x2,x3,x4,x5,x6,rfl,o1,o2,o3⟩)
     | 7,_,_,_,hdep =>
      have h6:∃ x1 x2 x3 x4 x5 x6,(uw 83)=.tuple #[.agg #[.bool hv,.int .i64 n,.slice x1 D.length x4,.slice x2 E.length x5,.slice x3 V.length x6,.int .i64 pt],.int .i64 C]∧OwnBools w22.heap.size w8 (.slice x1 D.length x4) D∧OwnInts w22.heap.size w8 (.slice x2 E.length x5) E∧OwnInts w22.heap.size w8 (.slice x3 V.length x6) V:=hdep 6 (by kernel_rfl) (by decide)
      clear hdep
      refine ⟨_,rfl,fun K' hK=>?_⟩
      obtain ⟨x1,x2,x3,x4,x5,x6,e9,o1,o2,o3⟩:=h6
      simp only [e9] at hK ⊢
      go_simp
      exact hK.out _ _ (Below.refl _ _) (⟨x1,x2,x3,x4,x5,x6,rfl,o1,o2,o3⟩)
     | 8,_,_,hl,_=>exact absurd hl (by decide)
     | 9,_,_,_,hdep =>
      clear hdep
      refine ⟨_,rfl,fun K' hK=>?_⟩
      go_simp
      exact hK.out _ _ Bl ⟨w8.heap.size,rfl,S8.size,World.alloc_heap_new w8 _⟩
     | 10,_,hne,_,_=>exact absurd rfl hne
     | 11,_,_,hl,_=>exact absurd hl (by decide)
     | i+12,hi,_,_,_=>exact absurd hi (by omega)
    case stepL =>
     intro i hi hne hl uw w8 hdep
     match i,hi,hne,hl,hdep with
     | 0,_,_,hl,_=>exact absurd hl (by decide)
     | 1,_,_,hl,_=>exact absurd hl (by decide)
     | 2,_,_,hl,_=>exact absurd hl (by decide)
     | 3,_,_,hl,_=>exact absurd hl (by decide)
     | 4,_,_,hl,_=>exact absurd hl (by decide)
     | 5,_,_,hl,_=>exact absurd hl (by decide)
     | 6,_,_,hl,_=>exact absurd hl (by decide)
     | 7,_,_,hl,_=>exact absurd hl (by decide)
     | 8,_,_,_,hdep =>
      have h6:∃ (vq:Value),(uw 83)=.tuple #[vq,.int .i64 C]:=hdep 6 (by kernel_rfl) (by decide)
      clear hdep
      refine ⟨_,rfl,fun K' hK=>?_⟩
      obtain ⟨vq,e9⟩:=h6
      simp only [e9] at hK ⊢
      go_simp
      exact hK.out _ rfl
     | 9,_,_,hl,_=>exact absurd hl (by decide)
     | 10,_,hne,_,_=>exact absurd rfl hne
     | 11,_,_,_,hdep =>
      have h8:(uw 91)=.int .i64 C:=hdep 8 (by kernel_rfl) (by decide)
      clear hdep
      refine ⟨_,rfl,fun K' hK=>?_⟩
      simp only [h8] at hK ⊢
      go_simp
      exact hK.out _ rfl
     | i+12,hi,_,_,_=>exact absurd hi (by omega)
    case store =>
     intro uw w8 S8 hdep
     have h7:∃ x1 x2 x3 x4 x5 x6,(uw 90)=.agg #[.bool hv,.int .i64 n,.slice x1 D.length x4,.slice x2 E.length x5,.slice x3 V.length x6,.int .i64 pt]∧OwnBools w22.heap.size w8 (.slice x1 D.length x4) D∧OwnInts w22.heap.size w8 (.slice x2 E.length x5) E∧OwnInts w22.heap.size w8 (.slice x3 V.length x6) V:=hdep 7 (by kernel_rfl) (by decide)
     have h9:∃ N:Nat,(uw 16)=.pointer (some ⟨N,0,none⟩)∧w22.heap.size≤N∧w8.heap[N]? = some (.cells #[.bool false,.int .i64 0,.slice none 0 0,.slice none 0 0,.slice none 0 0,.int .i64 0] 34 (0,0)):=hdep 9 (by kernel_rfl) (by decide)
     clear hdep
     refine ⟨_,rfl,fun K' hK=>?_⟩
     obtain ⟨x1,x2,x3,x4,x5,x6,e8,o1,o2,o3⟩:=h7
     obtain ⟨N,e9,hN,hrw⟩:=h9
     have HP9:=e9
     obtain ⟨⟨n0,n1,n2,n3,n4,n5⟩,hlt⟩:=six_cells hrw
     have z0:=six_froz hrw 0
     have z1:=six_froz hrw 1
     have z2:=six_froz hrw 2
     have z3:=six_froz hrw 3
     have z4:=six_froz hrw 4
     have z5:=six_froz hrw 5
     simp only [e8,e9] at hK ⊢
     have hd6:=six_df w8 N (.bool hv) (.int .i64 n) (.slice x1 D.length x4) (.slice x2 E.length x5) (.slice x3 V.length x6) (.int .i64 pt)
     go_simp
     exact hK.out undef _ ⟨N,x1,x2,x3,x4,x5,x6,rfl,hN,six_block hrw,own_six o1 hrw (by decide),own_six o2 hrw (by decide),own_six o3 hrw (by decide),hd6.os.trans S8.os,hd6.tape.trans S8.tape,hd6.output.trans S8.output,Nat.le_trans S8.size hd6.size,fun q hq=>(hd6.blk q (by have:=S8.size;omega) (by omega)).trans (S8.block q hq)⟩
    case fin =>
     intro uw wh hpsi hom
     have hsc:uw 17=.int .i64 C:=hom 11 (by decide) (by decide)
     obtain ⟨N2,d1,d2,d3,d4,d5,d6,hsw,hN,hrn,ho1,ho2,ho3,hb⟩:=hpsi
     simp only [hsc,hsw]
     have T0:=hid hrn
     have T1:=hid ho1
     have T2:=hid ho2
     have T3:=hid ho3
     have HB:=hid (HB.out.trans (hb.mono HB.out.size))
     have W0:=hid ((hb.block _ (Array.getElem?_eq_some_iff.1 W0.out).1).trans W0.out)
     have X1:=hid (own_pass X1.out hb)
     have X2:=hid (own_pass X2.out hb)
     have X3:=hid (own_pass X3.out hb)
     have G0:=hid ((hb.block _ (Array.getElem?_eq_some_iff.1 G0.out).1).trans G0.out)
     have M1:=hid (own_pass M1.out hb)
     have M2:=hid (own_pass M2.out hb)
     have M3:=hid (own_pass M3.out hb)
     clear q0 q1 q2 q3 q4 q5 y0 y1 y2 y3 hz NW
     obtain ⟨⟨q0,q1,q2,q3,q4,q5⟩,⟨y0,y1,y2,y3⟩,hn,-,hz⟩:=HC1.out wh HB.out
     have NW:=hid hn
     clear hn
     clear hrn ho1 ho2 ho3 hN hsc hsw hom hb
     obtain ⟨⟨u0,u1,u2,u3,u4,u5⟩,ul⟩:=six_cells W0.out
     obtain ⟨⟨v0,v1,v2,v3,v4,v5⟩,vl⟩:=six_cells T0.out
     go_wp2_with fail
     refine (eq_ver hv n pt D E V d1 d2 d3 a1 a2 a3 d4 d5 d6 a4 a5 a6 wh (brow T1.out) (row_of_own T2.out) (row_of_own T3.out) (brow X1.out) (row_of_own X2.out) (row_of_own X3.out)).mono ?_
     rintro e' w27 ⟨rfl,hb⟩
     clear u0 u1 u2 u3 u4 u5 ul v0 v1 v2 v3 v4 v5 vl
     have HB:=hid (HB.out.trans (hb.mono HB.out.size))
     have W0:=hid ((hb.block _ (Array.getElem?_eq_some_iff.1 W0.out).1).trans W0.out)
     have X1:=hid (own_pass X1.out hb)
     have X2:=hid (own_pass X2.out hb)
     have X3:=hid (own_pass X3.out hb)
     have G0:=hid ((hb.block _ (Array.getElem?_eq_some_iff.1 G0.out).1).trans G0.out)
     have M1:=hid (own_pass M1.out hb)
     have M2:=hid (own_pass M2.out hb)
     have M3:=hid (own_pass M3.out hb)
     clear q0 q1 q2 q3 q4 q5 y0 y1 y2 y3 hz NW
     obtain ⟨⟨q0,q1,q2,q3,q4,q5⟩,⟨y0,y1,y2,y3⟩,hn,-,hz⟩:=HC1.out w27 HB.out
     have NW:=hid hn
     clear hn
     clear hb
     obtain ⟨⟨v0,v1,v2,v3,v4,v5⟩,vl⟩:=six_cells G0.out
     go_wp2_with fail
     refine (held_ver hv n pt D E V b1 b2 b3 b4 b5 b6 1 w27 (brow M1.out) (row_of_own M2.out) (row_of_own M3.out) (by omega) (by omega) lD lE lV).mono ?_
     rintro e' w28 ⟨rfl,hb⟩
     clear v0 v1 v2 v3 v4 v5 vl
     have HB:=hid (HB.out.trans (hb.mono HB.out.size))
     clear hb
     go_wp2
     go_ret
     exact ⟨rfl,(HC1.out _ HB.out).2.2.2.1⟩
theorem own : ownKnob Tryz.prog.godebug=none := by kernel_rfl
theorem laidOut : laidOutB Tryz.prog=true := by kernel_rfl
set_option maxRecDepth 100000 in
theorem lifted (os : Os) (started : os.Started) (H : Type) (enc : TypeId × Value→H) :
  ReturnsInHanded {} Tryz.checked os 3 .any (Rows.fnExactVerifySpec.pre6 enc Tryz.prog Tryz.f3 Rows.fnExactVerifyRow.domain false) (Rows.fnExactVerifySpec.post enc Tryz.prog Tryz.f3 false true false false):=by
 refine returnsInHanded_of_change (C:=Tryz.checked) own started (by kernel_rfl) Tryz.func3
  (ChangeSpec.witness6 (enc:=enc) (C:=Tryz.checked) false ⟨#[],#[.agg #[.slice none 0 0,.slice none 0 0,.slice none 0 0,.slice none 0 0,.slice none 0 0,.slice none 0 0],.agg #[.int .i64 0,.int .i64 0,.int .i64 0,.int .i64 0],.int .i64 0],[]⟩ 8 (by kernel_rfl) (by kernel_rfl) (by kernel_rfl) (by kernel_rfl)) ?_
 intro W base args ds gs before hval0 hW hcnd _
 have hval:∀ (j:Nat) t v,Tryz.f3.params[j]? = some t→args[j]? = some v→Value.okWide Tryz.prog W .any base t v:=hval0
 have hW' := hW
 obtain ⟨p,q,hA0,hV,rfl,hfz,hnd⟩:=hW
 have hA:DataW.TrodAll enc Tryz.prog W 0 (fun _=>true) true Tryz.f3.params.toList args.toList ds p:=hA0
 rw [Tryz.params3] at hA hval
 obtain ⟨v0,vs0,d0,ds0,p0,q0,hargs,rfl,rfl,h0,r0⟩:=trodAll_cons hA
 obtain ⟨v1,vs1,d1,ds1,p1,q1,rfl,rfl,rfl,h1,r1⟩:=trodAll_cons r0
 obtain ⟨v2,vs2,d2,ds2,p2,q2,rfl,rfl,rfl,h2,r2⟩:=trodAll_cons r1
 obtain ⟨rfl,rfl,rfl⟩:=trodAll_nil r2
 obtain rfl:args=#[v0,v1,v2]:=by cases args;simp_all
 obtain ⟨rfl,rfl⟩:=trodVars_none hV
 have k0:=h0
 have lt0:∀ x ∈ p0,x.block < W.heap.size:=by obtain ⟨m,hm⟩:=k0;exact DataW.trod_lt m _ _ _ hm
 have k1:=h1
 have lt1:∀ x ∈ p1,x.block < W.heap.size:=by obtain ⟨m,hm⟩:=k1;exact DataW.trod_lt m _ _ _ hm
 have k2:=h2
 have lt2:∀ x ∈ p2,x.block < W.heap.size:=by obtain ⟨m,hm⟩:=k2;exact DataW.trod_lt m _ _ _ hm
 obtain ⟨p,l,c,s,g,o,e,x,f,rfl,hnet⟩:=net_of_trod (hval 0 28 v0 rfl rfl) h0
 obtain ⟨kind,fr,pp,way,rfl⟩:=prop_of_trod (hval 1 30 v1 rfl rfl) h1
 obtain ⟨k,rfl⟩:=okWide_int Tryz.underlying3 (hval 2 3 v2 rfl rfl)
 clear hA0 hval0
 refine (walk p l c s g o e x f kind fr pp way k W hnet).mono fun e W' ⟨he,bel⟩=>?_
 subst he
 exact ⟨_,rfl,_,_,_,[],_,[],hW',trodAll_mk1 (shut_bool Tryz.underlying4 _),(trodAll_cons_mk (Below.trod laidOut (by kernel_rfl) (of_decide_eq_true (by kernel_rfl)) k0 bel lt0) (trodAll_cons_mk (Below.trod laidOut (by kernel_rfl) (of_decide_eq_true (by kernel_rfl)) k1 bel lt1) (trodAll_cons_mk (Below.trod laidOut (by kernel_rfl) (of_decide_eq_true (by kernel_rfl)) k2 bel lt2) trodAll_mk0))),rfl,bel.frame _,fun h=>by cases h⟩
theorem over : Rows.fnExactVerifyRow.holds Tryz.pinned (OpenSpec.ofChange Rows.fnExactVerifySpec) :=
 OpenClaim.holds_of_wide 3 Tryz.f3 rfl rfl rfl rfl rfl rfl rfl ⟨rfl,rfl,rfl,rfl,rfl⟩ rfl rfl rfl rfl rfl (by kernel_rfl) Tryz.func3 (by kernel_rfl)
  (of_decide_eq_true (by kernel_rfl)) (by unfold Func.isWrapper;first | (rw [if_pos (by decide +kernel)];kernel_rfl) | (rw [if_neg (by decide +kernel)];exact ⟨rfl,rfl⟩))
  (fun os started H enc _=>lifted os started H enc)
end Go.Proofs.YtajhklklbfnmpaaGreat.fnExactVerify
namespace Go.Proofs.YtajhklklbfnmpaaGreat
theorem fnExactVerify_holds : Rows.FnExactVerifySaid := fnExactVerify.over
end Go.Proofs.YtajhklklbfnmpaaGreat
