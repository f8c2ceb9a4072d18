import Derived.Test.YthompjbplddkgaaGreatDoorVerSpec
import Derived.Test.YthompjbplddkgaaGreatDoorPart36
set_option linter.unusedVariables false
namespace Go.Proofs.YthompjbplddkgaaGreatDoor.askVer
open Go.RowKit Go.Deep Go base copy names netSem netImpl netSpec routeRow nbSem candSem prodSem ssSem rofSem downsSpec envsSpec verSem verSpec propSem rtsRow faultSpec rowsOwn
open sceneFace (net_links link_facts import_facts)
theorem downs_few (L k:Nat) (hL:L≤6) (hk:k≤2):(downsL L (k+1)).length≤300:=by
 have h1:=downsL_len L (k+1)
 have h2:2 ^ L≤2 ^ 6:=Nat.pow_le_pow_right (by decide) hL
 have h3:(k+1)*2 ^ L≤3*64:=Nat.mul_le_mul (by omega) h2
 omega
theorem downs_len {L k:Nat} {d:List Bool} (h:d∈downsL L k):d.length=L:=by
 unfold downsL downsAt at h
 obtain ⟨s,_,h⟩:=List.mem_flatMap.1 h
 obtain ⟨m,_,rfl⟩:=List.mem_map.1 (List.mem_filter.1 h).1
 exact bitsD_len L m
theorem envs_few (n:Nat) (hn:n≤4):(prod (fun _=>[0,1,2]) n).length≤100:=by
 have h1:(prod (fun _=>[0,1,2]) n).length=3 ^ n:=prod_len3 n
 have h2:3 ^ n≤3 ^ 4:=Nat.pow_le_pow_right (by decide) hn
 omega
theorem envs_in {n:Nat} {env:List Int} (h:env∈prod (fun _=>[0,1,2]) n):∀ i,0≤zAt env i∧zAt env i≤2:=fun i=>by
 by_cases hi:i<n
 · have:=prod_in h i hi
   simp only [List.mem_cons,List.not_mem_nil,or_false] at this
   omega
 · unfold zAt
   rw [List.getElem?_eq_none (by have:=prod_len h;omega)]
   simp
variable {g : R} {og ex : List Int} {x : R} {l : Nat→Nat}
def stS (g : R) (og ex : List Int) (x : R) (l : Nat→Nat) (d : List Bool) (env : List Int) : List (List Rt) := statesL g (l 1) og ex x (l 4) env d (l 0) (prod (fun i : Nat=>optL g (l 1) og ex env d (l 0) (i : Int)) (l 0))
theorem opt_few (g:R) (nl:Nat) (o e env:List Int) (ds:List Bool) (n:Nat) (i:Int):(optL g nl o e env ds n i).length≤3+n:=by
 have h1:(ownV o i).length≤1:=by unfold ownV;split <;> simp
 have h2:(extV e env i).length≤1:=by unfold extV;split <;> simp
 have h3:(nbL g nl ds i n).length≤n:=by
  unfold nbL
  rw [List.length_map]
  exact Nat.le_trans (List.length_filter_le _ _) (by simp)
 unfold optL
 split <;> simp only [List.length_append,List.length_cons,List.length_nil] <;> omega
theorem st_few (h4:l 0≤4) (d:List Bool) (env:List Int):(stS g og ex x l d env).length≤3000:=by
 unfold stS statesL
 rw [List.length_map]
 have h1:=List.length_filter_le (goodB g (l 1) og ex x (l 4) env d (l 0)) (prod (fun i:Nat=>optL g (l 1) og ex env d (l 0) (i:Int)) (l 0))
 have h2:=prod_size (A:=fun i:Nat=>optL g (l 1) og ex env d (l 0) (i:Int)) (M:=7) (l 0) (fun i _=>Nat.le_trans (opt_few _ _ _ _ _ _ _ _) (by omega))
 have h3:7 ^ (l 0)≤7 ^ 4:=Nat.pow_le_pow_right (by decide) h4
 omega
theorem st_len {d : List Bool} {env : List Int} : ∀ s∈stS g og ex x l d env,s.length=l 0 := fun s hs=>by
 unfold stS statesL at hs
 obtain ⟨v,_,rfl⟩:=List.mem_map.1 hs
 unfold stateOf
 simp
theorem trips_few (k:Nat) (h4:l 0≤4) (hL:l 1≤6) (hE:l 3≤4) (hk:k≤2):(trips (stS g og ex x l) (downsL (l 1) (k+1)) (prod (fun _=>[0,1,2]) (l 3))).length≤90000000:=by
 have h1:=trips_len (stS g og ex x l) 3000 (fun d e=>st_few h4 d e) (downsL (l 1) (k+1)) (prod (fun _=>[0,1,2]) (l 3))
 have h2:(downsL (l 1) (k+1)).length*((prod (fun _=>[0,1,2]) (l 3)).length*3000)≤300*(100*3000):=Nat.mul_le_mul (downs_few _ _ hL hk) (Nat.mul_le_mul (envs_few _ hE) (Nat.le_refl _))
 omega
theorem prop_facts {ok:Bool} {r:Nat} {kind fr pp way:Int} (h:propB ok r kind fr pp way=true):ok=true∧0≤fr∧fr<r∧-1≤pp∧pp≤15:=by
 unfold propB inB at h
 simp only [Bool.and_eq_true,decide_eq_true_eq] at h
 obtain ⟨⟨⟨⟨h1,h2⟩,h3⟩,h4⟩,h5⟩:=h
 exact ⟨h1,by omega,by omega,by omega,by omega⟩
theorem net_few {s:Ss} {f:R} (h:netB l s g og ex x f=true):1≤l 0∧l 1≤6∧l 3≤2:=by
 have h1:=(propSem.netB_in h).1
 unfold netB linksB at h
 simp only [Bool.and_eq_true,decide_eq_true_eq] at h
 obtain ⟨⟨⟨⟨⟨⟨_,h2⟩,_⟩,_⟩,h3⟩,_⟩,_⟩:=h
 exact ⟨h1,h2.1,h3⟩
theorem vias_map {st:List Rt} {n:Nat} (h:st.length=n):viasSpec.viasL (rtsRow.rF st) n=st.map (·.via):=by
 rw [← h]
 unfold viasSpec.viasL rtsRow.rF
 apply List.ext_getElem?
 intro i
 rw [List.getElem?_map,List.getElem?_map]
 by_cases hi:i<st.length
 · rw [List.getElem?_range hi,List.getElem?_eq_getElem hi]
   simp [List.getElem?_eq_getElem hi]
 · rw [List.getElem?_eq_none (by simpa using hi),List.getElem?_eq_none (by omega)]
   rfl
structure SaysV (l : Nat→Nat) (hv : Bool) (n : Int) (D : List Bool) (E V : List Int) (pt : Int) : Prop where
 n0:0≤n
 n1:n≤90000001
 d:hv=false→D.length=l 1
 e:hv=false→E.length=l 3
 v:hv=false→V.length=l 0
 ez:∀ i,0≤zAt E i∧zAt E i≤2
 vz:hv=false→∀ i,-3≤zAt V i∧zAt V i<l 0
 p0:0≤pt
 p1:pt≤15
 emp:hv=true→D.length=0∧E.length=0∧V.length=0
def VerV (hv : Bool) (n : Int) (D : List Bool) (E V : List Int) (pt : Int) (x1 x2 x3 : Option Addr) (x4 x5 x6 : Nat) : Value := .agg #[.bool hv,.int .i64 n,.slice x1 D.length x4,.slice x2 E.length x5,.slice x3 V.length x6,.int .i64 pt]
theorem says_of {w':World} {B k:Nat} {fa:List Rt→Int} {v:Value} (hN:(trips (stS g og ex x l) (downsL (l 1) k) (prod (fun _=>[0,1,2]) (l 3))).length≤90000000) (hn1:1≤l 0) (hvb:∀ d e,d∈downsL (l 1) k→e∈prod (fun _=>[0,1,2]) (l 3)→∀ st∈stS g og ex x l d e,∀ i,i<l 0→-3≤(rF st i).via∧(rF st i).via<l 0) (hfa:∀ s,0≤fa s→fa s≤15) (h:IsVer w' B (stS g og ex x l) (downsL (l 1) k) (prod (fun _=>[0,1,2]) (l 3)) fa v) :
  ∃ hv n D E V pt x1 x2 x3 x4 x5 x6,v=VerV hv n D E V pt x1 x2 x3 x4 x5 x6∧SaysV l hv n D E V pt∧OwnBools B w' (.slice x1 D.length x4) D∧OwnInts B w' (.slice x2 E.length x5) E∧OwnInts B w' (.slice x3 V.length x6) V:=by
 have hz0:∀ i,zAt [] i=0:=fun i=>by simp [zAt]
 rcases h with ⟨_,h⟩|⟨pre,d,e,s,rest,dv,ev,vv,t1,t2,t3,rfl,o1,o2,o3⟩
 · exact ⟨true,_,[],[],[],0,none,none,none,0,0,0,h,⟨by omega,by omega,by simp,by simp,by simp,fun i=>by rw [hz0];omega,by simp,by omega,by omega,fun _=>⟨rfl,rfl,rfl⟩⟩,World.ownsRow_nil _ _ _ _,World.ownsRow_nil _ _ _ _,World.ownsRow_nil _ _ _ _⟩
 · have hm:(d,e,s)∈trips (stS g og ex x l) (downsL (l 1) k) (prod (fun _=>[0,1,2]) (l 3)):=by rw [t1];simp
   have hpre:pre.length+1≤90000000:=by rw [t1] at hN;simp only [List.length_append,List.length_cons] at hN;omega
   have hm2:=hm
   unfold trips rowT at hm2
   obtain ⟨d',hd,hm2⟩:=List.mem_flatMap.1 hm2
   obtain ⟨e',he,hm2⟩:=List.mem_flatMap.1 hm2
   obtain ⟨s',hs,hm2⟩:=List.mem_map.1 hm2
   simp only [Prod.mk.injEq] at hm2
   obtain ⟨rfl,rfl,rfl⟩:=hm2
   obtain ⟨x1,y1,e1⟩:=bools_form o1
   obtain ⟨x2,y2,e2,-⟩:=OwnInts.form o2
   obtain ⟨x3,y3,e3,-⟩:=OwnInts.form o3
   subst e1
   subst e2
   subst e3
   have hsl:=st_len s' hs
   have hf0:=of_decide_eq_true t3
   refine ⟨false,_,d',e',s'.map (·.via),fa s',x1,x2,x3,y1,y2,y3,rfl,⟨by omega,by omega,fun _=>downs_len hd,fun _=>prod_len he,fun _=>by rw [List.length_map];exact hsl,envs_in he,fun _ i=>?_,hf0,hfa _ hf0,fun h9=>by cases h9⟩,o1,o2,o3⟩
   by_cases hi:i<l 0
   · have:=hvb d' e' hd he s' hs i hi
     unfold rF at this
     unfold zAt
     rw [List.getElem?_map]
     rw [List.getElem?_eq_getElem (by omega)] at this ⊢
     exact this
   · unfold zAt
     rw [List.getElem?_eq_none (by rw [List.length_map];omega)]
     simp only [Option.getD_none]
     omega
theorem fa_most {rs : Rs} {f : R} {m rl : Nat} {kind pp way : Int} {fr : Nat} : faultAt rs f m rl kind pp way fr≤15 := by
 have:=(firstAt_bounds (badAt rs f m rl kind pp way fr) 16).2
 unfold faultAt
 omega
theorem via_of {s:Ss} {f:R} (hb:netB l s g og ex x f=true) {d:List Bool} {env:List Int} {st:List Rt} (he:env∈prod (fun _=>[0,1,2]) (l 3)) (h:st∈stS g og ex x l d env):walkSem.Viable (rF st) (l 0):=by
 obtain ⟨_,vs,hf⟩:=walkMath.state_fine hb (fun i=>(envs_in he i).1) h
 exact (routesB.routes_viable hf.right).2
set_option maxRecDepth 100000 in
set_option maxHeartbeats 6400000 in
theorem verify_right (p:Nat→Option Addr) (l c:Nat→Nat) (s:Ss) (g:R) (og ex:List Int) (x f:R) (kind fr pp way:Int) (kN:Nat) (w:World) (h:NetIs w p l s g og ex x f) (hc0:l 0≤c 0) (hc1:l 1≤c 1) (hok:propB (netB l s g og ex x f) (l 0) kind fr pp way=true) (hk1:kN≤1) :
  Calls Tryz.prog 8 #[netV p l c,.agg #[.int .i64 kind,.int .i64 fr,.int .i64 pp,.int .i64 way],.int .i64 (kN:Int)] w fun e' w'=>∃ hv n D E V pt x1 x2 x3 x4 x5 x6,e' = .returned (.tuple #[VerV hv n D E V pt x1 x2 x3 x4 x5 x6,.int .i64 0])∧SaysV l hv n D E V pt∧OwnBools w.heap.size w' (.slice x1 D.length x4) D∧OwnInts w.heap.size w' (.slice x2 E.length x5) E∧OwnInts w.heap.size w' (.slice x3 V.length x6) V∧Below w.heap.size w w' := by
 have HN:=hid h
 have HP:Hid (∀ W:World,Below w.heap.size w W→Calls Tryz.prog 11 #[netV p l c,.agg #[.int .i64 kind,.int .i64 fr,.int .i64 pp,.int .i64 way]] W fun e' w'=>e' = .returned (.bool true)∧Below W.heap.size W w'):=hid (fun W hb=>by have:=propSpec.prop_spec p l c s g og ex x f kind fr pp way W (h.below hb) hc0 hc1;rw [hok] at this;exact this)
 have HOK:=hid hok
 obtain ⟨fa,hfa⟩:∃ fa:List Rt→Int,(fun st=>faultAt (rF st) f (l 5) (l 0) kind pp way fr.toNat)=fa:=⟨_,rfl⟩
 have HFa:Hid (∀ st,faultAt (rF st) f (l 5) (l 0) kind pp way fr.toNat=fa st):=hid (fun st=>by rw [← hfa])
 clear hok hfa h
 have C1:∀ w8:World,Below (((w.alloc (.cells #[.slice (p 0) (l 0) (c 0),.slice (p 1) (l 1) (c 1),.slice (p 2) (l 2) (c 2),.slice (p 3) (l 3) (c 3),.slice (p 4) (l 4) (c 4),.slice (p 5) (l 5) (c 5)] 29)).alloc (.cells #[.int .i64 kind,.int .i64 fr,.int .i64 pp,.int .i64 way] 33)).alloc (.cells #[.bool false,.int .i64 0,.slice none 0 0,.slice none 0 0,.slice none 0 0,.int .i64 0] 38)).heap.size (((w.alloc (.cells #[.slice (p 0) (l 0) (c 0),.slice (p 1) (l 1) (c 1),.slice (p 2) (l 2) (c 2),.slice (p 3) (l 3) (c 3),.slice (p 4) (l 4) (c 4),.slice (p 5) (l 5) (c 5)] 29)).alloc (.cells #[.int .i64 kind,.int .i64 fr,.int .i64 pp,.int .i64 way] 33)).alloc (.cells #[.bool false,.int .i64 0,.slice none 0 0,.slice none 0 0,.slice none 0 0,.int .i64 0] 38)) w8→(w8.cell? ⟨w.heap.size,0,none⟩=some (.slice (p 0) (l 0) (c 0))∧w8.cell? ⟨w.heap.size,1,none⟩=some (.slice (p 1) (l 1) (c 1))∧w8.cell? ⟨w.heap.size,2,none⟩=some (.slice (p 2) (l 2) (c 2))∧w8.cell? ⟨w.heap.size,3,none⟩=some (.slice (p 3) (l 3) (c 3))∧w8.cell? ⟨w.heap.size,4,none⟩=some (.slice (p 4) (l 4) (c 4))∧w8.cell? ⟨w.heap.size,5,none⟩=some (.slice (p 5) (l 5) (c 5))∧w8.cell? ⟨w.heap.size+1,0,none⟩=some (.int .i64 kind)∧w8.cell? ⟨w.heap.size+1,1,none⟩=some (.int .i64 fr)∧w8.cell? ⟨w.heap.size+1,2,none⟩=some (.int .i64 pp)∧w8.cell? ⟨w.heap.size+1,3,none⟩=some (.int .i64 way))∧w8.heap[w.heap.size+2]? = some (.cells #[.bool false,.int .i64 0,.slice none 0 0,.slice none 0 0,.slice none 0 0,.int .i64 0] 38 (0,0))∧Below w.heap.size w w8∧w.heap.size+3≤w8.heap.size:=fun w8 hb=>by
  refine ⟨⟨keep hb (by simp [go_sem]),keep hb (by simp [go_sem]),keep hb (by simp [go_sem]),keep hb (by simp [go_sem]),keep hb (by simp [go_sem]),keep hb (by simp [go_sem]),keep hb (by simp [go_sem]),keep hb (by simp [go_sem]),keep hb (by simp [go_sem]),keep hb (by simp [go_sem])⟩,?_,(show Below w.heap.size w _ from Bl).trans (hb.mono (by simp;omega)),by have:=hb.size;simpa using this⟩
  have h9:=heap_alloc_new ((w.alloc (.cells #[.slice (p 0) (l 0) (c 0),.slice (p 1) (l 1) (c 1),.slice (p 2) (l 2) (c 2),.slice (p 3) (l 3) (c 3),.slice (p 4) (l 4) (c 4),.slice (p 5) (l 5) (c 5)] 29)).alloc (.cells #[.int .i64 kind,.int .i64 fr,.int .i64 pp,.int .i64 way] 33)) (.cells #[.bool false,.int .i64 0,.slice none 0 0,.slice none 0 0,.slice none 0 0,.int .i64 0] 38)
  rw [show ((w.alloc (.cells #[.slice (p 0) (l 0) (c 0),.slice (p 1) (l 1) (c 1),.slice (p 2) (l 2) (c 2),.slice (p 3) (l 3) (c 3),.slice (p 4) (l 4) (c 4),.slice (p 5) (l 5) (c 5)] 29)).alloc (.cells #[.int .i64 kind,.int .i64 fr,.int .i64 pp,.int .i64 way] 33)).heap.size=w.heap.size+2 by simp] at h9
  exact (hb.block _ (by simp)).trans h9
 have HC1:=hid C1
 clear C1
 unfold netV at HP ⊢
 go_enter Tryz.func8,Tryz.ntmps8
 go_wp2_with fail
 refine (HP.out _ Bl).mono ?_
 rintro e1 w1 ⟨rfl,hb1⟩
 obtain ⟨⟨q0,q1,q2,q3,q4,q5,q6,q7,q8,q9⟩,hres,hB1,hz1⟩:=HC1.out _ hb1
 have B1:=hid hB1
 have HRes:=hid hres
 have r0:w1.cell? ⟨w.heap.size+2,0,none⟩=some (.bool false):=by simp [World.cell?,hres]
 have z0:w1.frozen? ⟨w.heap.size+2,0,none⟩=false:=by simp [World.frozen?,hres]
 have r1:w1.cell? ⟨w.heap.size+2,1,none⟩=some (.int .i64 0):=by simp [World.cell?,hres]
 have z1:w1.frozen? ⟨w.heap.size+2,1,none⟩=false:=by simp [World.frozen?,hres]
 have r2:w1.cell? ⟨w.heap.size+2,2,none⟩=some (.slice none 0 0):=by simp [World.cell?,hres]
 have z2:w1.frozen? ⟨w.heap.size+2,2,none⟩=false:=by simp [World.frozen?,hres]
 have r3:w1.cell? ⟨w.heap.size+2,3,none⟩=some (.slice none 0 0):=by simp [World.cell?,hres]
 have z3:w1.frozen? ⟨w.heap.size+2,3,none⟩=false:=by simp [World.frozen?,hres]
 have r4:w1.cell? ⟨w.heap.size+2,4,none⟩=some (.slice none 0 0):=by simp [World.cell?,hres]
 have z4:w1.frozen? ⟨w.heap.size+2,4,none⟩=false:=by simp [World.frozen?,hres]
 have r5:w1.cell? ⟨w.heap.size+2,5,none⟩=some (.int .i64 0):=by simp [World.cell?,hres]
 have z5:w1.frozen? ⟨w.heap.size+2,5,none⟩=false:=by simp [World.frozen?,hres]
 clear hb1 hB1 hres HC1
 have HIn:Hid (∀ W:World,Calls Tryz.prog 21 #[.int .i64 (kN:Int),.int .i64 0,.int .i64 2] W fun e w'=>e=.returned (.bool true)∧w' = W):=hid (fun W=>by have:=in_spec (kN:Int) 0 2 W;rw [show inB (kN:Int) 0 2=true by unfold inB;exact decide_eq_true (by omega)] at this;exact this)
 go_wp2_with fail
 refine (HIn.out _).mono ?_
 rintro e2 w2 ⟨rfl,hw2⟩
 have hw2:=hw2.symm
 subst hw2
 obtain ⟨hok,hf0,hf1,hp0,hp1⟩:=prop_facts HOK.out
 obtain ⟨hn1,hL,hE⟩:=net_few hok
 obtain ⟨h4,h12,nl,ni⟩:=net_links hok
 have hgi:=fun j hj=>(link_facts (nl j hj) h4).1
 have hk2:kN≤2:=by omega
 obtain ⟨fN,hfN⟩:∃ fN:Nat,fr=(fN:Int):=⟨fr.toNat,by omega⟩
 subst hfN
 have hfl:fN<l 0:=by omega
 simp only [Int.toNat_natCast] at HFa ⊢
 have HVe:Hid (Calls Tryz.prog 22 #[netV p l c,.agg #[.int .i64 kind,.int .i64 (fN:Int),.int .i64 pp,.int .i64 way],.int .i64 (kN:Int)] w1 fun e w'=>∃ v,e=.returned v∧IsVer w' w1.heap.size (stS g og ex x l) (downsL (l 1) (kN+1)) (prod (fun _=>[0,1,2]) (l 3)) fa v∧Below w1.heap.size w1 w'):=hid (by
  refine ver_spec p l c kind pp way fN kN (downsL (l 1) (kN+1)) (prod (fun _=>[0,1,2]) (l 3)) (stS g og ex x l) fa w1 (fun W=>?_) (fun W=>envs_spec (l 3) W (by omega)) (fun W ea ec da dc env ds hds henv hb he hd=>?_) (fun W a rc ds env st hds henv hst hb hr=>?_) (fun W a rc st hsl hr=>?_) (fun d hd=>downs_len hd) (fun e he=>prod_len he) (fun d e st hst=>st_len st hst) (downs_few _ _ hL hk2) (envs_few _ (by omega)) (fun d e=>st_few h4 d e)
  · have h9:=downs_spec (l 1) kN W hL hk2
    exact h9
  · have hbb:=B1.out.trans (hb.mono B1.out.size)
    have h9:=staSpec.states_spec p l c s g og ex x f ea da ec dc env ds W (HN.out.below hbb) he hd h4 hn1 (fun j hj=>(link_facts (nl j hj) h4).2.1) (fun j hj=>(link_facts (nl j hj) h4).2.2) (fun j hj=>(import_facts (ni j hj) hgi).2) (fun i=>(envs_in henv i).1)
    exact h9
  · have hbb:=B1.out.trans (hb.mono B1.out.size)
    have h9:=fault_spec p l c f a (l 0) rc (rF st) kind pp way fN W (HN.out.filters.below hbb) hr (via_of hok henv hst) hfl h4
    rw [HFa.out] at h9
    exact h9
  · have h9:=viasSpec.vias_spec a (l 0) rc (rF st) W hr h4
    rw [vias_map hsl] at h9
    exact h9)
 unfold netV at HVe
 have HSay:Hid (∀ W v,IsVer W w1.heap.size (stS g og ex x l) (downsL (l 1) (kN+1)) (prod (fun _=>[0,1,2]) (l 3)) fa v→∃ hv n D E V pt x1 x2 x3 x4 x5 x6,v=VerV hv n D E V pt x1 x2 x3 x4 x5 x6∧SaysV l hv n D E V pt∧OwnBools w1.heap.size W (.slice x1 D.length x4) D∧OwnInts w1.heap.size W (.slice x2 E.length x5) E∧OwnInts w1.heap.size W (.slice x3 V.length x6) V):=hid (fun W v hh=>says_of (trips_few kN h4 hL (by omega) hk2) hn1 (fun d e hd he st hst i hi=>via_of hok he hst i hi) (fun s _=>by rw [← HFa.out];exact fa_most) hh)
 clear hok hf0 hf1 hp0 hp1 hn1 hL hE h12 hgi h4 hk2 hfl nl ni
 go_wp2_with fail
 refine HVe.out.mono ?_
 rintro e3 w3 ⟨v,rfl,hv,hb3⟩
 obtain ⟨hd,n9,D,E,V,pt,x1,x2,x3,y1,y2,y3,rfl,hsay,o1,o2,o3⟩:=HSay.out _ _ hv
 have HO:=hid (And.intro o1 (And.intro o2 o3))
 have HSa:=hid hsay
 have HB3:=hid (B1.out.trans (hb3.mono B1.out.size))
 have hres3:=(hb3.block _ (Array.getElem?_eq_some_iff.1 HRes.out).1).trans HRes.out
 have r0:w3.cell? ⟨w.heap.size+2,0,none⟩=some (.bool false):=by simp [World.cell?,hres3]
 have z0:w3.frozen? ⟨w.heap.size+2,0,none⟩=false:=by simp [World.frozen?,hres3]
 have r1:w3.cell? ⟨w.heap.size+2,1,none⟩=some (.int .i64 0):=by simp [World.cell?,hres3]
 have z1:w3.frozen? ⟨w.heap.size+2,1,none⟩=false:=by simp [World.frozen?,hres3]
 have r2:w3.cell? ⟨w.heap.size+2,2,none⟩=some (.slice none 0 0):=by simp [World.cell?,hres3]
 have z2:w3.frozen? ⟨w.heap.size+2,2,none⟩=false:=by simp [World.frozen?,hres3]
 have r3:w3.cell? ⟨w.heap.size+2,3,none⟩=some (.slice none 0 0):=by simp [World.cell?,hres3]
 have z3:w3.frozen? ⟨w.heap.size+2,3,none⟩=false:=by simp [World.frozen?,hres3]
 have r4:w3.cell? ⟨w.heap.size+2,4,none⟩=some (.slice none 0 0):=by simp [World.cell?,hres3]
 have z4:w3.frozen? ⟨w.heap.size+2,4,none⟩=false:=by simp [World.frozen?,hres3]
 have r5:w3.cell? ⟨w.heap.size+2,5,none⟩=some (.int .i64 0):=by simp [World.cell?,hres3]
 have z5:w3.frozen? ⟨w.heap.size+2,5,none⟩=false:=by simp [World.frozen?,hres3]
 clear hv hb3 hres3 hsay o1 o2 o3
 unfold VerV
 go_wp2_with fail
 refine bodyPost_ret (v:=.tuple #[.agg #[.bool hd,.int .i64 n9,.slice x1 D.length y1,.slice x2 E.length y2,.slice x3 V.length y3,.int .i64 pt],.int .i64 0]) (by simp [results,Tryz.results8,go_sem,r0,r1,r2,r3,r4,r5]) rfl ⟨hd,n9,D,E,V,pt,x1,x2,x3,y1,y2,y3,rfl,HSa.out,?_,?_,?_,?_⟩
 · exact own_low (six_own HO.out.1 (by omega)) (by omega)
 · exact own_low (six_own HO.out.2.1 (by omega)) (by omega)
 · exact own_low (six_own HO.out.2.2 (by omega)) (by omega)
 · exact six_below HB3.out (by omega)
end Go.Proofs.YthompjbplddkgaaGreatDoor.askVer
namespace Go.Proofs.YthompjbplddkgaaGreatDoor.askMath
open Go.RowKit Go.Deep Go base names netSem numbers askWords askSem propSem askVer downsSpec rowsOwn
def Pr (r : Nat) (b : Bool) (a : askSem.Ask) : Prop := (1≤a.kind∧a.kind≤4)∧(0≤a.frm∧a.frm<r)∧(-1≤a.port∧a.port≤15)∧(0≤a.k∧a.k≤2)∧(if b=true∧a.kind=3 then 0≤a.way∧a.way<r else a.way=0)
def Right (r : Nat) (a : askSem.Ask) : Prop := a.code=0→Pr r true a
theorem bad_right (r:Nat) {c:Int} (hc:c≠0):Right r (bad c):=fun h=>absurd h hc
theorem fin2_right {r:Nat} {a:askSem.Ask} (h:Pr r true a) (R:List Wd):Right r (fin2 a R):=by
 unfold fin2
 split
 · exact fun _=>h
 · exact bad_right r (by decide)
theorem fin1_right {r:Nat} {a:askSem.Ask} (h:Pr r true a):∀ R:List Wd,Right r (fin1 a R)
 | []=>fin2_right h _
 | [x]=>fin2_right h _
 | x::y::R=>by
  show Right r (if x=wFail then (if isNum (piece y) then (if inB (numS (piece y)) 0 2 then fin2 { a with k:=numS (piece y) } R else bad 5) else bad 4) else fin2 a (x::y::R))
  by_cases h1:x=wFail
  · rw [if_pos h1]
    by_cases h2:isNum (piece y)=true
    · rw [if_pos h2]
      by_cases h3:inB (numS (piece y)) 0 2=true
      · rw [if_pos h3]
        have h4:=of_decide_eq_true h3
        exact fin2_right (a:={ a with k:=numS (piece y) }) ⟨h.1,h.2.1,h.2.2.1,h4,h.2.2.2.2⟩ _
      · rw [if_neg h3];exact bad_right r (by decide)
    · rw [if_neg h2];exact bad_right r (by decide)
  · rw [if_neg h1];exact fin2_right h _
theorem fin0_right {r:Nat} {a:askSem.Ask} (h:Pr r true a):∀ R:List Wd,Right r (fin0 a R)
 | []=>fin1_right h _
 | [x]=>fin1_right h _
 | x::y::R=>by
  show Right r (if x=wPort then (if isNum (piece y) then (if inB (numS (piece y)) 0 15 then fin1 { a with port:=numS (piece y) } R else bad 5) else bad 4) else fin1 a (x::y::R))
  by_cases h1:x=wPort
  · rw [if_pos h1]
    by_cases h2:isNum (piece y)=true
    · rw [if_pos h2]
      by_cases h3:inB (numS (piece y)) 0 15=true
      · rw [if_pos h3]
        have h4:=of_decide_eq_true h3
        refine fin1_right (a:={ a with port:=numS (piece y) }) ⟨h.1,h.2.1,?_,h.2.2.2⟩ _
        show -1≤numS (piece y)∧numS (piece y)≤15
        omega
      · rw [if_neg h3];exact bad_right r (by decide)
    · rw [if_neg h2];exact bad_right r (by decide)
  · rw [if_neg h1];exact fin1_right h _
theorem via_right {r:Nat} {nm:Wd→Int} (hn:∀ y,nm y<r) {a:askSem.Ask} (h:Pr r false a) (R:List Wd):Right r (viaA nm a R):=by
 have hw:a.way=0:=by
  have h5:=h.2.2.2.2
  rw [if_neg (by simp)] at h5
  exact h5
 unfold viaA
 by_cases hk:a.kind=3
 · rw [if_pos hk]
   match R with
   | []=>exact bad_right r (by decide)
   | [x]=>exact bad_right r (by decide)
   | x::y::R =>
    show Right r (if x=wVia then (if nm y<0 then bad 9 else fin0 { a with way:=nm y } R) else bad 4)
    by_cases h1:x=wVia
    · rw [if_pos h1]
      by_cases h2:nm y<0
      · rw [if_pos h2];exact bad_right r (by decide)
      · rw [if_neg h2]
        refine fin0_right (a:={ a with way:=nm y }) ⟨h.1,h.2.1,h.2.2.1,h.2.2.2.1,?_⟩ _
        show if true=true∧a.kind=3 then 0≤nm y∧nm y<r else nm y=0
        rw [if_pos ⟨rfl,hk⟩]
        exact ⟨by omega,hn _⟩
    · rw [if_neg h1];exact bad_right r (by decide)
 · rw [if_neg hk]
   refine fin0_right ⟨h.1,h.2.1,h.2.2.1,h.2.2.2.1,?_⟩ _
   rw [if_neg (by intro h9;exact hk h9.2)]
   exact hw
theorem ask_right {r:Nat} {nm:Wd→Int} (hn:∀ y,nm y<r):∀ R:List Wd,Right r (askA nm R)
 | []=>bad_right r (by decide)
 | [x]=>bad_right r (by decide)
 | [x,y]=>bad_right r (by decide)
 | x::y::z::R=>by
  show Right r (if x=wVerify then (if nameAt kS 5 (piece y)<1 then bad 4 else if nm z<0 then bad 9 else viaA nm ⟨nameAt kS 5 (piece y),nm z,-1,0,0,0⟩ R) else bad 4)
  by_cases h1:x=wVerify
  · rw [if_pos h1]
    by_cases h2:nameAt kS 5 (piece y)<1
    · rw [if_pos h2];exact bad_right r (by decide)
    · rw [if_neg h2]
      by_cases h3:nm z<0
      · rw [if_pos h3];exact bad_right r (by decide)
      · rw [if_neg h3]
        have h4:nameAt kS 5 (piece y)<5:=(firstAt_bounds (same kS (piece y)) 5).2
        refine via_right hn ⟨⟨by show 1≤nameAt kS 5 (piece y);omega,by show nameAt kS 5 (piece y)≤4;omega⟩,⟨by show 0≤nm z;omega,hn z⟩,⟨by show (-1:Int)≤-1;omega,by show (-1:Int)≤15;omega⟩,⟨by show (0:Int)≤0;omega,by show (0:Int)≤2;omega⟩,?_⟩ _
        rw [if_neg (by simp)]
  · rw [if_neg h1];exact bad_right r (by decide)
theorem prop_right {r:Nat} {a:askSem.Ask} (h:Pr r true a):propB true r a.kind a.frm a.port a.way=true:=by
 obtain ⟨h1,h2,h3,h4,h5⟩:=h
 unfold propB inB
 simp only [Bool.and_eq_true,Bool.true_and,decide_eq_true_eq]
 refine ⟨⟨⟨h1,by omega⟩,by omega⟩,?_⟩
 by_cases hk:a.kind=3
 · rw [if_pos ⟨rfl,hk⟩] at h5
   rw [if_pos hk]
   exact decide_eq_true (by omega)
 · rw [if_neg (by intro h9;exact hk h9.2)] at h5
   rw [if_neg hk]
   exact decide_eq_true h5
theorem bools_row {B n c:Nat} {w:World} {x:Option Addr} {zs:List Bool} (h:OwnBools B w (.slice x n c) zs) (hn:n=zs.length):BoolRow w x zs.length zs:=by
 obtain ⟨h1,h2⟩:=h
 rcases h2 with ⟨h3,hn⟩|⟨g,cap,cur,h3,hb,hh,hn,hm,hs,ht⟩
 · injection h3 with h3 _ _
   exact ⟨rfl,by rw [hn];exact Nat.zero_le _,fun i hi=>by omega⟩
 · injection h3 with h3 _ _
   subst h3
   refine ⟨rfl,Nat.le_trans hn hm,fun i hi=>⟨g,0,rfl,?_⟩⟩
   have h3:cur[i]? = some (.bool (zs[i]?.getD false)):=by
    have:(cur.toList.take (zs.length*1))[i]? = (zs.map Value.bool)[i]?:=by rw [ht]
    rw [List.getElem?_take,if_pos (by omega)] at this
    rw [← Array.getElem?_toList,this,List.getElem?_map,List.getElem?_eq_getElem hi]
    rfl
   simp [World.cell?,hh,h3]
theorem ints_row {B n c:Nat} {w:World} {x:Option Addr} {zs:List Int} (h:OwnInts B w (.slice x n c) zs) (hn:n=zs.length):IntRow w x zs.length zs:=by
 obtain ⟨a,cap,e,hr⟩:=OwnInts.form h
 injection e with e _ _
 subst e
 exact hr
end Go.Proofs.YthompjbplddkgaaGreatDoor.askMath
