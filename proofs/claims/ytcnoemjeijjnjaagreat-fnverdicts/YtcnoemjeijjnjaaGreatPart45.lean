import Derived.Test.YtcnoemjeijjnjaaGreatPart44
set_option linter.unusedVariables false
namespace Go.Proofs.YtcnoemjeijjnjaaGreat.stabIn
open Go base netSem routeRow nbSem candSem sceneSem sceneCand sceneList candHole rtsRow stabImpl stabFace stabLaw prodSem rofSem ssSem settleSem
variable {g : R} {nl nx : Nat} {o e : List Int} {x : R} {env : List Int} {ds : List Bool} {n : Nat} {rs rs' : Rs}
theorem cand_cases {i:Int} {r:Rt} (h:r∈candL g nl o e x nx env ds rs n i):(r.via = -2∧0≤hasAt o i)∨(r.via = -1∧0≤hasAt e i∧0<zAt env (hasAt e i).toNat)∨∃j:Nat,r.via=j∧j<n∧(j:Int)∈nbL g nl ds i n∧thru rs i (n+1) j=false∧r.len=(rs j).len+g (linkAt g nl i j).toNat 2∧0≤linkAt g nl i j:=by
 simp only[candL,List.mem_append,List.mem_flatMap]at h;rcases h with (h|h)|⟨j,hj,h⟩
 · unfold ownC at h
   split at h
   · next h0=>rw[List.mem_singleton]at h;subst h;exact .inl ⟨rfl,h0⟩
   cases h
 · unfold extC at h
   split at h
   · next h0=>rw[List.mem_singleton]at h;subst h;exact .inr (.inl ⟨rfl,h0⟩)
   cases h
 have hm:=hj;unfold nbL at hj;simp only[List.mem_map,List.mem_filter,List.mem_range]at hj;obtain⟨k,⟨hk,hb⟩,rfl⟩:=hj;unfold nbB at hb;simp only[Bool.and_eq_true,decide_eq_true_eq]at hb;unfold candOf at h
 split at h
 · cases h
 split at h
 · cases h
 next ht =>
 cases hi:impR g nl x nx i (k:Int) (rs (k:Int).toNat) with
 | none=>rw[hi]at h;cases h
 | some q =>
  rw[hi]at h;simp only[List.mem_singleton]at h;subst h;obtain⟨h1,h2⟩:=impK_via (show impK x i (k:Int) (startI (k:Int) (g (linkAt g nl i (k:Int)).toNat 2) (rs (k:Int).toNat)) nx=some r from hi);have e1:(k:Int).toNat=k:=by omega
  rw[e1]at h1 h2;exact .inr (.inr ⟨k,h1,hk,hm,by simpa using ht,h2,hb.1⟩)
theorem stab_at (h:stabB g nl o e x nx env ds rs n=true) {i:Nat} (hi:i<n):rs i=bst (candL g nl o e x nx env ds rs n (i:Int)):=by
 unfold stabB sameTo at h;exact(eqR_iff.1 (allN_iff.1 h i hi)).symm
theorem stab_or (h:stabB g nl o e x nx env ds rs n=true) {i:Nat} (hi:i<n):(rs i=noRt∧candL g nl o e x nx env ds rs n (i:Int)=[])∨rs i∈candL g nl o e x nx env ds rs n (i:Int):=by
 have h1:=stab_at h hi;rcases bst_in (candL g nl o e x nx env ds rs n (i:Int)) with h2|h2
 · exact .inl ⟨h1.trans h2,bst_none h2 (fun r hr=>cand_via r hr)⟩
 rw[←h1]at h2;exact .inr h2
theorem stab_via (hn1:1≤n) (h:stabB g nl o e x nx env ds rs n=true) {i:Nat} (hi:i<n) : -3≤(rs i).via∧(rs i).via<n:=by
 rcases stab_or h hi with ⟨h1,_⟩|h1
 · rw[h1];show (-3:Int)≤-3∧(-3:Int)<n;omega
 rcases cand_cases h1 with ⟨h2,_⟩|⟨h2,_⟩|⟨j,h2,hj,_⟩<;>rw[h2]<;>omega
theorem thru_congr (ha:∀j,j<n→rs j=rs' j) (hv:∀j,j<n→(rs j).via<n) (r:Int):∀(f:Nat) (k:Int),k<n→thru rs r f k=thru rs' r f k
 | 0,_,_=>rfl
 | f+1,k,hk=>by
  simp only[thru];by_cases h0:k<0
  · simp[h0]
  have h1:k.toNat<n:=by omega
  rw[←ha _ h1,thru_congr ha hv r f _ (hv _ h1)]
theorem cand_congr (ha:∀j,j<n→rs j=rs' j) (hv:∀j,j<n→(rs j).via<n) (i:Int):candL g nl o e x nx env ds rs n i=candL g nl o e x nx env ds rs' n i:=by
 unfold candL
 congr 1
 have key:∀L:List Int,(∀j∈L,0≤j∧j<n)→L.flatMap (candOf g nl x nx rs n i)=L.flatMap (candOf g nl x nx rs' n i):=by
  intro L
  induction L with
  | nil=>intro _;rfl
  | cons j L ih =>
   intro hL;obtain⟨h1,h2⟩:=hL j List.mem_cons_self;rw[List.flatMap_cons,List.flatMap_cons,ih (fun j hj=>hL j (List.mem_cons_of_mem _ hj))]
   congr 1
   unfold candOf;rw[ha j.toNat Om,thru_congr ha hv i (n+1) j h2]
 refine key _ fun j hj=>?_;unfold nbL at hj;simp only[List.mem_map,List.mem_filter,List.mem_range]at hj;obtain⟨k,⟨hk,_⟩,rfl⟩:=hj;omega
theorem stab_congr (ha:∀j,j<n→rs j=rs' j) (hv:∀j,j<n→(rs j).via<n) (h:stabB g nl o e x nx env ds rs n=true):stabB g nl o e x nx env ds rs' n=true:=by
 unfold stabB sameTo at h ⊢;refine allN_of fun i hi=>?_;have h1:=eqR_iff.1 (allN_iff.1 h i hi);refine eqR_iff.2 ?_;simp only at h1 ⊢;rw[←cand_congr ha hv,h1,ha i hi]
end Go.Proofs.YtcnoemjeijjnjaaGreat.stabIn
namespace Go.Proofs.YtcnoemjeijjnjaaGreat.fwSem
open Go.RowKit Go.Deep base names netSem routeRow walkSem routesB
def fC (l : Nat→Nat) (s : Ss) (g : R) (o e : List Int) (x f : R) (dl rl : Nat) (ds : List Bool) (rs : Rs) (fr port : Int) : Int := fwC (netB l s g o e x f) (routesB g (l 1) (l 0) rl rs) dl rl (l 1) (l 0) fr port (anyDown g (l 1) rl ds rs)
def fwO (C : Int) (rs : Rs) (f : R) (m : Nat) (port : Int) (rl : Nat) (fr : Int) : Int := if C=0 then wayO rs f m port rl fr else 0
def fwP (C : Int) (rs : Rs) (f : R) (m : Nat) (port : Int) (rl : Nat) (fr : Int) : List Int := if C=0 then fr::wayR rs f m port rl fr else []
theorem no_out {C:Int} {rs:Rs} {f:R} {m:Nat} {port:Int} {rl:Nat} {fr:Int} (h:C≠0):fwO C rs f m port rl fr=0∧fwP C rs f m port rl fr=[]:=by
 unfold fwO fwP;rw[if_neg h,if_neg h];exact⟨rfl,rfl⟩
theorem yes_out (rs:Rs) (f:R) (m:Nat) (port:Int) (rl:Nat) (fr:Int):fwO 0 rs f m port rl fr=wayO rs f m port rl fr∧fwP 0 rs f m port rl fr=fr::wayR rs f m port rl fr:=by
 unfold fwO fwP;rw[if_pos rfl,if_pos rfl];exact⟨rfl,rfl⟩
end Go.Proofs.YtcnoemjeijjnjaaGreat.fwSem
namespace Go.Proofs.YtcnoemjeijjnjaaGreat.walkMath
open Go base netSem routeRow nbSem candSem sceneSem sceneCand sceneList sceneFace candHole rtsRow stabImpl stabFace stabLaw prodSem rofSem ssSem settleSem stabIn walkSem routesB valRB
variable {g : R} {nl nx : Nat} {o e : List Int} {x : R} {env : List Int} {ds : List Bool} {n : Nat} {rs rs' : Rs}
theorem impK_pref {router fr:Int} {r0:Rt} (h0:0≤r0.pref∧r0.pref≤1000):∀ {k:Nat} {r:Rt},(∀i,i<k→x i 3=2→0≤x i 4∧x i 4≤1000)→impK x router fr r0 k=some r→0≤r.pref∧r.pref≤1000
 | 0,r,_,h=>by simp only[impK,Option.some.injEq]at h;subst h;exact h0
 | k+1,r,hx,h=>by
  simp only[impK]at h
  cases hq:impK x router fr r0 k with
  | none=>rw[hq]at h;cases h
  | some q =>
   rw[hq]at h;have ih:=impK_pref h0 (fun i hi=>hx i Om) hq;simp only[Option.bind_some]at h;unfold stepI at h
   split at h
   · simp only[Option.some.injEq]at h;subst h;exact ih
   split at h
   · cases h
   split at h
   · next h2=>simp only[Option.some.injEq]at h;subst h;exact hx k Om h2
   simp only[Option.some.injEq]at h;subst h;exact ih
theorem import_pref {nlx i:Nat} (h:importB g nlx x i=true) (h2:x i 3=2):0≤x i 4∧x i 4≤1000:=by
 unfold importB deedB inB at h;simp only[Bool.and_eq_true,decide_eq_true_eq]at h;have:=h.2.2;rw[if_pos h2]at this;exact this
theorem cand_pref (hx:∀i,i<nx→x i 3=2→0≤x i 4∧x i 4≤1000) {i:Int} {r:Rt} (h:r∈candL g nl o e x nx env ds rs n i):0≤r.pref∧r.pref≤1000:=by
 simp only[candL,List.mem_append,List.mem_flatMap]at h;rcases h with (h|h)|⟨j,hj,h⟩
 · unfold ownC at h
   split at h
   · rw[List.mem_singleton]at h;subst h;exact⟨by show (0:Int)≤200;omega,by show (200:Int)≤1000;omega⟩
   cases h
 · unfold extC at h
   split at h
   · rw[List.mem_singleton]at h;subst h;exact⟨by show (0:Int)≤100;omega,by show (100:Int)≤1000;omega⟩
   cases h
 unfold candOf at h
 split at h
 · cases h
 split at h
 · cases h
 cases hi:impR g nl x nx i j (rs j.toNat) with
 | none=>rw[hi]at h;cases h
 | some q =>
  rw[hi]at h;simp only[List.mem_singleton]at h;subst h;exact impK_pref (r0:=startI j (g (linkAt g nl i j).toNat 2) (rs j.toNat)) ⟨by show (0:Int)≤100;omega,by show (100:Int)≤1000;omega⟩ hx hi
structure Fine (g : R) (nl : Nat) (ds : List Bool) (n : Nat) (rs : Rs) (vs : List Int) : Prop where
 right:routesB g nl n n rs=true
 up:anyDown g nl n ds rs=false
 via:∀i,i<n→zAt vs i=(rs i).via
 ends:∀i:Nat,i<n→∃m,m≤n∧cnt vs m (i:Int)=true
theorem state_fine {l:Nat→Nat} {s:Ss} {f:R} (hb:netB l s g o e x f=true) (he:∀i,0≤zAt env i) {zs:List Rt} (h:zs∈statesL g (l 1) o e x (l 4) env ds (l 0) (prod (fun i:Nat=>optL g (l 1) o e env ds (l 0) (i:Int)) (l 0))):zs.length=l 0∧∃vs,Fine g (l 1) ds (l 0) (rF zs) vs:=by
 obtain⟨h4,h12,hk,hi⟩:=net_links hb;have hn1:=one_router hb;have hc:=fun i hi=>(link_facts (hk i hi) h4).2.2;have hin:=links_in hb;unfold statesL at h;obtain⟨vs,hv,rfl⟩:=List.mem_map.1 h;obtain⟨hp,hg⟩:=List.mem_filter.1 hv;unfold goodB at hg;rw[Bool.and_eq_true]at hg;obtain⟨hok,hst⟩:=hg;have hlen:(stateOf g (l 1) o e x (l 4) env ds (l 0) vs).length=l 0:=by unfold stateOf;simp
 have hR:∀i,i<l 0→valR g (l 1) o e x (l 4) env ds vs (l 0) i=rF (stateOf g (l 1) o e x (l 4) env ds (l 0) vs) i:=fun i hi=>by
  unfold rF stateOf;rw[List.getElem?_map,List.getElem?_range hi];rfl
 have hval:∀i,i<l 0→val g (l 1) o e x (l 4) env ds vs (l 0) (i:Int)=some (valR g (l 1) o e x (l 4) env ds vs (l 0) i):=fun i hi=>by
  have:=allN_iff.1 hok i hi;unfold valR
  cases hq:val g (l 1) o e x (l 4) env ds vs (l 0) (i:Int) with
  | none=>rw[hq]at this;cases this
  | some r=>rfl
 have hvia:∀i,i<l 0→(valR g (l 1) o e x (l 4) env ds vs (l 0) i).via=zAt vs i:=fun i hi=>by
  have:=val_via (hval i hi);rw[Int.toNat_natCast]at this;exact this
 have hb3:=fun i hi=>stab_via hn1 hst (i:=i) hi
 have hv3:∀i,-3≤zAt vs i:=fun i=>by
  by_cases hi:i<l 0
  · rw[←hvia i hi];exact(hb3 i hi).1
  have hl:vs.length=l 0:=prod_len hp;unfold zAt;rw[List.getElem?_eq_none Om]
  decide
 have hlen2:∀i,i<l 0→0≤(valR g (l 1) o e x (l 4) env ds vs (l 0) i).len∧(valR g (l 1) o e x (l 4) env ds vs (l 0) i).len≤402:=fun i hi=>by
  have:=val_len hv3 hc (hval i hi);have h4':((l 0:Nat):Int)≤4:=by omega
  omega
 have hcand:∀i,i<l 0→(valR g (l 1) o e x (l 4) env ds vs (l 0) i=noRt)∨(valR g (l 1) o e x (l 4) env ds vs (l 0) i∈candL g (l 1) o e x (l 4) env ds (valR g (l 1) o e x (l 4) env ds vs (l 0)) (l 0) (i:Int)):=fun i hi=>by
  rcases stab_or hst hi with h1|h1
  · exact .inl h1.1
  exact .inr h1
 have himp:=hi
 have hlk:∀i,i<l 0→0≤(valR g (l 1) o e x (l 4) env ds vs (l 0) i).via→0≤linkAt g (l 1) (i:Int) (valR g (l 1) o e x (l 4) env ds vs (l 0) i).via∧ds[(linkAt g (l 1) (i:Int) (valR g (l 1) o e x (l 4) env ds vs (l 0) i).via).toNat]?.getD false=false:=fun i hi h0=>by
  rcases hcand i hi with h1|h1
  · rw[h1]at h0;exact absurd h0 (by decide)
  rcases cand_cases h1 with ⟨h2,_⟩|⟨h2,_⟩|⟨j,h2,hj,hm,_,_,h6⟩
  · omega
  · omega
  rw[h2];refine⟨h6,?_⟩;unfold nbL at hm;simp only[List.mem_map,List.mem_filter,List.mem_range]at hm;obtain⟨k,⟨_,hkb⟩,ek⟩:=hm;have ek':k=j:=by omega
  subst ek';unfold nbB at hkb;simp only[Bool.and_eq_true,Bool.not_eq_true']at hkb;exact hkb.2
 clear hi;refine⟨hlen,vs,?_,?_,fun i hi=>?_,fun i hi=>?_⟩
 · unfold routesB;rw[decide_eq_true rfl,Bool.true_and];refine allN_of fun i hi=>?_;rw[←hR i hi];rcases hcand i hi with h1|h1
   · rw[h1];unfold routeB noneB noRt inB;simp;omega
   have h5:=cand_pref (fun j hj=>import_pref (himp j hj)) h1;have h6:=hlen2 i hi;have h7:=hlk i hi
   have h8 : -2≤(valR g (l 1) o e x (l 4) env ds vs (l 0) i).via∧(valR g (l 1) o e x (l 4) env ds vs (l 0) i).via<(l 0:Int):=by
    rcases cand_cases h1 with ⟨h2,_⟩|⟨h2,_⟩|⟨j,h2,hj,_⟩<;>rw[h2]<;>omega
   generalize valR g (l 1) o e x (l 4) env ds vs (l 0) i=r at *;unfold routeB inB;simp only[Bool.and_eq_true,decide_eq_true_eq];refine⟨⟨⟨⟨by omega,h5⟩,by omega⟩,?_⟩,?_⟩
   · by_cases h9:0≤r.via
     · have:=(h7 h9).1;rw[decide_eq_false (show ¬linkAt g (l 1) (i:Int) r.via<0 by omega),Bool.and_false];rfl
     rw[decide_eq_false h9,Bool.false_and];rfl
   rw[decide_eq_false (show ¬r.via = -3 by omega),Bool.false_and];rfl
 · unfold anyDown;rw[allN_of (p:=fun i=>!downB g (l 1) ds i (rF (stateOf g (l 1) o e x (l 4) env ds (l 0) vs) i)) (fun i hi=>?_)]
   · rfl
   rw[←hR i hi];unfold downB;by_cases h9:0≤linkAt g (l 1) (i:Int) (valR g (l 1) o e x (l 4) env ds vs (l 0) i).via
   · have h10:=(link_in hin h9).1;rw[(hlk i hi h10).2,Bool.and_false];rfl
   rw[decide_eq_false h9,Bool.false_and];rfl
 · rw[←hR i hi,hvia i hi]
 obtain⟨m,hm,hcn⟩:=val_cnt Om (hval i hi);exact⟨m,hm,hcn⟩
def LastOK (O v : Int) : Prop := (O=1∧v = -2)∨(O=2∧v = -1)∨(O=3∧v = -3)∨(O=4∧0≤v)
theorem out_last {f:R} {m:Nat} {a v port:Int} (hv : -3≤v) (h:outAt f m a v port≠0):LastOK (outAt f m a v port) v:=by
 unfold outAt at h ⊢;unfold LastOK
 split
 · next h1=>exact .inl ⟨rfl,h1⟩
 split
 · next h1=>exact .inr (.inl ⟨rfl,h1⟩)
 split
 · next h1=>exact .inr (.inr (.inl ⟨rfl,h1⟩))
 next h1 h2 h3 =>
 split
 · exact .inr (.inr (.inr ⟨rfl,by omega⟩))
 next h4=>rw[if_neg h1,if_neg h2,if_neg h3,if_neg h4]at h;exact absurd rfl h
theorem way_facts {f:R} {m:Nat} {port:Int} {vs:List Int} (hv:Viable rs n) (hz:∀i,i<n→zAt vs i=(rs i).via):∀(fuel:Nat) (a:Int) (k:Nat),cnt vs k a=true→k≤fuel→0≤a→a<n →
  (∀y∈a::wayR rs f m port fuel a,0≤y∧y<n)∧(∀(j:Nat) (y z:Int),(a::wayR rs f m port fuel a)[j]? = some y→(a::wayR rs f m port fuel a)[j+1]? = some z→(rs y.toNat).via=z)∧∀y,(a::wayR rs f m port fuel a).getLast? = some y→LastOK (wayO rs f m port fuel a) (rs y.toNat).via
 | 0,a,k,hc,hk,h0,hn=>by
  have:k=0:=by omega
  subst this;simp only[cnt,decide_eq_true_eq]at hc;omega
 | fuel+1,a,k,hc,hk,h0,hn=>by
  have hi:a.toNat<n:=by omega
  have hva:=hv a.toNat hi;by_cases ho:outAt f m a (rs a.toNat).via port=0
  · obtain⟨e1,e2⟩:=way_go (rs:=rs) (n:=fuel) ho;have hnx:=out_next ho hva.1;obtain⟨k',rfl,hc'⟩:=cnt_one hc h0;rw[hz _ hi]at hc';obtain⟨i1,i2,i3⟩:=way_facts (f:=f) (m:=m) (port:=port) hv hz fuel (rs a.toNat).via k' hc' Om hnx hva.2;rw[e1,e2];refine⟨fun y hy=>?_,fun j y z hy hz'=>?_,fun y hy=>?_⟩
    · rcases List.mem_cons.1 hy with rfl|hy
      · exact⟨h0,hn⟩
      exact i1 y hy
    · cases j with
      | zero =>
       simp only[List.getElem?_cons_zero,Option.some.injEq]at hy;subst hy;simpa using hz'
      | succ j =>
       simp only[List.getElem?_cons_succ]at hy hz';exact i2 j y z hy hz'
    rw[List.getLast?_cons_cons]at hy;exact i3 y hy
  obtain⟨e1,e2⟩:=way_stop (rs:=rs) (n:=fuel) ho;rw[e1,e2];refine⟨fun y hy=>?_,fun j y z hy hz'=>?_,fun y hy=>?_⟩
  · rw[List.mem_singleton]at hy;subst hy;exact⟨h0,hn⟩
  · simp at hz'
  simp only[List.getLast?_singleton,Option.some.injEq]at hy;subst hy;exact out_last hva.1 ho
end Go.Proofs.YtcnoemjeijjnjaaGreat.walkMath
namespace Go.Proofs.YtcnoemjeijjnjaaGreat.stableMath
open Go base netSem routeRow nbSem candSem sceneSem sceneCand sceneList sceneFace candHole rtsRow stabImpl stabFace stabLaw prodSem rofSem ssSem settleSem stabIn walkSem routesB valRB walkMath
variable {g : R} {nl nx : Nat} {o e : List Int} {x : R} {env : List Int} {ds : List Bool} {n : Nat} {rs rs' : Rs}
theorem state_rs {c:List Int} {i:Nat} (hi:i<n):valR g nl o e x nx env ds c n i=rF (stateOf g nl o e x nx env ds n c) i:=by
 unfold rF stateOf;rw[List.getElem?_map,List.getElem?_range hi];rfl
theorem state_stab (hn1:1≤n) {ll:List (List Int)} {zs:List Rt} (h:zs∈statesL g nl o e x nx env ds n ll):stabB g nl o e x nx env ds (rF zs) n=true:=by
 unfold statesL at h;obtain⟨vs,hv,rfl⟩:=List.mem_map.1 h;obtain⟨_,hg⟩:=List.mem_filter.1 hv;unfold goodB at hg;rw[Bool.and_eq_true]at hg;exact stab_congr (fun j hj=>state_rs hj) (fun j hj=>(stab_via hn1 hg.2 hj).2) hg.2
end Go.Proofs.YtcnoemjeijjnjaaGreat.stableMath
namespace Go.Proofs.YtcnoemjeijjnjaaGreat.rofFace
open Go.RowKit Go.Deep Go base copy names netSem netImpl netParts netFace netOKImpl routeRow routesB routesImpl nbSem candSem candImp hopSem intsOwn hopMake hopBetween sceneSem sceneBy sceneNew sceneFault sceneFace candEnv candFace noRts bestAll stabImpl stabFace rtsRow rofSem rofImpl rofSpec
def vsB (vs : List Int) (n vl : Nat) : Bool := decide (vl=n)&&allN (fun i=>inB (zAt vs i) (-3) ((n : Int) - 1)) vl
theorem vs_in {vs:List Int} {n vl:Nat} (hl:vs.length=vl) (h:vsB vs n vl=true) (hn:1≤n):vl=n∧∀i,-3≤zAt vs i∧zAt vs i<n:=by
 unfold vsB at h;simp only[Bool.and_eq_true,decide_eq_true_eq]at h;refine⟨h.1,fun i=>?_⟩;by_cases hi:i<vl
 · have:=allN_iff.1 h.2 i hi;unfold inB at this;simp only[decide_eq_true_eq]at this;omega
 unfold zAt;rw[List.getElem?_eq_none Om];simp only[Option.getD_none];omega
set_option maxHeartbeats 800000 in
theorem vias_cl (v:Int) (q n:Nat) (w:World) (hq:w.cell? ⟨q,0,none⟩=some (.int .i64 (n:Int))) (hn:n≤maxLen) :
  Calls Tryz.prog 103 #[.int .i64 v,.pointer (some ⟨q,0,none⟩)] w fun e w'=>e=.returned (.bool (inB v (-3) ((n:Int) - 1)))∧w' = w:=by
 unfold maxLen at hn;go_enter Tryz.func103,Tryz.ntmps103;go_wp2_with (go_at_call 19;refine(within_impl _ _ _ _).mono ?_;rintro e w' ⟨rfl,rfl⟩);go_ret;exact⟨rfl,rfl⟩
set_option maxHeartbeats 800000 in
theorem all_vias (a:Option Addr) (n c q m:Nat) (z:List Int) (w:World) (hx:IntRow w a n z) (hq:w.cell? ⟨q,0,none⟩=some (.int .i64 (m:Int))) (hm:m≤maxLen) :
  Calls Tryz.prog 101 #[.slice a n c,.func (.func 103) #[] #[.pointer (some ⟨q,0,none⟩)]] w fun e w'=>e=.returned (.bool (allN (fun i=>inB (zAt z i) (-3) ((m:Int) - 1)) n))∧w' = w:=by
 have hmost:=hx.most;unfold maxLen at hmost;have HX:=hid hx;have HQc:=hid hq;have HMm:=hid hm;clear hx hq hm;go_enter Tryz.func101,Tryz.ntmps101;go_wp2;go_loop [9] (fun i=>∃k:Nat,k≤n∧i=.int .i64 k∧∀j,j<k→inB (zAt z j) (-3) ((m:Int) - 1)=true) (fun i=>n - (intOf i).toNat)
 case atStart=>exact⟨0,Nat.zero_le _,rfl,fun j hj=>absurd hj (Nat.not_lt_zero _)⟩
 obtain⟨k,hk,rfl,ha⟩:=hrel;have HA:=hid ha;clear ha;by_cases hlt:k<n
 · obtain⟨b,off,rfl,hc⟩:=HX.out.cell k hlt;have HQ:Hid (zAt z k=z[k]?.getD 0):=hid rfl;generalize z[k]?.getD 0=y at *;obtain⟨D,hD⟩:∃D,inB y (-3) ((m:Int) - 1)=D:=⟨_,rfl⟩;have HD:=hid hD;have HE:Hid (inB (zAt z k) (-3) ((m:Int) - 1)=D):=hid (by rw[HQ.out];exact hD);clear hD;go_wp2_with fail;refine(vias_cl y q m _ HQc.out HMm.out).mono ?_;rintro e' w1 ⟨rfl,hw⟩;have hw:=hw.symm;subst hw;rw[HD.out]
   cases D with
   | true =>
    go_wp2;go_round
    case rel =>
     refine⟨k+1,by omega,by go_num,fun j hj=>?_⟩;by_cases e:j=k
     · subst e;exact HE.out
     exact HA.out j Om
    case measure=>simp[intOf];omega
   | false =>
    go_wp2;go_ret;exact⟨ret_bool (allN_false (p:=fun i=>inB (zAt z i) (-3) ((m:Int) - 1)) hlt HE.out).symm,rfl⟩
 have e:k=n:=by omega
 subst e;go_wp2;go_ret;exact⟨ret_bool (allN_of (p:=fun i=>inB (zAt z i) (-3) ((m:Int) - 1)) HA.out).symm,rfl⟩
set_option maxHeartbeats 800000 in
theorem vias_impl (a:Option Addr) (vl vc n:Nat) (vs:List Int) (w:World) (hx:IntRow w a vl vs) (hn:n≤maxLen) :
  Calls Tryz.prog 63 #[.slice a vl vc,.int .i64 (n:Int)] w fun e w'=>e=.returned (.bool (vsB vs n vl))∧Below w.heap.size w w' := by
 have hmost:=hx.most;have HAll:=hid (fun(W:World) (hb:Below w.heap.size w W) (q:Nat) (hq:W.cell? ⟨q,0,none⟩=some (.int .i64 (n:Int)))=>all_vias a vl vc q n vs W (hx.below hb) hq hn);unfold maxLen at hmost hn;clear hx;obtain⟨V,hV⟩:∃V,vsB vs n vl=V:=⟨_,rfl⟩;have HV:=hid hV;rw[hV];clear hV;unfold vsB at HV;have hmf:=mkfunc;by_cases e1:vl=n
 · have d1:((vl:Int)==(n:Int))=true:=by simp[e1]
   have eV:allN (fun i=>inB (zAt vs i) (-3) ((n:Int) - 1)) vl=V:=by rw[←HV.out,decide_eq_true e1,Bool.true_and]
   have HEv:=hid eV;clear eV HV e1;go_enter Tryz.func63,Tryz.ntmps63;go_wp2_with fail;refine(HAll.out _ Bl _ (by simp[go_sem])).mono ?_;rintro e' w1 ⟨rfl,hw⟩;have HW:=hid hw;rw[HEv.out];clear hw;go_wp2;go_ret;exact⟨rfl,by rw[HW.out];exact Bl⟩
 have d1:((vl:Int)==(n:Int))=false:=by simp;omega
 have eV:V=false:=by rw[←HV.out,decide_eq_false e1];rfl
 subst eV;clear HV e1;go_enter Tryz.func63,Tryz.ntmps63;go_wp2;go_ret;exact⟨rfl,Bl⟩
end Go.Proofs.YtcnoemjeijjnjaaGreat.rofFace
