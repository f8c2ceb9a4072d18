import Derived.Test.YthompjbplddkgaaGreatDoorPart35
set_option linter.unusedVariables false
namespace Go.Proofs.YthompjbplddkgaaGreatDoor.settleSem
open Go.RowKit Go.Deep Go base names netSem routeRow nbSem candSem sceneBy sceneFace rtsRow noRts bestAll stabImpl stabFace
def stepS (g : R) (nl : Nat) (o e : List Int) (x : R) (nx : Nat) (env : List Int) (ds : List Bool) (n : Nat) (rs : Rs) : Rs := fun r : Nat=>bst (candL g nl o e x nx env ds rs n (r : Int))
def st (g : R) (nl : Nat) (o e : List Int) (x : R) (nx : Nat) (env : List Int) (ds : List Bool) (n : Nat) : Nat→Rs
 | 0=>noRs
 | t+1=>stepS g nl o e x nx env ds n (st g nl o e x nx env ds n t)
theorem best_in (g:Rs):∀ k,∃ i,i≤k∧bestTo g k=g i
 | 0=>⟨0,Nat.le_refl _,rfl⟩
 | k+1=>by
  simp only [bestTo]
  split
  · exact ⟨k+1,Nat.le_refl _,rfl⟩
  · obtain ⟨i,hi,e⟩:=best_in g k
    exact ⟨i,by omega,e⟩
theorem rF_in {zs:List Rt} {i:Nat} (h:i<zs.length):rF zs i∈zs:=by
 unfold rF
 rw [List.getElem?_eq_getElem h]
 exact List.getElem_mem h
theorem bst_in (zs:List Rt):bst zs=noRt∨bst zs∈zs:=by
 unfold bst
 by_cases h:zs.length=0
 · rw [if_pos h];exact .inl rfl
 · rw [if_neg h]
   obtain ⟨i,hi,e⟩:=best_in (rF zs) (zs.length - 1)
   rw [e]
   exact .inr (rF_in (by omega))
variable {g : R} {nl nx : Nat} {o e : List Int} {x : R} {env : List Int} {ds : List Bool} {n : Nat} {rs : Rs} {router : Int} {B : Int}
end Go.Proofs.YthompjbplddkgaaGreatDoor.settleSem
namespace Go.Proofs.YthompjbplddkgaaGreatDoor.stabIn
open Go base netSem routeRow nbSem candSem sceneSem sceneCand sceneList candHole rtsRow stabImpl stabFace stabLaw prodSem rofSem ssSem settleSem
variable {g : R} {nl nx : Nat} {o e : List Int} {x : R} {env : List Int} {ds : List Bool} {n : Nat} {rs rs' : Rs}
theorem cand_cases {i:Int} {r:Rt} (h:r∈candL g nl o e x nx env ds rs n i):(r.via = -2∧0≤hasAt o i)∨(r.via = -1∧0≤hasAt e i∧0<zAt env (hasAt e i).toNat)∨∃ j:Nat,r.via=j∧j<n∧(j:Int)∈nbL g nl ds i n∧thru rs i (n+1) j=false∧r.len=(rs j).len+g (linkAt g nl i j).toNat 2∧0≤linkAt g nl i j:=by
 simp only [candL,List.mem_append,List.mem_flatMap] at h
 rcases h with (h|h)|⟨j,hj,h⟩
 · unfold ownC at h
   split at h
   · next h0=>rw [List.mem_singleton] at h;subst h;exact .inl ⟨rfl,h0⟩
   · cases h
 · unfold extC at h
   split at h
   · next h0=>rw [List.mem_singleton] at h;subst h;exact .inr (.inl ⟨rfl,h0⟩)
   · cases h
 · have hm:=hj
   unfold nbL at hj
   simp only [List.mem_map,List.mem_filter,List.mem_range] at hj
   obtain ⟨k,⟨hk,hb⟩,rfl⟩:=hj
   unfold nbB at hb
   simp only [Bool.and_eq_true,decide_eq_true_eq] at hb
   unfold candOf at h
   split at h
   · cases h
   · split at h
     · cases h
     · next ht =>
       cases hi:impR g nl x nx i (k:Int) (rs (k:Int).toNat) with
       | none=>rw [hi] at h;cases h
       | some q =>
        rw [hi] at h
        simp only [List.mem_singleton] at h
        subst h
        obtain ⟨h1,h2⟩:=impK_via (show impK x i (k:Int) (startI (k:Int) (g (linkAt g nl i (k:Int)).toNat 2) (rs (k:Int).toNat)) nx=some r from hi)
        have e1:(k:Int).toNat=k:=by omega
        rw [e1] at h1 h2
        exact .inr (.inr ⟨k,h1,hk,hm,by simpa using ht,h2,hb.1⟩)
theorem stab_at (h:stabB g nl o e x nx env ds rs n=true) {i:Nat} (hi:i<n):rs i=bst (candL g nl o e x nx env ds rs n (i:Int)):=by
 unfold stabB sameTo at h
 exact (eqR_iff.1 (allN_iff.1 h i hi)).symm
theorem stab_or (h:stabB g nl o e x nx env ds rs n=true) {i:Nat} (hi:i<n):(rs i=noRt∧candL g nl o e x nx env ds rs n (i:Int)=[])∨rs i∈candL g nl o e x nx env ds rs n (i:Int):=by
 have h1:=stab_at h hi
 rcases bst_in (candL g nl o e x nx env ds rs n (i:Int)) with h2|h2
 · exact .inl ⟨h1.trans h2,bst_none h2 (fun r hr=>cand_via r hr)⟩
 · rw [← h1] at h2;exact .inr h2
theorem stab_via (hn1:1≤n) (h:stabB g nl o e x nx env ds rs n=true) {i:Nat} (hi:i<n) : -3≤(rs i).via∧(rs i).via<n:=by
 rcases stab_or h hi with ⟨h1,_⟩|h1
 · rw [h1];show (-3:Int)≤-3∧(-3:Int)<n;omega
 · rcases cand_cases h1 with ⟨h2,_⟩|⟨h2,_⟩|⟨j,h2,hj,_⟩ <;> rw [h2] <;> omega
end Go.Proofs.YthompjbplddkgaaGreatDoor.stabIn
namespace Go.Proofs.YthompjbplddkgaaGreatDoor.fwSem
open Go.RowKit Go.Deep base names netSem routeRow walkSem routesB
end Go.Proofs.YthompjbplddkgaaGreatDoor.fwSem
namespace Go.Proofs.YthompjbplddkgaaGreatDoor.walkMath
open Go base netSem routeRow nbSem candSem sceneSem sceneCand sceneList sceneFace candHole rtsRow stabImpl stabFace stabLaw prodSem rofSem ssSem settleSem stabIn walkSem routesB valRB
variable {g : R} {nl nx : Nat} {o e : List Int} {x : R} {env : List Int} {ds : List Bool} {n : Nat} {rs rs' : Rs}
theorem impK_pref {router fr:Int} {r0:Rt} (h0:0≤r0.pref∧r0.pref≤1000):∀ {k:Nat} {r:Rt},(∀ i,i<k→x i 3=2→0≤x i 4∧x i 4≤1000)→impK x router fr r0 k=some r→0≤r.pref∧r.pref≤1000
 | 0,r,_,h=>by simp only [impK,Option.some.injEq] at h;subst h;exact h0
 | k+1,r,hx,h=>by
  simp only [impK] at h
  cases hq:impK x router fr r0 k with
  | none=>rw [hq] at h;cases h
  | some q =>
   rw [hq] at h
   have ih:=impK_pref h0 (fun i hi=>hx i (by omega)) hq
   simp only [Option.bind_some] at h
   unfold stepI at h
   split at h
   · simp only [Option.some.injEq] at h;subst h;exact ih
   · split at h
     · cases h
     · split at h
       · next h2=>simp only [Option.some.injEq] at h;subst h;exact hx k (by omega) h2
       · simp only [Option.some.injEq] at h;subst h;exact ih
theorem import_pref {nlx i:Nat} (h:importB g nlx x i=true) (h2:x i 3=2):0≤x i 4∧x i 4≤1000:=by
 unfold importB deedB inB at h
 simp only [Bool.and_eq_true,decide_eq_true_eq] at h
 have:=h.2.2
 rw [if_pos h2] at this
 exact this
theorem cand_pref (hx:∀ i,i<nx→x i 3=2→0≤x i 4∧x i 4≤1000) {i:Int} {r:Rt} (h:r∈candL g nl o e x nx env ds rs n i):0≤r.pref∧r.pref≤1000:=by
 simp only [candL,List.mem_append,List.mem_flatMap] at h
 rcases h with (h|h)|⟨j,hj,h⟩
 · unfold ownC at h
   split at h
   · rw [List.mem_singleton] at h;subst h;exact ⟨by show (0:Int)≤200;omega,by show (200:Int)≤1000;omega⟩
   · cases h
 · unfold extC at h
   split at h
   · rw [List.mem_singleton] at h;subst h;exact ⟨by show (0:Int)≤100;omega,by show (100:Int)≤1000;omega⟩
   · cases h
 · unfold candOf at h
   split at h
   · cases h
   · split at h
     · cases h
     · cases hi:impR g nl x nx i j (rs j.toNat) with
       | none=>rw [hi] at h;cases h
       | some q =>
        rw [hi] at h
        simp only [List.mem_singleton] at h
        subst h
        exact impK_pref (r0:=startI j (g (linkAt g nl i j).toNat 2) (rs j.toNat)) ⟨by show (0:Int)≤100;omega,by show (100:Int)≤1000;omega⟩ hx hi
structure Fine (g : R) (nl : Nat) (ds : List Bool) (n : Nat) (rs : Rs) (vs : List Int) : Prop where
 right:routesB g nl n n rs=true
 up:anyDown g nl n ds rs=false
 via:∀ i,i<n→zAt vs i=(rs i).via
 ends:∀ i:Nat,i<n→∃ m,m≤n∧cnt vs m (i:Int)=true
theorem state_fine {l:Nat→Nat} {s:Ss} {f:R} (hb:netB l s g o e x f=true) (he:∀ i,0≤zAt env i) {zs:List Rt} (h:zs∈statesL g (l 1) o e x (l 4) env ds (l 0) (prod (fun i:Nat=>optL g (l 1) o e env ds (l 0) (i:Int)) (l 0))):zs.length=l 0∧∃ vs,Fine g (l 1) ds (l 0) (rF zs) vs:=by
 obtain ⟨h4,h12,hk,hi⟩:=net_links hb
 have hn1:=one_router hb
 have hc:=fun i hi=>(link_facts (hk i hi) h4).2.2
 have hin:=links_in hb
 unfold statesL at h
 obtain ⟨vs,hv,rfl⟩:=List.mem_map.1 h
 obtain ⟨hp,hg⟩:=List.mem_filter.1 hv
 unfold goodB at hg
 rw [Bool.and_eq_true] at hg
 obtain ⟨hok,hst⟩:=hg
 have hlen:(stateOf g (l 1) o e x (l 4) env ds (l 0) vs).length=l 0:=by unfold stateOf;simp
 have hR:∀ i,i<l 0→valR g (l 1) o e x (l 4) env ds vs (l 0) i=rF (stateOf g (l 1) o e x (l 4) env ds (l 0) vs) i:=fun i hi=>by
  unfold rF stateOf
  rw [List.getElem?_map,List.getElem?_range hi]
  rfl
 have hval:∀ i,i<l 0→val g (l 1) o e x (l 4) env ds vs (l 0) (i:Int)=some (valR g (l 1) o e x (l 4) env ds vs (l 0) i):=fun i hi=>by
  have:=allN_iff.1 hok i hi
  unfold valR
  cases hq:val g (l 1) o e x (l 4) env ds vs (l 0) (i:Int) with
  | none=>rw [hq] at this;cases this
  | some r=>rfl
 have hvia:∀ i,i<l 0→(valR g (l 1) o e x (l 4) env ds vs (l 0) i).via=zAt vs i:=fun i hi=>by
  have:=val_via (hval i hi)
  rw [Int.toNat_natCast] at this
  exact this
 have hb3:=fun i hi=>stab_via hn1 hst (i:=i) hi
 have hv3:∀ i,-3≤zAt vs i:=fun i=>by
  by_cases hi:i<l 0
  · rw [← hvia i hi];exact (hb3 i hi).1
  · have hl:vs.length=l 0:=prod_len hp
    unfold zAt
    rw [List.getElem?_eq_none (by omega)]
    decide
 have hlen2:∀ i,i<l 0→0≤(valR g (l 1) o e x (l 4) env ds vs (l 0) i).len∧(valR g (l 1) o e x (l 4) env ds vs (l 0) i).len≤402:=fun i hi=>by
  have:=val_len hv3 hc (hval i hi)
  have h4':((l 0:Nat):Int)≤4:=by omega
  omega
 have hcand:∀ i,i<l 0→(valR g (l 1) o e x (l 4) env ds vs (l 0) i=noRt)∨(valR g (l 1) o e x (l 4) env ds vs (l 0) i∈candL g (l 1) o e x (l 4) env ds (valR g (l 1) o e x (l 4) env ds vs (l 0)) (l 0) (i:Int)):=fun i hi=>by
  rcases stab_or hst hi with h1|h1
  · exact .inl h1.1
  · exact .inr h1
 have himp:=hi
 have hlk:∀ i,i<l 0→0≤(valR g (l 1) o e x (l 4) env ds vs (l 0) i).via→0≤linkAt g (l 1) (i:Int) (valR g (l 1) o e x (l 4) env ds vs (l 0) i).via∧ds[(linkAt g (l 1) (i:Int) (valR g (l 1) o e x (l 4) env ds vs (l 0) i).via).toNat]?.getD false=false:=fun i hi h0=>by
  rcases hcand i hi with h1|h1
  · rw [h1] at h0;exact absurd h0 (by decide)
  · rcases cand_cases h1 with ⟨h2,_⟩|⟨h2,_⟩|⟨j,h2,hj,hm,_,_,h6⟩
    · omega
    · omega
    · rw [h2]
      refine ⟨h6,?_⟩
      unfold nbL at hm
      simp only [List.mem_map,List.mem_filter,List.mem_range] at hm
      obtain ⟨k,⟨_,hkb⟩,ek⟩:=hm
      have ek':k=j:=by omega
      subst ek'
      unfold nbB at hkb
      simp only [Bool.and_eq_true,Bool.not_eq_true'] at hkb
      exact hkb.2
 clear hi
 refine ⟨hlen,vs,?_,?_,fun i hi=>?_,fun i hi=>?_⟩
 · unfold routesB
   rw [decide_eq_true rfl,Bool.true_and]
   refine allN_of fun i hi=>?_
   rw [← hR i hi]
   rcases hcand i hi with h1|h1
   · rw [h1]
     unfold routeB noneB noRt inB
     simp
     omega
   · have h5:=cand_pref (fun j hj=>import_pref (himp j hj)) h1
     have h6:=hlen2 i hi
     have h7:=hlk i hi
     have h8 : -2≤(valR g (l 1) o e x (l 4) env ds vs (l 0) i).via∧(valR g (l 1) o e x (l 4) env ds vs (l 0) i).via<(l 0:Int):=by
      rcases cand_cases h1 with ⟨h2,_⟩|⟨h2,_⟩|⟨j,h2,hj,_⟩ <;> rw [h2] <;> omega
     generalize valR g (l 1) o e x (l 4) env ds vs (l 0) i=r at *
     unfold routeB inB
     simp only [Bool.and_eq_true,decide_eq_true_eq]
     refine ⟨⟨⟨⟨by omega,h5⟩,by omega⟩,?_⟩,?_⟩
     · by_cases h9:0≤r.via
       · have:=(h7 h9).1
         rw [decide_eq_false (show ¬ linkAt g (l 1) (i:Int) r.via<0 by omega),Bool.and_false]
         rfl
       · rw [decide_eq_false h9,Bool.false_and]
         rfl
     · rw [decide_eq_false (show ¬ r.via = -3 by omega),Bool.false_and]
       rfl
 · unfold anyDown
   rw [allN_of (p:=fun i=>!downB g (l 1) ds i (rF (stateOf g (l 1) o e x (l 4) env ds (l 0) vs) i)) (fun i hi=>?_)]
   · rfl
   · rw [← hR i hi]
     unfold downB
     by_cases h9:0≤linkAt g (l 1) (i:Int) (valR g (l 1) o e x (l 4) env ds vs (l 0) i).via
     · have h10:=(link_in hin h9).1
       rw [(hlk i hi h10).2,Bool.and_false]
       rfl
     · rw [decide_eq_false h9,Bool.false_and]
       rfl
 · rw [← hR i hi,hvia i hi]
 · obtain ⟨m,hm,hcn⟩:=val_cnt (by omega) (hval i hi)
   exact ⟨m,hm,hcn⟩
end Go.Proofs.YthompjbplddkgaaGreatDoor.walkMath
