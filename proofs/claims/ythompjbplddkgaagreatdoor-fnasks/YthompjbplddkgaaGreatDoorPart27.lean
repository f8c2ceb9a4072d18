import Derived.Test.YthompjbplddkgaaGreatDoorCandSpec
set_option linter.unusedVariables false
namespace Go.Proofs.YthompjbplddkgaaGreatDoor.sceneCand
open Go.RowKit Go.Deep Go base netSem routeRow nbSem candSem candImp hopSem intsOwn hopMake hopBetween sceneSem sceneBy candSpec
def lst (g : R) (nl : Nat) (o e : List Int) (x : R) (nx : Nat) (env : List Int) (ds : List Bool) (rs : Rs) (n : Nat) (router : Int) (k : Nat) : List Rt := (List.range k).flatMap fun i : Nat=>(byVia g nl o e x nx env ds rs n router ((i : Int) - 2)).toList
theorem lst_succ (g:R) (nl:Nat) (o e:List Int) (x:R) (nx:Nat) (env:List Int) (ds:List Bool) (rs:Rs) (n:Nat) (router:Int) (k:Nat):lst g nl o e x nx env ds rs n router (k+1)=lst g nl o e x nx env ds rs n router k ++ (byVia g nl o e x nx env ds rs n router ((k:Int) - 2)).toList:=by
 unfold lst
 rw [List.range_succ,List.flatMap_append]
 simp
end Go.Proofs.YthompjbplddkgaaGreatDoor.sceneCand
namespace Go.Proofs.YthompjbplddkgaaGreatDoor.candHole
open Go base netSem routeRow candSem
theorem hole (q:Nat→Int) (n:Nat) (hn:n≤4) (hq:∀ j,j≤n→0≤q j∧q j<n) (hc:∀ a b,q a=q b→q (a+1)=q (b+1)) (he:q (n+1)<0):False:=by
 have hs:∀ t a b,q a=q b→q (a+t)=q (b+t):=by
  intro t
  induction t with
  | zero=>intro a b h;exact h
  | succ t ih=>intro a b h;exact hc _ _ (ih a b h)
 have hne:∀ a b,a<b→b≤n→q a≠q b:=fun a b hab hb e=>by
  have h:=hs (n+1 - b) a b e
  rw [show b+(n+1 - b)=n+1 from by omega] at h
  have:=hq (a+(n+1 - b)) (by omega)
  omega
 obtain rfl|rfl|rfl|rfl|rfl:n=0∨n=1∨n=2∨n=3∨n=4:=by omega
 · have:=hq 0 (by omega);omega
 · have h0:=hq 0 (by omega)
   have h1:=hq 1 (by omega)
   have:=hne 0 1 (by omega) (by omega)
   omega
 · have h0:=hq 0 (by omega)
   have h1:=hq 1 (by omega)
   have h2:=hq 2 (by omega)
   have:=hne 0 1 (by omega) (by omega)
   have:=hne 0 2 (by omega) (by omega)
   have:=hne 1 2 (by omega) (by omega)
   omega
 · have h0:=hq 0 (by omega)
   have h1:=hq 1 (by omega)
   have h2:=hq 2 (by omega)
   have h3:=hq 3 (by omega)
   have:=hne 0 1 (by omega) (by omega)
   have:=hne 0 2 (by omega) (by omega)
   have:=hne 0 3 (by omega) (by omega)
   have:=hne 1 2 (by omega) (by omega)
   have:=hne 1 3 (by omega) (by omega)
   have:=hne 2 3 (by omega) (by omega)
   omega
 · have h0:=hq 0 (by omega)
   have h1:=hq 1 (by omega)
   have h2:=hq 2 (by omega)
   have h3:=hq 3 (by omega)
   have h4:=hq 4 (by omega)
   have n01:=hne 0 1 (by omega) (by omega)
   have n02:=hne 0 2 (by omega) (by omega)
   have n03:=hne 0 3 (by omega) (by omega)
   have n04:=hne 0 4 (by omega) (by omega)
   have n12:=hne 1 2 (by omega) (by omega)
   have n13:=hne 1 3 (by omega) (by omega)
   have n14:=hne 1 4 (by omega) (by omega)
   have n23:=hne 2 3 (by omega) (by omega)
   have n24:=hne 2 4 (by omega) (by omega)
   have n34:=hne 3 4 (by omega) (by omega)
   clear hne hs hc hq
   generalize q 0=a at *
   generalize q 1=b at *
   generalize q 2=c at *
   generalize q 3=d at *
   generalize q 4=e at *
   obtain rfl|rfl|rfl|rfl:a=0∨a=1∨a=2∨a=3:=by omega
   all_goals (obtain rfl|rfl|rfl|rfl:b=0∨b=1∨b=2∨b=3:=by omega) <;> omega
def wayQ (rs : Rs) (k : Int) : Nat→Int
 | 0=>k
 | i+1=>(rs (wayQ rs k i).toNat).via
theorem wayQ_shift (rs:Rs) (k:Int) (i:Nat):wayQ rs (rs k.toNat).via i=wayQ rs k (i+1):=by
 induction i with
 | zero=>rfl
 | succ i ih=>simp only [wayQ] at ih ⊢;rw [ih]
theorem thru_way (rs:Rs) (r:Int) (f:Nat) (k:Int) (hk:0≤k):thru rs r f k=false ↔ ∃ i,i<f∧(∀ j,j≤i→wayQ rs k j≠r∧0≤wayQ rs k j)∧wayQ rs k (i+1)<0:=by
 induction f generalizing k with
 | zero=>simp [thru]
 | succ f ih =>
  simp only [thru]
  by_cases h1:k=r
  · rw [if_pos h1]
    constructor
    · intro h;cases h
    · rintro ⟨i,_,hj,_⟩;exact absurd h1 (hj 0 (Nat.zero_le _)).1
  rw [if_neg h1,if_neg (by omega)]
  by_cases h2:(rs k.toNat).via<0
  · rw [if_pos h2]
    constructor
    · intro _
      refine ⟨0,by omega,fun j hj=>?_,h2⟩
      obtain rfl:j=0:=by omega
      exact ⟨h1,hk⟩
    · intro _;rfl
  rw [if_neg h2,ih _ (by omega)]
  constructor
  · rintro ⟨i,hi,hj,he⟩
    refine ⟨i+1,by omega,fun j hj'=>?_,by rw [← wayQ_shift];exact he⟩
    cases j with
    | zero=>exact ⟨h1,hk⟩
    | succ j=>rw [← wayQ_shift];exact hj j (by omega)
  · rintro ⟨i,hi,hj,he⟩
    cases i with
    | zero=>exact absurd he h2
    | succ i =>
     refine ⟨i,by omega,fun j hj'=>?_,by rw [wayQ_shift];exact he⟩
     rw [wayQ_shift];exact hj (j+1) (by omega)
theorem thru_more (rs:Rs) (r:Int) (n:Nat) (k:Int) (hn:n≤4) (hv:∀ i,i<n→(rs i).via<n) (hk:0≤k) (hk2:k<n):thru rs r (n+1) k=thru rs r n k:=by
 have h:thru rs r (n+1) k=false ↔ thru rs r n k=false:=by
  rw [thru_way _ _ _ _ hk,thru_way _ _ _ _ hk]
  constructor
  · rintro ⟨i,hi,hj,he⟩
    by_cases e:i=n
    · subst e
      have hb:∀ j,j≤i→0≤wayQ rs k j∧wayQ rs k j<i:=by
       intro j
       induction j with
       | zero=>intro _;exact ⟨hk,hk2⟩
       | succ j ih =>
        intro hj'
        refine ⟨(hj _ hj').2,?_⟩
        have h1:=ih (by omega)
        exact hv _ (by omega)
      exact (hole (wayQ rs k) i hn hb (fun a b e=>by simp only [wayQ];rw [e]) he).elim
    · exact ⟨i,by omega,hj,he⟩
  · rintro ⟨i,hi,hj,he⟩
    exact ⟨i,by omega,hj,he⟩
 cases e1:thru rs r (n+1) k <;> cases e2:thru rs r n k <;> simp_all
end Go.Proofs.YthompjbplddkgaaGreatDoor.candHole
namespace Go.Proofs.YthompjbplddkgaaGreatDoor.sceneList
open Go base netSem routeRow nbSem candSem sceneSem sceneCand candHole
theorem by_own (g:R) (nl:Nat) (o e:List Int) (x:R) (nx:Nat) (env:List Int) (ds:List Bool) (rs:Rs) (n:Nat) (router:Int):(byVia g nl o e x nx env ds rs n router (-2)).toList=ownC o router:=by
 unfold byVia openB ownC
 by_cases h:0≤hasAt o router <;> simp [h]
theorem by_ext (g:R) (nl:Nat) (o e:List Int) (x:R) (nx:Nat) (env:List Int) (ds:List Bool) (rs:Rs) (n:Nat) (router:Int) (he:∀ i,0≤zAt env i):(byVia g nl o e x nx env ds rs n router (-1)).toList=extC e env router:=by
 unfold byVia openB extC annA
 by_cases h:0≤hasAt e router
 · have h0:=he (hasAt e router).toNat
   by_cases h2:zAt env (hasAt e router).toNat=0
   · simp [h,h2]
   · have h3:0<zAt env (hasAt e router).toNat:=by omega
     simp [h,h2,h3]
     by_cases h4:zAt env (hasAt e router).toNat=2 <;> simp [h4]
 · simp [h]
theorem by_nb (g:R) (nl:Nat) (o e:List Int) (x:R) (nx:Nat) (env:List Int) (ds:List Bool) (rs:Rs) (n:Nat) (router:Int) (k:Nat) (hk:k<n) (hn:n≤4) (hv:∀ i,i<n→(rs i).via<n):(byVia g nl o e x nx env ds rs n router (k:Int)).toList=if nbB g nl ds router k then candOf g nl x nx rs n router k else []:=by
 unfold byVia openB candOf
 have e3:¬ ((k:Int) = -3):=by omega
 have e2:¬ ((k:Int) = -2):=by omega
 have e1:¬ ((k:Int) = -1):=by omega
 rw [if_neg e3,if_neg e2,if_neg e1,if_neg e3,if_neg e2,if_neg e1,thru_more rs router n k hn hv (by omega) (by omega),Int.toNat_natCast]
 cases nbB g nl ds router k with
 | false=>simp
 | true =>
  by_cases h1:(rs k).via = -3
  · simp [h1]
  · by_cases h2:thru rs router n k=true
    · simp [h2]
    · simp [h1,h2]
      cases impR g nl x nx router k (rs k) <;> rfl
theorem lst_two (g:R) (nl:Nat) (o e:List Int) (x:R) (nx:Nat) (env:List Int) (ds:List Bool) (rs:Rs) (n:Nat) (router:Int) (hn:n≤4) (hv:∀ i,i<n→(rs i).via<n) (he:∀ i,0≤zAt env i):∀ k,k≤n→lst g nl o e x nx env ds rs n router (k+2)=ownC o router ++ extC e env router ++ (nbL g nl ds router k).flatMap (candOf g nl x nx rs n router)
 | 0,_=>by
  rw [lst_succ,lst_succ]
  have h0:lst g nl o e x nx env ds rs n router 0=[]:=by simp [lst]
  rw [h0,show (((0:Nat):Int) - 2) = -2 from rfl,show (((0+1:Nat):Int) - 2) = -1 from rfl,by_own,by_ext _ _ _ _ _ _ _ _ _ _ _ he]
  simp [nbL]
 | k+1,hk=>by
  have ih:=lst_two g nl o e x nx env ds rs n router hn hv he k (by omega)
  rw [show k+1+2=(k+2)+1 from rfl,lst_succ,ih,show (((k+2:Nat):Int) - 2)=(k:Int) by omega,by_nb _ _ _ _ _ _ _ _ _ _ _ _ (by omega) hn hv,nbL_succ,List.flatMap_append,← List.append_assoc]
  congr 1
  cases nbB g nl ds router k <;> simp
theorem lst_cand (g:R) (nl:Nat) (o e:List Int) (x:R) (nx:Nat) (env:List Int) (ds:List Bool) (rs:Rs) (n:Nat) (router:Int) (hn:n≤4) (hv:∀ i,i<n→(rs i).via<n) (he:∀ i,0≤zAt env i):lst g nl o e x nx env ds rs n router (n+2)=candL g nl o e x nx env ds rs n router :=
 lst_two g nl o e x nx env ds rs n router hn hv he n (Nat.le_refl _)
end Go.Proofs.YthompjbplddkgaaGreatDoor.sceneList
namespace Go.Proofs.YthompjbplddkgaaGreatDoor.rofSem
open Go base netSem routeRow nbSem candSem sceneSem sceneCand sceneList candHole
def itr (vs : List Int) : Nat→Int→Int
 | 0,i=>i
 | k+1,i=>itr vs k (zAt vs i.toNat)
def cnt (vs : List Int) : Nat→Int→Bool
 | 0,i=>decide (i<0)
 | m+1,i=>decide (0≤i) && cnt vs m (zAt vs i.toNat)
theorem itr_succ (vs:List Int):∀ (k:Nat) (i:Int),itr vs (k+1) i=zAt vs (itr vs k i).toNat
 | 0,_=>rfl
 | k+1,i=>itr_succ vs k (zAt vs i.toNat)
theorem cnt_itr {vs:List Int}:∀ {m:Nat} {i:Int},cnt vs m i=true→(∀ j,j<m→0≤itr vs j i)∧itr vs m i<0
 | 0,i,h=>⟨fun j hj=>absurd hj (Nat.not_lt_zero _),of_decide_eq_true h⟩
 | m+1,i,h=>by
  simp only [cnt,Bool.and_eq_true,decide_eq_true_eq] at h
  obtain ⟨h1,h2⟩:=cnt_itr h.2
  refine ⟨fun j hj=>?_,h2⟩
  cases j with
  | zero=>exact h.1
  | succ j=>exact h1 j (by omega)
theorem cnt_one {vs:List Int} {m:Nat} {i:Int} (h:cnt vs m i=true) (hi:0≤i):∃ m',m=m' + 1∧cnt vs m' (zAt vs i.toNat)=true:=by
 cases m with
 | zero=>simp only [cnt,decide_eq_true_eq] at h;omega
 | succ m=>simp only [cnt,Bool.and_eq_true] at h;exact ⟨m,rfl,h.2⟩
theorem cnt_succ {vs:List Int} {m:Nat} {i:Int} (hi:0≤i) (h:cnt vs m (zAt vs i.toNat)=true):cnt vs (m+1) i=true:=by
 simp only [cnt,Bool.and_eq_true,decide_eq_true_eq];exact ⟨hi,h⟩
theorem cnt_uniq {vs:List Int} {m m':Nat} {i:Int} (h:cnt vs m i=true) (h':cnt vs m' i=true):m=m' := by
 obtain ⟨a1,a2⟩:=cnt_itr h
 obtain ⟨b1,b2⟩:=cnt_itr h'
 by_cases e:m<m'
 · have:=b1 m e;omega
 · by_cases e2:m' < m
   · have:=a1 m' e2;omega
   · omega
theorem itr_lt {vs:List Int} {n:Nat} (hv:∀ i,zAt vs i<n) {i:Int} (hi:i<n):∀ t,itr vs t i<n
 | 0=>hi
 | t+1=>by rw [itr_succ];exact hv _
theorem cnt_most {vs:List Int} {n m:Nat} {i:Int} (hn:n≤4) (hv:∀ i,zAt vs i<n) (hi:i<n) (h:cnt vs m i=true):m≤n:=by
 refine Nat.le_of_not_lt fun hlt=>?_
 obtain ⟨h1,h2⟩:=cnt_itr h
 refine hole (fun j=>itr vs (m - (n+1)+j) i) n hn (fun j hj=>⟨h1 _ (by omega),itr_lt hv hi _⟩) (fun a b e=>?_) ?_
 · show itr vs (m - (n+1)+a+1) i=itr vs (m - (n+1)+b+1) i
   have e:itr vs (m - (n+1)+a) i=itr vs (m - (n+1)+b) i:=e
   rw [itr_succ,itr_succ,e]
 · show itr vs (m - (n+1)+(n+1)) i<0
   rw [show m - (n+1)+(n+1)=m by omega]
   exact h2
def val (g : R) (nl : Nat) (o e : List Int) (x : R) (nx : Nat) (env : List Int) (ds : List Bool) (vs : List Int) : Nat→Int→Option Rt
 | 0,_=>none
 | f+1,i =>
  if openB g nl o e env ds i (zAt vs i.toNat)=false then none else if zAt vs i.toNat = -3 then some noRt else if zAt vs i.toNat = -2 then some ⟨-2,200,0,false⟩ else if zAt vs i.toNat = -1 then some ⟨-1,100,2,annA e env i == 2⟩
  else (val g nl o e x nx env ds vs f (zAt vs i.toNat)).bind fun r=>if r.via = -3 then none else impR g nl x nx i (zAt vs i.toNat) r
variable {g : R} {nl nx : Nat} {o e : List Int} {x : R} {env : List Int} {ds : List Bool} {vs : List Int} {n : Nat} {rs : Rs}
theorem by_val {f:Nat} {i:Int} (h:0≤zAt vs i.toNat→val g nl o e x nx env ds vs f (zAt vs i.toNat)=some (rs (zAt vs i.toNat).toNat)∧thru rs i n (zAt vs i.toNat)=false) (h3 : -3≤zAt vs i.toNat) :
  byVia g nl o e x nx env ds rs n i (zAt vs i.toNat)=val g nl o e x nx env ds vs (f+1) i:=by
 unfold byVia
 simp only [val]
 generalize zAt vs i.toNat=v at *
 split
 · rfl
 · split
   · rfl
   · split
     · rfl
     · split
       · rfl
       · obtain ⟨h1,h2⟩:=h (by omega)
         rw [h1,h2]
         simp
theorem val_via {f:Nat} {i:Int} {r:Rt} (h:val g nl o e x nx env ds vs f i=some r):r.via=zAt vs i.toNat:=by
 cases f with
 | zero=>cases h
 | succ f =>
  simp only [val] at h
  split at h
  · cases h
  · split at h
    · next e=>injection h with h;subst h;exact e.symm
    · split at h
      · next e=>injection h with h;subst h;exact e.symm
      · split at h
        · next e=>injection h with h;subst h;exact e.symm
        · cases hq:val g nl o e x nx env ds vs f (zAt vs i.toNat) with
          | none=>rw [hq] at h;cases h
          | some q =>
           rw [hq] at h
           simp only [Option.bind_some] at h
           split at h
           · cases h
           · exact (impK_via h).1
theorem link_lt {a b:Int} (h:0≤linkAt g nl a b):(linkAt g nl a b).toNat<nl:=by
 have:=(firstAt_bounds (hit g a b) nl).2
 unfold linkAt at h ⊢
 omega
theorem val_len (hv:∀ i,-3≤zAt vs i) (hc:∀ i,i<nl→0≤g i 2∧g i 2≤100):∀ {f:Nat} {i:Int} {r:Rt},val g nl o e x nx env ds vs f i=some r→0≤r.len∧r.len≤2+100*(f:Int)
 | 0,i,r,h=>by cases h
 | f+1,i,r,h=>by
  have h3:=hv i.toNat
  simp only [val] at h
  split at h
  · cases h
  · next hop =>
    split at h
    · injection h with h;subst h;simp [noRt];omega
    · split at h
      · injection h with h;subst h;simp;omega
      · split at h
        · injection h with h;subst h;simp;omega
        · cases hq:val g nl o e x nx env ds vs f (zAt vs i.toNat) with
          | none=>rw [hq] at h;cases h
          | some q =>
           rw [hq] at h
           simp only [Option.bind_some] at h
           split at h
           · cases h
           · have hl:=(impK_via h).2
             obtain ⟨q1,q2⟩:=val_len hv hc hq
             have hb:openB g nl o e env ds i (zAt vs i.toNat)=true:=by simpa using hop
             unfold openB at hb
             rw [if_neg (by assumption),if_neg (by assumption),if_neg (by assumption)] at hb
             unfold nbB at hb
             simp only [Bool.and_eq_true,decide_eq_true_eq] at hb
             have hz:((zAt vs i.toNat).toNat:Int)=zAt vs i.toNat:=by omega
             rw [hz] at hb
             obtain ⟨c1,c2⟩:=hc _ (link_lt hb.1)
             rw [hl]
             unfold startI
             simp only
             omega
theorem val_cnt : ∀ {f : Nat} {i : Int} {r : Rt},0≤i→val g nl o e x nx env ds vs f i=some r→∃ m,m≤f∧cnt vs m i=true
 | 0,i,r,_,h=>by cases h
 | f+1,i,r,hi,h=>by
  by_cases h0:zAt vs i.toNat<0
  · exact ⟨1,by omega,cnt_succ hi (decide_eq_true h0)⟩
  · simp only [val] at h
    split at h
    · cases h
    · rw [if_neg (by omega),if_neg (by omega),if_neg (by omega)] at h
      cases hq:val g nl o e x nx env ds vs f (zAt vs i.toNat) with
      | none=>rw [hq] at h;cases h
      | some q =>
       obtain ⟨m,hm,hc⟩:=val_cnt (by omega) hq
       exact ⟨m+1,by omega,cnt_succ hi hc⟩
theorem val_stays (hv:∀ i,-3≤zAt vs i):∀ {m f:Nat} {i:Int},cnt vs m i=true→0≤i→m≤f→val g nl o e x nx env ds vs f i=val g nl o e x nx env ds vs m i
 | 0,f,i,h,hi,_=>by simp only [cnt,decide_eq_true_eq] at h;omega
 | m+1,0,i,h,hi,hf=>absurd hf (by omega)
 | m+1,f+1,i,h,hi,hf=>by
  have h3:=hv i.toNat
  simp only [cnt,Bool.and_eq_true] at h
  by_cases h0:0≤zAt vs i.toNat
  · simp only [val]
    rw [val_stays hv h.2 h0 (by omega)]
  · simp only [val]
    by_cases e3:zAt vs i.toNat = -3
    · simp [e3]
    · by_cases e2:zAt vs i.toNat = -2
      · simp [e2]
      · have e1:zAt vs i.toNat = -1:=by omega
        simp [e1]
theorem thru_no {D:Nat→Bool} (hD:∀ j,D j=true→(rs j).via=zAt vs j∧(0≤zAt vs j→D (zAt vs j).toNat=true)) {r:Int} {M:Nat} (hr:cnt vs M r=true):∀ {m f:Nat} {k:Int},cnt vs m k=true→0≤k→D k.toNat=true→m<M→m≤f→thru rs r f k=false
 | 0,f,k,h,hk,_,_,_=>by simp only [cnt,decide_eq_true_eq] at h;omega
 | m+1,0,k,h,hk,_,_,hf=>absurd hf (by omega)
 | m+1,f+1,k,h,hk,hd,hM,hf=>by
  simp only [thru]
  rw [if_neg (fun e=>by subst e;have:=cnt_uniq h hr;omega),if_neg (by omega),(hD _ hd).1]
  split
  · rfl
  · next h0 =>
    simp only [cnt,Bool.and_eq_true] at h
    exact thru_no hD hr h.2 (by omega) ((hD _ hd).2 (by omega)) (by omega) (by omega)
structure St (g : R) (nl : Nat) (o e : List Int) (x : R) (nx : Nat) (env : List Int) (ds : List Bool) (vs : List Int) (n : Nat) (D : Nat→Bool) (rs : Rs) : Prop where
 low:∀ j,D j=true→j<n
 has:∀ j,D j=true→val g nl o e x nx env ds vs n (j:Int)=some (rs j)
 next:∀ j,D j=true→0≤zAt vs j→D (zAt vs j).toNat=true
 rest:∀ j,j<n→D j=false→rs j=noRt
def put (f : Nat→Bool) (i : Nat) : Nat→Bool := fun j=>if j=i then true else f j
def putR (rs : Rs) (i : Nat) (r : Rt) : Rs := fun j=>if j=i then r else rs j
theorem St.start : St g nl o e x nx env ds vs n (fun _=>false) (fun _=>noRt):=⟨fun j h=>(by cases h),fun j h=>(by cases h),fun j h=>(by cases h),fun j _ _=>rfl⟩
theorem St.via {D:Nat→Bool} (h:St g nl o e x nx env ds vs n D rs) {j:Nat} (hj:D j=true):(rs j).via=zAt vs j:=by
 have:=val_via (h.has j hj)
 rwa [Int.toNat_natCast] at this
theorem St.by {D:Nat→Bool} (h:St g nl o e x nx env ds vs n D rs) (hn:n≤4) (hv:∀ i,-3≤zAt vs i∧zAt vs i<n) {i:Nat} (hi:i<n) {M:Nat} (hM:cnt vs M (i:Int)=true) (hd:0≤zAt vs i→D (zAt vs i).toNat=true) :
  byVia g nl o e x nx env ds rs n (i:Int) (zAt vs i)=val g nl o e x nx env ds vs n (i:Int):=by
 have hMn:=cnt_most hn (fun i=>(hv i).2) (by omega) hM
 obtain ⟨m,rfl,hm⟩:=cnt_one hM (by omega)
 have h1:=by_val (g:=g) (nl:=nl) (o:=o) (e:=e) (x:=x) (nx:=nx) (env:=env) (ds:=ds) (vs:=vs) (rs:=rs) (n:=n) (f:=m) (i:=(i:Int)) (fun h0=>by
  rw [Int.toNat_natCast] at h0 hm ⊢
  have hd:=hd h0
  refine ⟨?_,thru_no (D:=D) (fun j hj=>⟨h.via hj,h.next j hj⟩) hM hm h0 hd (by omega) (by omega)⟩
  rw [← val_stays (fun i=>(hv i).1) hm h0 (show m≤n by omega)]
  have:=h.has _ hd
  rwa [Int.toNat_of_nonneg h0] at this) (by rw [Int.toNat_natCast];exact (hv i).1)
 rw [Int.toNat_natCast] at h1
 rw [h1,← val_stays (fun i=>(hv i).1) hM (by omega) hMn]
theorem St.put {D:Nat→Bool} (h:St g nl o e x nx env ds vs n D rs) {i:Nat} (hi:i<n) {r:Rt} (hr:val g nl o e x nx env ds vs n (i:Int)=some r) (hd:0≤zAt vs i→D (zAt vs i).toNat=true):St g nl o e x nx env ds vs n (put D i) (putR rs i r):=by
 refine ⟨fun j hj=>?_,fun j hj=>?_,fun j hj h0=>?_,fun j hjn hj=>?_⟩
 · unfold rofSem.put at hj
   split at hj
   · omega
   · exact h.low j hj
 · unfold putR
   unfold rofSem.put at hj
   split
   · next e=>subst e;exact hr
   · next e=>rw [if_neg e] at hj;exact h.has j hj
 · unfold rofSem.put at hj ⊢
   split
   · rfl
   · split at hj
     · next e=>subst e;exact hd h0
     · exact h.next j hj h0
 · unfold rofSem.put at hj
   unfold putR
   split at hj
   · cases hj
   · next e=>rw [if_neg e];exact h.rest j hjn hj
theorem St.bounds {D:Nat→Bool} (h:St g nl o e x nx env ds vs n D rs) (hn:n≤4) (hv:∀ i,-3≤zAt vs i∧zAt vs i<n) (hc:∀ i,i<nl→0≤g i 2∧g i 2≤100) {j:Nat} (hj:j<n):(-3≤(rs j).via∧(rs j).via<n)∧0≤(rs j).len∧(rs j).len≤402:=by
 cases hd:D j with
 | true =>
  rw [h.via hd]
  have:=val_len (fun i=>(hv i).1) hc (h.has j hd)
  exact ⟨hv j,by omega,by omega⟩
 | false =>
  rw [h.rest j hj hd]
  simp [noRt]
  omega
def okV (g : R) (nl : Nat) (o e : List Int) (x : R) (nx : Nat) (env : List Int) (ds : List Bool) (vs : List Int) (n : Nat) : Bool := allN (fun i : Nat=>(val g nl o e x nx env ds vs n (i : Int)).isSome) n
def valR (g : R) (nl : Nat) (o e : List Int) (x : R) (nx : Nat) (env : List Int) (ds : List Bool) (vs : List Int) (n : Nat) : Rs := fun i : Nat=>(val g nl o e x nx env ds vs n (i : Int)).getD noRt
theorem ok_all {D:Nat→Bool} (h:St g nl o e x nx env ds vs n D rs) (hd:∀ j,j<n→D j=true):okV g nl o e x nx env ds vs n=true∧∀ j,j<n→rs j=valR g nl o e x nx env ds vs n j :=
 ⟨allN_of fun i hi=>by rw [h.has i (hd i hi)];rfl,fun j hj=>by unfold valR;rw [h.has j (hd j hj)];rfl⟩
theorem ok_none {i:Nat} (hi:i<n) (h:val g nl o e x nx env ds vs n (i:Int)=none):okV g nl o e x nx env ds vs n=false:=allN_false hi (by rw [h];rfl)
theorem val_none {i:Int} (h:∀ m,m≤n→cnt vs m i=false) (hi:0≤i):val g nl o e x nx env ds vs n i=none:=by
 cases hq:val g nl o e x nx env ds vs n i with
 | none=>rfl
 | some r =>
  obtain ⟨m,hm,hc⟩:=val_cnt hi hq
  rw [h m hm] at hc
  cases hc
def pick (v : Int) (zs : List Rt) : Option Rt := zs.foldl (fun a r=>if r.via=v then some r else a) none
theorem pick_snoc (v:Int) (zs:List Rt) (r:Rt):pick v (zs ++ [r])=if r.via=v then some r else pick v zs:=by simp [pick]
theorem by_via {i v:Int} {r:Rt} (h:byVia g nl o e x nx env ds rs n i v=some r):r.via=v:=by
 unfold byVia at h
 split at h
 · cases h
 · split at h
   · next e=>injection h with h;subst h;exact e.symm
   · split at h
     · next e=>injection h with h;subst h;exact e.symm
     · split at h
       · next e=>injection h with h;subst h;exact e.symm
       · split at h
         · cases h
         · exact (impK_via h).1
theorem pick_lst {i v:Int} (hv : -2≤v):∀ k,pick v (lst g nl o e x nx env ds rs n i k)=if v<(k:Int) - 2 then byVia g nl o e x nx env ds rs n i v else none
 | 0=>by rw [if_neg (by omega)];rfl
 | k+1=>by
  rw [lst_succ]
  have ih:=pick_lst (i:=i) hv k
  cases hb:byVia g nl o e x nx env ds rs n i ((k:Int) - 2) with
  | none =>
   simp only [Option.toList_none,List.append_nil]
   rw [ih]
   by_cases e1:v<(k:Int) - 2
   · rw [if_pos e1,if_pos (by omega)]
   · rw [if_neg e1]
     split
     · next e2=>rw [show v=(k:Int) - 2 by omega,hb]
     · rfl
  | some r =>
   simp only [Option.toList_some]
   rw [pick_snoc,by_via hb,ih]
   by_cases e1:(k:Int) - 2=v
   · rw [if_pos e1,if_pos (by omega),← e1,hb]
   · rw [if_neg e1]
     by_cases e2:v<(k:Int) - 2
     · rw [if_pos e2,if_pos (by omega)]
     · rw [if_neg e2,if_neg (by omega)]
theorem pick_cand {i v:Int} (hn:n≤4) (hvr:∀ i,i<n→(rs i).via<n) (he:∀ i,0≤zAt env i) (h2 : -2≤v) (hv:v<n):pick v (candL g nl o e x nx env ds rs n i)=byVia g nl o e x nx env ds rs n i v:=by
 rw [← lst_cand g nl o e x nx env ds rs n i hn hvr he,pick_lst h2,if_pos (by omega)]
end Go.Proofs.YthompjbplddkgaaGreatDoor.rofSem
namespace Go.Proofs.YthompjbplddkgaaGreatDoor.rtsHeld
open Go.RowKit Go.Deep Go base routeRow intsOwn candSem
end Go.Proofs.YthompjbplddkgaaGreatDoor.rtsHeld
