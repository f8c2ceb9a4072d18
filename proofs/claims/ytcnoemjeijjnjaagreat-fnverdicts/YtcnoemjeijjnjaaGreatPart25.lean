import Derived.Maps.AppendAt
import Derived.Test.YtcnoemjeijjnjaaGreatPart24
import Derived.Test.YtcnoemjeijjnjaaGreatPart18
set_option linter.unusedVariables false
namespace Go.Proofs.YtcnoemjeijjnjaaGreat.rofSem
open Go base netSem routeRow nbSem candSem sceneSem sceneCand sceneList candHole
def itr (vs : List Int) : Nat→Int→Int
 | 0,i=>i
 | k+1,i=>itr vs k (zAt vs i.toNat)
def cnt (vs : List Int) : Nat→Int→Bool
 | 0,i=>decide (i<0)
 | m+1,i=>decide (0≤i)&&cnt vs m (zAt vs i.toNat)
theorem itr_succ (vs:List Int):∀(k:Nat) (i:Int),itr vs (k+1) i=zAt vs (itr vs k i).toNat
 | 0,_=>rfl
 | k+1,i=>itr_succ vs k (zAt vs i.toNat)
theorem cnt_of {vs:List Int}:∀ {m:Nat} {i:Int},(∀j,j<m→0≤itr vs j i)→itr vs m i<0→cnt vs m i=true
 | 0,i,_,h=>decide_eq_true h
 | m+1,i,h1,h2=>by
  simp only[cnt,Bool.and_eq_true,decide_eq_true_eq];exact⟨h1 0 Om,cnt_of (fun j hj=>h1 (j+1) Om) h2⟩
theorem cnt_itr {vs:List Int}:∀ {m:Nat} {i:Int},cnt vs m i=true→(∀j,j<m→0≤itr vs j i)∧itr vs m i<0
 | 0,i,h=>⟨fun j hj=>absurd hj (Nat.not_lt_zero _),of_decide_eq_true h⟩
 | m+1,i,h=>by
  simp only[cnt,Bool.and_eq_true,decide_eq_true_eq]at h;obtain⟨h1,h2⟩:=cnt_itr h.2;refine⟨fun j hj=>?_,h2⟩
  cases j with
  | zero=>exact h.1
  | succ j=>exact h1 j Om
theorem cnt_one {vs:List Int} {m:Nat} {i:Int} (h:cnt vs m i=true) (hi:0≤i):∃m',m=m' + 1∧cnt vs m' (zAt vs i.toNat)=true:=by
 cases m with
 | zero=>simp only[cnt,decide_eq_true_eq]at h;omega
 | succ m=>simp only[cnt,Bool.and_eq_true]at h;exact⟨m,rfl,h.2⟩
theorem cnt_succ {vs:List Int} {m:Nat} {i:Int} (hi:0≤i) (h:cnt vs m (zAt vs i.toNat)=true):cnt vs (m+1) i=true:=by
 simp only[cnt,Bool.and_eq_true,decide_eq_true_eq];exact⟨hi,h⟩
theorem cnt_uniq {vs:List Int} {m m':Nat} {i:Int} (h:cnt vs m i=true) (h':cnt vs m' i=true):m=m' := by
 obtain⟨a1,a2⟩:=cnt_itr h;obtain⟨b1,b2⟩:=cnt_itr h';by_cases e:m<m'
 · have:=b1 m e;omega
 by_cases e2:m' < m
 · have:=a1 m' e2;omega
 omega
theorem cnt_at {vs:List Int}:∀ {t m:Nat} {i:Int},cnt vs m i=true→t≤m→cnt vs (m - t) (itr vs t i)=true
 | 0,m,i,h,_=>h
 | t+1,0,i,h,ht=>absurd ht Om
 | t+1,m+1,i,h,ht=>by
  simp only[cnt,Bool.and_eq_true]at h;rw[show m+1 - (t+1)=m - t by omega];exact cnt_at h.2 Om
theorem itr_lt {vs:List Int} {n:Nat} (hv:∀i,zAt vs i<n) {i:Int} (hi:i<n):∀t,itr vs t i<n
 | 0=>hi
 | t+1=>by rw[itr_succ];exact hv _
theorem cnt_most {vs:List Int} {n m:Nat} {i:Int} (hn:n≤4) (hv:∀i,zAt vs i<n) (hi:i<n) (h:cnt vs m i=true):m≤n:=by
 refine Nat.le_of_not_lt fun hlt=>?_;obtain⟨h1,h2⟩:=cnt_itr h;refine hole (fun j=>itr vs (m - (n+1)+j) i) n hn (fun j hj=>⟨h1 _ Om,itr_lt hv hi _⟩) (fun a b e=>?_) ?_
 · show itr vs (m - (n+1)+a+1) i=itr vs (m - (n+1)+b+1) i
   have e:itr vs (m - (n+1)+a) i=itr vs (m - (n+1)+b) i:=e;rw[itr_succ,itr_succ,e]
 show itr vs (m - (n+1)+(n+1)) i<0
 rw[show m - (n+1)+(n+1)=m by omega];exact h2
def val (g : R) (nl : Nat) (o e : List Int) (x : R) (nx : Nat) (env : List Int) (ds : List Bool) (vs : List Int) : Nat→Int→Option Rt
 | 0,_=>none
 | f+1,i =>
  if openB g nl o e env ds i (zAt vs i.toNat)=false then none else if zAt vs i.toNat = -3 then some noRt else if zAt vs i.toNat = -2 then some ⟨-2,200,0,false⟩ else if zAt vs i.toNat = -1 then some ⟨-1,100,2,annA e env i==2⟩
  else (val g nl o e x nx env ds vs f (zAt vs i.toNat)).bind fun r=>if r.via = -3 then none else impR g nl x nx i (zAt vs i.toNat) r
variable {g : R} {nl nx : Nat} {o e : List Int} {x : R} {env : List Int} {ds : List Bool} {vs : List Int} {n : Nat} {rs : Rs}
theorem by_val {f:Nat} {i:Int} (h:0≤zAt vs i.toNat→val g nl o e x nx env ds vs f (zAt vs i.toNat)=some (rs (zAt vs i.toNat).toNat)∧thru rs i n (zAt vs i.toNat)=false) (h3 : -3≤zAt vs i.toNat) :
  byVia g nl o e x nx env ds rs n i (zAt vs i.toNat)=val g nl o e x nx env ds vs (f+1) i:=by
 unfold byVia;simp only[val];generalize zAt vs i.toNat=v at *
 split
 · rfl
 split
 · rfl
 split
 · rfl
 split
 · rfl
 obtain⟨h1,h2⟩:=h Om;rw[h1,h2];simp
theorem val_via {f:Nat} {i:Int} {r:Rt} (h:val g nl o e x nx env ds vs f i=some r):r.via=zAt vs i.toNat:=by
 cases f with
 | zero=>cases h
 | succ f =>
  simp only[val]at h
  split at h
  · cases h
  split at h
  · next e=>injection h with h;subst h;exact e.symm
  split at h
  · next e=>injection h with h;subst h;exact e.symm
  split at h
  · next e=>injection h with h;subst h;exact e.symm
  cases hq:val g nl o e x nx env ds vs f (zAt vs i.toNat) with
  | none=>rw[hq]at h;cases h
  | some q =>
   rw[hq]at h;simp only[Option.bind_some]at h
   split at h
   · cases h
   exact(impK_via h).1
theorem link_lt {a b:Int} (h:0≤linkAt g nl a b):(linkAt g nl a b).toNat<nl:=by
 have:=(firstAt_bounds (hit g a b) nl).2;unfold linkAt at h ⊢;omega
theorem val_len (hv:∀i,-3≤zAt vs i) (hc:∀i,i<nl→0≤g i 2∧g i 2≤100):∀ {f:Nat} {i:Int} {r:Rt},val g nl o e x nx env ds vs f i=some r→0≤r.len∧r.len≤2+100*(f:Int)
 | 0,i,r,h=>by cases h
 | f+1,i,r,h=>by
  have h3:=hv i.toNat;simp only[val]at h
  split at h
  · cases h
  next hop =>
  split at h
  · injection h with h;subst h;simp[noRt];omega
  split at h
  · injection h with h;subst h;simp;omega
  split at h
  · injection h with h;subst h;simp;omega
  cases hq:val g nl o e x nx env ds vs f (zAt vs i.toNat) with
  | none=>rw[hq]at h;cases h
  | some q =>
   rw[hq]at h;simp only[Option.bind_some]at h
   split at h
   · cases h
   have hl:=(impK_via h).2;obtain⟨q1,q2⟩:=val_len hv hc hq;have hb:openB g nl o e env ds i (zAt vs i.toNat)=true:=by simpa using hop
   unfold openB at hb;rw[if_neg (by assumption),if_neg (by assumption),if_neg (by assumption)]at hb;unfold nbB at hb;simp only[Bool.and_eq_true,decide_eq_true_eq]at hb;have hz:((zAt vs i.toNat).toNat:Int)=zAt vs i.toNat:=by omega
   rw[hz]at hb;obtain⟨c1,c2⟩:=hc _ (link_lt hb.1);rw[hl];unfold startI;simp only;omega
theorem val_cnt : ∀ {f : Nat} {i : Int} {r : Rt},0≤i→val g nl o e x nx env ds vs f i=some r→∃m,m≤f∧cnt vs m i=true
 | 0,i,r,_,h=>by cases h
 | f+1,i,r,hi,h=>by
  by_cases h0:zAt vs i.toNat<0
  · exact⟨1,by omega,cnt_succ hi (decide_eq_true h0)⟩
  simp only[val]at h
  split at h
  · cases h
  rw[if_neg Om,if_neg Om,if_neg Om]at h
  cases hq:val g nl o e x nx env ds vs f (zAt vs i.toNat) with
  | none=>rw[hq]at h;cases h
  | some q =>
   obtain⟨m,hm,hc⟩:=val_cnt Om hq;exact⟨m+1,by omega,cnt_succ hi hc⟩
theorem val_stays (hv:∀i,-3≤zAt vs i):∀ {m f:Nat} {i:Int},cnt vs m i=true→0≤i→m≤f→val g nl o e x nx env ds vs f i=val g nl o e x nx env ds vs m i
 | 0,f,i,h,hi,_=>by simp only[cnt,decide_eq_true_eq]at h;omega
 | m+1,0,i,h,hi,hf=>absurd hf Om
 | m+1,f+1,i,h,hi,hf=>by
  have h3:=hv i.toNat;simp only[cnt,Bool.and_eq_true]at h;by_cases h0:0≤zAt vs i.toNat
  · simp only[val];rw[val_stays hv h.2 h0 Om]
  simp only[val];by_cases e3:zAt vs i.toNat = -3
  · simp[e3]
  by_cases e2:zAt vs i.toNat = -2
  · simp[e2]
  have e1:zAt vs i.toNat = -1:=by omega
  simp[e1]
theorem thru_no {D:Nat→Bool} (hD:∀j,D j=true→(rs j).via=zAt vs j∧(0≤zAt vs j→D (zAt vs j).toNat=true)) {r:Int} {M:Nat} (hr:cnt vs M r=true):∀ {m f:Nat} {k:Int},cnt vs m k=true→0≤k→D k.toNat=true→m<M→m≤f→thru rs r f k=false
 | 0,f,k,h,hk,_,_,_=>by simp only[cnt,decide_eq_true_eq]at h;omega
 | m+1,0,k,h,hk,_,_,hf=>absurd hf Om
 | m+1,f+1,k,h,hk,hd,hM,hf=>by
  simp only[thru];rw[if_neg (fun e=>by subst e;have:=cnt_uniq h hr;omega),if_neg Om,(hD _ hd).1]
  split
  · rfl
  next h0 =>
  simp only[cnt,Bool.and_eq_true]at h;exact thru_no hD hr h.2 Om ((hD _ hd).2 Om) Om Om
structure St (g : R) (nl : Nat) (o e : List Int) (x : R) (nx : Nat) (env : List Int) (ds : List Bool) (vs : List Int) (n : Nat) (D : Nat→Bool) (rs : Rs) : Prop where
 low:∀j,D j=true→j<n
 has:∀j,D j=true→val g nl o e x nx env ds vs n (j:Int)=some (rs j)
 next:∀j,D j=true→0≤zAt vs j→D (zAt vs j).toNat=true
 rest:∀j,j<n→D j=false→rs j=noRt
def put (f : Nat→Bool) (i : Nat) : Nat→Bool := fun j=>if j=i then true else f j
def putR (rs : Rs) (i : Nat) (r : Rt) : Rs := fun j=>if j=i then r else rs j
theorem St.start : St g nl o e x nx env ds vs n (fun _=>false) (fun _=>noRt):=⟨fun j h=>(by cases h),fun j h=>(by cases h),fun j h=>(by cases h),fun j _ _=>rfl⟩
theorem St.via {D:Nat→Bool} (h:St g nl o e x nx env ds vs n D rs) {j:Nat} (hj:D j=true):(rs j).via=zAt vs j:=by
 have:=val_via (h.has j hj)
 rwa [Int.toNat_natCast]at this
theorem St.by {D:Nat→Bool} (h:St g nl o e x nx env ds vs n D rs) (hn:n≤4) (hv:∀i,-3≤zAt vs i∧zAt vs i<n) {i:Nat} (hi:i<n) {M:Nat} (hM:cnt vs M (i:Int)=true) (hd:0≤zAt vs i→D (zAt vs i).toNat=true) :
  byVia g nl o e x nx env ds rs n (i:Int) (zAt vs i)=val g nl o e x nx env ds vs n (i:Int):=by
 have hMn:=cnt_most hn (fun i=>(hv i).2) Om hM;obtain⟨m,rfl,hm⟩:=cnt_one hM Om
 have h1:=by_val (g:=g) (nl:=nl) (o:=o) (e:=e) (x:=x) (nx:=nx) (env:=env) (ds:=ds) (vs:=vs) (rs:=rs) (n:=n) (f:=m) (i:=(i:Int)) (fun h0=>by
  rw[Int.toNat_natCast]at h0 hm ⊢;have hd:=hd h0;refine⟨?_,thru_no (D:=D) (fun j hj=>⟨h.via hj,h.next j hj⟩) hM hm h0 hd Om Om⟩;rw[←val_stays (fun i=>(hv i).1) hm h0 (show m≤n by omega)];have:=h.has _ hd
  rwa [Int.toNat_of_nonneg h0]at this) (by rw[Int.toNat_natCast];exact(hv i).1)
 rw[Int.toNat_natCast]at h1;rw[h1,←val_stays (fun i=>(hv i).1) hM Om hMn]
theorem St.put {D:Nat→Bool} (h:St g nl o e x nx env ds vs n D rs) {i:Nat} (hi:i<n) {r:Rt} (hr:val g nl o e x nx env ds vs n (i:Int)=some r) (hd:0≤zAt vs i→D (zAt vs i).toNat=true):St g nl o e x nx env ds vs n (put D i) (putR rs i r):=by
 refine⟨fun j hj=>?_,fun j hj=>?_,fun j hj h0=>?_,fun j hjn hj=>?_⟩
 · unfold rofSem.put at hj
   split at hj
   · omega
   exact h.low j hj
 · unfold putR;unfold rofSem.put at hj
   split
   · next e=>subst e;exact hr
   next e=>rw[if_neg e]at hj;exact h.has j hj
 · unfold rofSem.put at hj ⊢
   split
   · rfl
   split at hj
   · next e=>subst e;exact hd h0
   exact h.next j hj h0
 unfold rofSem.put at hj;unfold putR
 split at hj
 · cases hj
 next e=>rw[if_neg e];exact h.rest j hjn hj
theorem St.bounds {D:Nat→Bool} (h:St g nl o e x nx env ds vs n D rs) (hn:n≤4) (hv:∀i,-3≤zAt vs i∧zAt vs i<n) (hc:∀i,i<nl→0≤g i 2∧g i 2≤100) {j:Nat} (hj:j<n):(-3≤(rs j).via∧(rs j).via<n)∧0≤(rs j).len∧(rs j).len≤402:=by
 cases hd:D j with
 | true =>
  rw[h.via hd];have:=val_len (fun i=>(hv i).1) hc (h.has j hd);exact⟨hv j,by omega,by omega⟩
 | false =>
  rw[h.rest j hj hd];simp[noRt];omega
theorem way_step {D:Nat→Bool} (hn:n≤4) (hv:∀i,-3≤zAt vs i∧zAt vs i<n) {m:Nat} {k:Int} (hc:cnt vs (m+1) k=true) {t:Nat} (ht:t≤m) (hst:St g nl o e x nx env ds vs n D rs) (hall:∀t',t' < t→D (itr vs (m - t') k).toNat=true) (hlt:(itr vs (m - t) k).toNat<n) :
  byVia g nl o e x nx env ds rs n ((itr vs (m - t) k).toNat:Int) (zAt vs (itr vs (m - t) k).toNat)=val g nl o e x nx env ds vs n ((itr vs (m - t) k).toNat:Int) ∧
  ∀r,val g nl o e x nx env ds vs n ((itr vs (m - t) k).toNat:Int)=some r→St g nl o e x nx env ds vs n (put D (itr vs (m - t) k).toNat) (putR rs (itr vs (m - t) k).toNat r):=by
 obtain⟨h1,h2⟩:=cnt_itr hc;have h0:=h1 (m - t) Om
 have hd:0≤zAt vs (itr vs (m - t) k).toNat→D (zAt vs (itr vs (m - t) k).toNat).toNat=true:=by
  rw[←itr_succ];intro hz
  cases t with
  | zero =>
   exfalso;rw[Nat.sub_zero]at hz;omega
  | succ t' =>
   have:=hall t' Om
   rwa [show m - t' = m - (t' + 1)+1 by omega]at this
 have hM:cnt vs (t+1) ((itr vs (m - t) k).toNat:Int)=true:=by
  have:=cnt_at (t:=m - t) hc Om;rw[show m+1 - (m - t)=t+1 by omega]at this
  rwa [Int.toNat_of_nonneg h0]
 exact⟨hst.by hn hv hlt hM hd,fun r hr=>hst.put hlt hr hd⟩
def okV (g : R) (nl : Nat) (o e : List Int) (x : R) (nx : Nat) (env : List Int) (ds : List Bool) (vs : List Int) (n : Nat) : Bool := allN (fun i : Nat=>(val g nl o e x nx env ds vs n (i : Int)).isSome) n
def valR (g : R) (nl : Nat) (o e : List Int) (x : R) (nx : Nat) (env : List Int) (ds : List Bool) (vs : List Int) (n : Nat) : Rs := fun i : Nat=>(val g nl o e x nx env ds vs n (i : Int)).getD noRt
theorem ok_all {D:Nat→Bool} (h:St g nl o e x nx env ds vs n D rs) (hd:∀j,j<n→D j=true):okV g nl o e x nx env ds vs n=true∧∀j,j<n→rs j=valR g nl o e x nx env ds vs n j :=
 ⟨allN_of fun i hi=>by rw[h.has i (hd i hi)];rfl,fun j hj=>by unfold valR;rw[h.has j (hd j hj)];rfl⟩
theorem ok_none {i:Nat} (hi:i<n) (h:val g nl o e x nx env ds vs n (i:Int)=none):okV g nl o e x nx env ds vs n=false:=allN_false hi (by rw[h];rfl)
theorem val_none {i:Int} (h:∀m,m≤n→cnt vs m i=false) (hi:0≤i):val g nl o e x nx env ds vs n i=none:=by
 cases hq:val g nl o e x nx env ds vs n i with
 | none=>rfl
 | some r =>
  obtain⟨m,hm,hc⟩:=val_cnt hi hq;rw[h m hm]at hc;cases hc
theorem by_len {i v:Int} {r:Rt} {M:Int} (hv : -3≤v∧v<n) (hc:∀i,i<nl→0≤g i 2∧g i 2≤100) (hl:∀j,j<n→0≤(rs j).len∧(rs j).len≤M) (hM:2≤M) (h:byVia g nl o e x nx env ds rs n i v=some r):0≤r.len∧r.len≤M+100:=by
 unfold byVia at h
 split at h
 · cases h
 next hop =>
 split at h
 · injection h with h;subst h;simp[noRt];omega
 split at h
 · injection h with h;subst h;simp;omega
 split at h
 · injection h with h;subst h;simp;omega
 split at h
 · cases h
 have h2:=(impK_via h).2;have hb:openB g nl o e env ds i v=true:=by simpa using hop
 unfold openB at hb;rw[if_neg (by assumption),if_neg (by assumption),if_neg (by assumption)]at hb;unfold nbB at hb;simp only[Bool.and_eq_true,decide_eq_true_eq]at hb;have hz:(v.toNat:Int)=v:=by omega
 rw[hz]at hb;obtain⟨c1,c2⟩:=hc _ (link_lt hb.1);have:=hl v.toNat Om;rw[h2];unfold startI;simp only;omega
def pick (v : Int) (zs : List Rt) : Option Rt := zs.foldl (fun a r=>if r.via=v then some r else a) none
theorem pick_snoc (v:Int) (zs:List Rt) (r:Rt):pick v (zs++[r])=if r.via=v then some r else pick v zs:=by simp[pick]
theorem by_via {i v:Int} {r:Rt} (h:byVia g nl o e x nx env ds rs n i v=some r):r.via=v:=by
 unfold byVia at h
 split at h
 · cases h
 split at h
 · next e=>injection h with h;subst h;exact e.symm
 split at h
 · next e=>injection h with h;subst h;exact e.symm
 split at h
 · next e=>injection h with h;subst h;exact e.symm
 split at h
 · cases h
 exact(impK_via h).1
theorem pick_lst {i v:Int} (hv : -2≤v):∀k,pick v (lst g nl o e x nx env ds rs n i k)=if v<(k:Int) - 2 then byVia g nl o e x nx env ds rs n i v else none
 | 0=>by rw[if_neg Om];rfl
 | k+1=>by
  rw[lst_succ];have ih:=pick_lst (i:=i) hv k
  cases hb:byVia g nl o e x nx env ds rs n i ((k:Int) - 2) with
  | none =>
   simp only[Option.toList_none,List.append_nil];rw[ih];by_cases e1:v<(k:Int) - 2
   · rw[if_pos e1,if_pos Om]
   rw[if_neg e1]
   split
   · next e2=>rw[show v=(k:Int) - 2 by omega,hb]
   rfl
  | some r =>
   simp only[Option.toList_some];rw[pick_snoc,by_via hb,ih];by_cases e1:(k:Int) - 2=v
   · rw[if_pos e1,if_pos Om,←e1,hb]
   rw[if_neg e1];by_cases e2:v<(k:Int) - 2
   · rw[if_pos e2,if_pos Om]
   rw[if_neg e2,if_neg Om]
theorem pick_cand {i v:Int} (hn:n≤4) (hvr:∀i,i<n→(rs i).via<n) (he:∀i,0≤zAt env i) (h2 : -2≤v) (hv:v<n):pick v (candL g nl o e x nx env ds rs n i)=byVia g nl o e x nx env ds rs n i v:=by
 rw[←lst_cand g nl o e x nx env ds rs n i hn hvr he,pick_lst h2,if_pos Om]
end Go.Proofs.YtcnoemjeijjnjaaGreat.rofSem
namespace Go.Proofs.YtcnoemjeijjnjaaGreat.rofWay
open Go.RowKit Go.Deep Go base copy netSem intsOwn rofSem
def wayL (vs : List Int) (i : Int) (k : Nat) : List Int := (List.range k).map fun j=>itr vs j i
theorem wayL_len (vs:List Int) (i:Int) (k:Nat):(wayL vs i k).length=k:=by simp[wayL]
theorem wayL_succ (vs:List Int) (i:Int) (k:Nat):wayL vs i (k+1)=wayL vs i k++[itr vs k i]:=by simp[wayL,List.range_succ]
theorem wayL_get {vs:List Int} {i:Int} {k j:Nat} (h:j<k):(wayL vs i k)[j]?.getD 0=itr vs j i:=by simp[wayL,h]
def lenV : Value→Nat
 | .slice _ n _=>n
 | _=>0
set_option maxHeartbeats 1600000 in
set_option maxRecDepth 8000 in
theorem way_impl (va:Option Addr) (n cv:Nat) (vs:List Int) (i:Int) (w:World) (hr:IntRow w va n vs) (hv:∀j,zAt vs j<n) (hi:i<n) (hn:n≤4) :
  Calls Tryz.prog 65 #[.slice va n cv,.int .i64 i] w fun e w'=>Below w.heap.size w w'∧((∃(m:Nat) (v:Value),m≤n∧cnt vs m i=true∧e=.returned (.tuple #[v,.bool true])∧OwnInts w.heap.size w' v (wayL vs i m))∨(e=.returned (.tuple #[.slice none 0 0,.bool false])∧∀m,m≤n→cnt vs m i=false)):=by
 obtain⟨i0,hi0,hzz⟩:=Option.map_eq_some_iff.1 Tryz.info_int;simp only[Prod.mk.injEq]at hzz;obtain⟨hz0,hz1,hz2⟩:=hzz;have HI:=hid hi0;have HZ0:=hid hz0;have HZ1:=hid hz1;have HZ2:=hid hz2;clear hi0 hz0 hz1 hz2;have HR:=hid hr;have HV:=hid hv;have HIn:=hid hi;clear hr hv hi;go_enter Tryz.func65,Tryz.ntmps65;go_wp2;go_loopw [1,6] (fun f v wr=>∃k:Nat,k≤n∧f=.int .i64 (itr vs k i)∧(∀j,j<k→0≤itr vs j i)∧OwnInts w.heap.size wr v (wayL vs i k)∧Below w.heap.size w wr) (fun _ v _=>n+1 - lenV v)
 case atStart=>exact⟨0,Nat.zero_le _,rfl,fun j hj=>absurd hj (Nat.not_lt_zero _),OwnInts.nil _ _,Below.refl _ _⟩
 obtain⟨k,hk,rfl,ha,ho,hb⟩:=hrel;obtain⟨a,cap,rfl,_⟩:=ho.form;rw[wayL_len]at *;have HO:=hid ho;have HB:=hid hb;have HA:=hid ha;have hx:=itr_lt HV.out HIn.out k;have HX:Hid (itr vs (k+1) i=zAt vs (itr vs k i).toNat):=hid (itr_succ vs k i);have HW:=hid (wayL_succ vs i k);have HE:=hid (show itr vs k i<0→cnt vs k i=true from fun h=>cnt_of HA.out h)
 have HNo:=hid (show 0≤itr vs k i→∀m,m≤k→cnt vs m i=false from fun h m hm=>by
  cases hc:cnt vs m i with
  | false=>rfl
  | true =>
   have h2:=(cnt_itr hc).2;by_cases e:m=k
   · subst e;omega
   have:=HA.out m Om;omega)
 clear ho hb ha;obtain⟨x,hxe⟩:∃x,itr vs k i=x:=⟨_,rfl⟩;have HXe:=hid hxe;rw[hxe]at hx HX HW HE HNo ⊢;clear hxe;by_cases h0:0≤x
 · obtain⟨q,rfl⟩:∃q:Nat,x=(q:Int):=⟨x.toNat,by omega⟩;rw[Int.toNat_natCast]at HX;by_cases hkn:k=n
   · have dk:((k:Int)==(n:Int))=true:=by simp[hkn]
     have HNo2:Hid (∀m,m≤n→cnt vs m i=false):=hid (by rw[←hkn];exact HNo.out h0);have g0:decide ((0:Int)≤(q:Int))=true:=decide_eq_true h0;clear HNo HE;go_wp2;go_ret2;exact⟨HB.out,.inr ⟨rfl,HNo2.out⟩⟩
   have dk:((k:Int)==(n:Int))=false:=by simp;omega
   have g0:decide ((0:Int)≤(q:Int))=true:=decide_eq_true h0;have hq:q<n:=by omega
   have HS:=hid HB.out.size
   have HAn:Hid (∀j,j<k+1→0≤itr vs j i):=hid (fun j hj=>by
    by_cases e:j=k
    · subst e;rw[HXe.out];omega
    exact HA.out j Om)
   have hkb:k<4:=by omega
   have hk1:k+1≤n:=by omega
   clear HNo HE hkn;go_wp2_with (at_builtin;(refine wpList_append_own _ rfl _ _ 25 rfl w.heap.size 3 i0 (.int .i64 0) 1 8 Tryz.underlying25 HI.out HZ0.out HZ1.out HZ2.out rfl (by decide) _ _ _ rfl (World.ownsRow.alloc HO.out _) ⟨_,0,none⟩ 1 1 [.int .i64 (q:Int)] rfl rfl (cell_one_new _ _ _) (fun x hx=>by simp at hx;subst hx;rfl) (by rw[wayL_len];unfold maxLen;omega) (by rw[wayL_len];omega) (by have:=HS.out;simp;omega) ?_);intro v' w3 hown' hgrow3 hnil3;have HO2:Hid (OwnInts w.heap.size w3 v' (wayL vs i (k+1))):=hid (by rw[HW.out];unfold OwnInts;rw[List.length_append,List.map_append];exact hown');have HB2:Hid (Below w.heap.size w w3):=hid (grown_below (OwnInts.below HO.out Bl) (HB.out.alloc HS.out _) (by have:=HS.out;simp;omega) hgrow3);clear hown' hgrow3 hnil3;obtain⟨vb,vo,hva,hvc⟩:=(HR.out.below HB2.out).cell q hq;subst hva);have HX2:Hid (itr vs (k+1) i=vs[q]?.getD 0):=HX;go_roundw
   case rel=>exact⟨k+1,hk1,by rw[HX2.out],HAn.out,HO2.out,HB2.out⟩
   obtain⟨a',cap',e,_⟩:=HO2.out.form;rw[e,wayL_len];simp[lenV];omega
 have g0:decide ((0:Int)≤x)=false:=decide_eq_false h0;have HC:Hid (cnt vs k i=true):=hid (HE.out Om);clear HE HNo;go_wp2;go_ret2;exact⟨HB.out,.inl ⟨k,hk,HC.out,_,rfl,HO.out⟩⟩
end Go.Proofs.YtcnoemjeijjnjaaGreat.rofWay
namespace Go.Proofs.YtcnoemjeijjnjaaGreat.rofRun
open Go.RowKit Go.Deep Go base netSem routeRow nbSem candSem candImp hopSem intsOwn hopMake hopBetween sceneSem sceneBy bestAll rofSem rofBack rofWay
structure Ch (X : Nat→Prop) (W W' : World) : Prop where
 os:W'.os=W.os
 tape:W'.tape=W.tape
 output:W'.output=W.output
 size:W.heap.size≤W'.heap.size
 blk:∀q,q<W.heap.size→¬X q→W'.heap[q]? = W.heap[q]?
theorem Ch.of_grown {W W':World} {row:Option Nat} (h:W.grownBy W' row):Ch (fun q=>some q=row) W W' := ⟨h.os,h.tape,h.output,h.size,h.block⟩
theorem Ch.refl (X:Nat→Prop) (W:World):Ch X W W:=⟨rfl,rfl,rfl,Nat.le_refl _,fun _ _ _=>rfl⟩
theorem Ch.trans {X:Nat→Prop} {A B C:World} (h:Ch X A B) (k:Ch X B C):Ch X A C:=⟨k.os.trans h.os,k.tape.trans h.tape,k.output.trans h.output,Nat.le_trans h.size k.size,fun q hq hx=>(k.blk q (Nat.lt_of_lt_of_le hq h.size) hx).trans (h.blk q hq hx)⟩
theorem Ch.mono {X Y:Nat→Prop} {A B:World} (h:Ch X A B) (hx:∀q,X q→Y q):Ch Y A B:=⟨h.os,h.tape,h.output,h.size,fun q hq hy=>h.blk q hq (fun k=>hy (hx q k))⟩
theorem Ch.set (W:World) (a:Addr) (v:Value):Ch (fun q=>q=a.block) W (W.setCell a v):=⟨rfl,rfl,rfl,by simp[World.setCell],fun q _ hx=>Below.heap_setCell _ _ _ _ hx⟩
theorem Ch.alloc (X:Nat→Prop) (W:World) (ob:Obj):Ch X W (W.alloc ob):=⟨rfl,rfl,rfl,by simp,fun q hq _=>Below.heap_alloc W ob q hq⟩
theorem Ch.below {W W':World} (X:Nat→Prop) (h:Below W.heap.size W W'):Ch X W W' := ⟨h.os,h.tape,h.output,h.size,fun q hq _=>h.block q hq⟩
theorem Ch.grown {X:Nat→Prop} {b:Nat} {W W':World} (h:Ch X W W') (hx:∀q,q<W.heap.size→X q→q=b):W.grownBy W' (some b):=⟨h.os,h.tape,h.output,h.size,fun j hj hne=>h.blk j hj (fun k=>hne (by rw[hx j hj k]))⟩
variable {sb b B : Nat} {F : Nat→Value} {p : Nat→Option Addr} {l c : Nat→Nat} {g : R} {o e : List Int} {x : R} {ea da : Option Addr} {el ec dl dc : Nat} {env : List Int} {ds : List Bool} {w W W' : World} {X : Nat→Prop}
theorem ready_ch (h:Ready b B F W (p 1) (p 4) (l 1) (l 4) (c 1) (c 4) g x) (hc:Ch X W W') (hb:¬X b) (hx:∀q,X q→∀cs fr,W.heap[q]?≠some (.cells cs 116 fr)):Ready b B F W' (p 1) (p 4) (l 1) (l 4) (c 1) (c 4) g x:=by
 rcases h with ⟨h1,h2,h3,h4⟩|⟨V,F',hm⟩
 · exact .inl ⟨h1.of_block (hc.blk b h1.lt hb),h2,h3,h4⟩
 refine .inr ⟨V,F',hm.row.of_block (hc.blk b hm.row.lt hb),hm.net,hm.done,hm.hops,fun p q hp hq=>own_keep (hm.own p q hp hq) fun k hk=>hc.blk k (World.ownsRow.lt (hm.own p q hp hq) k hk).2 fun hxk=>?_⟩;rcases (hm.own p q hp hq).2 with ⟨e1,_⟩|⟨k',cap,cur,e1,_,hh,_⟩
 · rw[e1]at hk;simp[Value.ownBlock]at hk
 rw[e1]at hk;simp[Value.ownBlock]at hk;rw[hk]at hh;exact hx k hxk _ _ hh
structure Rb (w : World) (sb b B : Nat) (F : Nat→Value) (p : Nat→Option Addr) (l c : Nat→Nat) (g x : R) (va : Option Addr) (n cv b6 N : Nat) (W : World) : Prop where
 k2:Boxed W w.heap.size 94 (.pointer (some ⟨sb,0,none⟩))
 k3:Boxed W (w.heap.size+1) 25 (.slice va n cv)
 k4:Boxed W (w.heap.size+1+1) 52 (.slice none 0 0)
 k5:Boxed W (w.heap.size+1+1+1) 4 (.bool false)
 k6:Boxed W b6 52 (.slice (some ⟨N,0,none⟩) n n)
 rd:Ready b B F W (p 1) (p 4) (l 1) (l 4) (c 1) (c 4) g x
 gr:w.grownBy W (some b)
variable {va : Option Addr} {n cv b6 N : Nat}
theorem box_ch {q t:Nat} {v:Value} (h:Boxed W q t v) (hc:Ch X W W') (hq:¬X q):Boxed W' q t v:=(hc.blk q h.lt hq).trans h
theorem Rb.ch (h:Rb w sb b B F p l c g x va n cv b6 N W) (hbw:b<w.heap.size) (hc:Ch X W W') (hx:∀q,X q→w.heap.size+4≤q∧q≠b6∧∀cs fr,W.heap[q]?≠some (.cells cs 116 fr)):Rb w sb b B F p l c g x va n cv b6 N W' :=
 ⟨box_ch h.k2 hc (fun k=>by have:=(hx _ k).1;omega),box_ch h.k3 hc (fun k=>by have:=(hx _ k).1;omega),box_ch h.k4 hc (fun k=>by have:=(hx _ k).1;omega),box_ch h.k5 hc (fun k=>by have:=(hx _ k).1;omega),box_ch h.k6 hc (fun k=>(hx _ k).2.1 rfl),
  ready_ch h.rd hc (fun k=>by have:=(hx _ k).1;omega) (fun q k=>(hx q k).2.2),⟨hc.os.trans h.gr.os,hc.tape.trans h.gr.tape,hc.output.trans h.gr.output,Nat.le_trans h.gr.size hc.size,fun j hj hne=>(hc.blk j (Nat.lt_of_lt_of_le hj h.gr.size) (fun k=>by have:=(hx _ k).1;omega)).trans (h.gr.block j hj hne)⟩⟩
theorem Rb.call (h:Rb w sb b B F p l c g x va n cv b6 N W) (hbw:b<w.heap.size) (hb6:w.heap.size≤b6) (hg:W.grownBy W' (some b)) (hr:Ready b B F W' (p 1) (p 4) (l 1) (l 4) (c 1) (c 4) g x):Rb w sb b B F p l c g x va n cv b6 N W' :=
 ⟨h.k2.kept hg (fun e=>by injection e;omega),h.k3.kept hg (fun e=>by injection e;omega),h.k4.kept hg (fun e=>by injection e;omega),h.k5.kept hg (fun e=>by injection e;omega),h.k6.kept hg (fun e=>by injection e;omega),hr,gtrans h.gr hg⟩
theorem Rb.sc (h:Rb w sb b B F p l c g x va n cv b6 N W) (h0:Sc sb b B F p l c g o e x ea da el ec dl dc env ds w):Sc sb b B F p l c g o e x ea da el ec dl dc env ds W:=h0.step h.gr h.rd
theorem Rb.own (h:Rb w sb b B F p l c g x va n cv b6 N W) (hbw:b<w.heap.size) {row:Option Nat} (hg:W.grownBy W' row) (hr:∀r,row=some r→w.heap.size≤r∧∃ob:Obj,W.heap[r]? = some ob∧ob.isCells=false):Rb w sb b B F p l c g x va n cv b6 N W' := by
 have hnc:∀(q:Nat) (ob:Obj),W.heap[q]? = some ob→ob.isCells=true→¬(some q=row):=fun q ob hq hc e=>by
  obtain⟨_,ob',h1,h2⟩:=hr q e.symm;rw[hq]at h1;injection h1 with h1;rw[h1,h2]at hc;cases hc
 have hc:=Ch.of_grown hg;have bx:∀ {q t:Nat} {v:Value},Boxed W q t v→Boxed W' q t v:=fun hb=>box_ch hb hc (hnc _ _ hb rfl);refine⟨bx h.k2,bx h.k3,bx h.k4,bx h.k5,bx h.k6,ready_ch h.rd hc (fun e=>?_) (fun q e cs fr hh=>hnc q _ hh rfl e),⟨hc.os.trans h.gr.os,hc.tape.trans h.gr.tape,hc.output.trans h.gr.output,Nat.le_trans h.gr.size hc.size,fun j hj hne=>(hc.blk j (Nat.lt_of_lt_of_le hj h.gr.size) (fun e=>?_)).trans (h.gr.block j hj hne)⟩⟩
 · have:=(hr b e.symm).1;omega
 have:=(hr j e.symm).1;omega
theorem laid_ch {N len k:Nat} {rs:Rs} (h:RtLaid W N len k rs) (hc:Ch X W W') (hN:¬X N):RtLaid W' N len k rs:=by
 obtain⟨f,hf,hh⟩:=h.row;exact⟨f,hf.of_block (hc.blk N hf.lt hN),hh⟩
theorem laid_own {N len k:Nat} {rs:Rs} (h:RtLaid W N len k rs) {row:Option Nat} (hg:W.grownBy W' row) (hr:∀r,row=some r→∃ob:Obj,W.heap[r]? = some ob∧ob.isCells=false):RtLaid W' N len k rs:=by
 refine laid_ch h (Ch.of_grown hg) (fun e=>?_);obtain⟨f,⟨cur,hf,_⟩,_⟩:=h.row;obtain⟨ob,h1,h2⟩:=hr N e.symm;rw[hf]at h1;injection h1 with h1;rw[←h1]at h2;cases h2
theorem laid_not {N len k:Nat} {rs:Rs} (h:RtLaid W N len k rs):∀cs fr,W.heap[N]?≠some (.cells cs 116 fr):=by
 obtain⟨f,⟨cur,hf,_⟩,_⟩:=h.row;intro cs fr hh;rw[hf]at hh;injection hh with hh;injection hh with _ hh _;exact absurd hh (by decide)
structure Mk (B : Nat) (Ds : List Nat) (W : World) : Prop where
 one:Ds.Nodup
 at_:∀D,D∈Ds→B≤D∧W.heap[D]? = some (.deferred (some []))
theorem Mk.nil (B:Nat) (W:World):Mk B [] W:=⟨List.nodup_nil,fun D h=>by cases h⟩
theorem Mk.lt {B:Nat} {Ds:List Nat} (h:Mk B Ds W) {D:Nat} (hD:D∈Ds):D<W.heap.size:=(Array.getElem?_eq_some_iff.1 (h.at_ D hD).2).1
theorem Mk.cons {B D:Nat} {Ds:List Nat} (h:Mk B Ds W) (hD:W.heap[D]? = some (.deferred (some []))) (hB:B≤D) (hl:∀D'∈Ds,D' < D):Mk B (D::Ds) W :=
 ⟨List.nodup_cons.2 ⟨fun h1=>Nat.lt_irrefl _ (hl D h1),h.one⟩,fun D' h'=>by
  rcases List.mem_cons.1 h' with e|h'
  · subst e;exact⟨hB,hD⟩
  exact h.at_ D' h'⟩
theorem Mk.ch {B:Nat} {Ds:List Nat} (h:Mk B Ds W) (hc:Ch X W W') (hx:∀D∈Ds,¬X D):Mk B Ds W' := ⟨h.one,fun D hD=>⟨(h.at_ D hD).1,(hc.blk D (h.lt hD) (hx D hD)).trans (h.at_ D hD).2⟩⟩
theorem Mk.cells {B:Nat} {Ds:List Nat} (h:Mk B Ds W) (hc:Ch X W W') (hx:∀q,X q→∃cs t fr,W.heap[q]? = some (.cells cs t fr)):Mk B Ds W' := h.ch hc fun D hD k=>by
 obtain⟨cs,t,fr,hh⟩:=hx D k;rw[(h.at_ D hD).2]at hh;cases hh
structure Fin (Ds : List Nat) (W W' : World) : Prop extends Ch (fun q=>q∈Ds) W W'
def markD (D : Nat) : Deferred := { target := .collected D,args := #[] }
theorem leaves_marks {P:Program} {n:Nat} {fn:Func} {tmps:Array Value} {R:Ending→World→Prop} {B:Nat}:∀(Ds:List Nat) (W:World),Mk B Ds W→(∀W',Ch (fun q=>q∈Ds) W W'→LeavesInM Fence.wide n P fn tmps R [] .returning W')→LeavesInM Fence.wide n P fn tmps R (Ds.map markD) .returning W
 | [],W,_,h=>h W (Ch.refl _ _)
 | D::Ds,W,hm,h=>by
  have hD:=(hm.at_ D List.mem_cons_self).2;have hg:=grownBy_putObj' W D (.deferred none);refine⟨by simp,.inl ⟨D,_,rfl,run_takeDeferred hD,leaves_marks Ds _ (Mk.ch ⟨(List.nodup_cons.1 hm.one).2,fun D' h'=>hm.at_ D' (List.mem_cons_of_mem _ h')⟩ (Ch.of_grown hg) (fun D' h' e=>?_)) (fun W' hc=>h W' ?_)⟩⟩
  · injection e with e;subst e;exact(List.nodup_cons.1 hm.one).1 h'
  refine((Ch.of_grown hg).mono (fun q e=>?_)).trans (hc.mono (fun q hq=>List.mem_cons_of_mem _ hq));injection e with e;subst e;exact List.mem_cons_self
def Kc (Bs gb : Nat) (W W' : World) : Prop := (∀v,W.cell? ⟨Bs,0,none⟩=some v→W'.cell? ⟨Bs,0,none⟩=some v)∧∀j v,W.cell? ⟨gb,j,none⟩=some v→W'.cell? ⟨gb,j,none⟩=some v
theorem Kc.trans {Bs gb:Nat} {A B C:World} (h:Kc Bs gb A B) (k:Kc Bs gb B C):Kc Bs gb A C:=⟨fun v hv=>k.1 v (h.1 v hv),fun j v hv=>k.2 j v (h.2 j v hv)⟩
theorem Kc.ch {Bs gb:Nat} (hc:Ch X W W') (h1:¬X Bs) (h2:¬X gb):Kc Bs gb W W' :=
 ⟨fun v hv=>(World.cell?_of_block (a:=⟨Bs,0,none⟩) (hc.blk Bs (World.block_lt_of_cell? _ _ hv) h1)).trans hv,fun j v hv=>(World.cell?_of_block (a:=⟨gb,j,none⟩) (hc.blk gb (World.block_lt_of_cell? _ _ hv) h2)).trans hv⟩
theorem Kc.put {Bs gb q:Nat} {o o':Obj} (h:W.heap[q]? = some o) (hc:o.isCells=false):Kc Bs gb W (W.putObj q o') :=
 ⟨fun v hv=>cell_kept hv (grownBy_putObj' W q o') (fun r e=>by cases e;exact⟨o,h,hc⟩),fun j v hv=>cell_kept hv (grownBy_putObj' W q o') (fun r e=>by cases e;exact⟨o,h,hc⟩)⟩
theorem box4 {W:World} {q:Nat} {a b c d:Value} {t:TypeId} (h:W.heap[q]? = some (.cells #[a,b,c,d] t (0,0))) (v0 v1 v2 v3:Value):((((W.setCell ⟨q,0,none⟩ v0).setCell ⟨q,1,none⟩ v1).setCell ⟨q,2,none⟩ v2).setCell ⟨q,3,none⟩ v3).heap[q]? = some (.cells #[v0,v1,v2,v3] t (0,0)):=by
 simp[World.setCell,Array.getElem?_modify,h]
theorem ch4 (W:World) (q k:Nat) (v0 v1 v2 v3:Value):Ch (fun j=>j=q) W ((((W.setCell ⟨q,k,none⟩ v0).setCell ⟨q,k+1,none⟩ v1).setCell ⟨q,k+2,none⟩ v2).setCell ⟨q,k+3,none⟩ v3) :=
 (((Ch.set W ⟨q,k,none⟩ v0).trans (Ch.set _ ⟨q,k+1,none⟩ v1)).trans (Ch.set _ ⟨q,k+2,none⟩ v2)).trans (Ch.set _ ⟨q,k+3,none⟩ v3)
theorem box_cells {W:World} {q:Nat} {a b c d:Value} {t:TypeId} (h:W.heap[q]? = some (.cells #[a,b,c,d] t (0,0))) :
  (W.cell? ⟨q,0,none⟩=some a∧W.cell? ⟨q,1,none⟩=some b∧W.cell? ⟨q,2,none⟩=some c∧W.cell? ⟨q,3,none⟩=some d)∧W.frozen? ⟨q,0,none⟩=false∧W.frozen? ⟨q,1,none⟩=false∧W.frozen? ⟨q,2,none⟩=false∧W.frozen? ⟨q,3,none⟩=false:=by
 simp[World.cell?,World.frozen?,h]
end Go.Proofs.YtcnoemjeijjnjaaGreat.rofRun
