import Derived.Test.YthompjbplddkgaaGreatDoorPart18
set_option linter.unusedVariables false
namespace Go.Proofs.YthompjbplddkgaaGreatDoor.netMath
open Go.RowKit Go.Deep Go base names netSem
def sN : Ss := fun i=>if i=0 then ⟨#[97]⟩ else if i=1 then ⟨#[98]⟩ else if i=2 then ⟨#[99]⟩ else ⟨#[100]⟩
def updR (g : R) (k : Nat) (f : Nat→Int) : R := fun i=>if i=k then f else g i
theorem updR_same (g:R) (k:Nat) (f:Nat→Int):updR g k f k=f:=if_pos rfl
theorem updR_ne (g:R) {k i:Nat} (f:Nat→Int) (h:i≠k):updR g k f i=g i:=if_neg h
def cellsR (m : Nat) (g : R) : Nat→List Value
 | 0=>[]
 | k+1=>cellsR m g k ++ (List.range m).map fun j=>.int .i64 (g k j)
theorem cellsR_len (m:Nat) (g:R):∀ k,(cellsR m g k).length=k*m
 | 0=>by simp [cellsR]
 | k+1=>by rw [cellsR,List.length_append,cellsR_len m g k,List.length_map,List.length_range,Nat.succ_mul]
theorem cellsR_congr {m:Nat} {g g':R}:∀ {k:Nat},(∀ i,i<k→g i=g' i)→cellsR m g k=cellsR m g' k
 | 0,_=>rfl
 | k+1,h=>by rw [cellsR,cellsR,cellsR_congr (fun i hi=>h i (by omega)),h k (by omega)]
theorem cellsR_upd (m:Nat) (g:R) (k:Nat) (f:Nat→Int):cellsR m (updR g k f) (k+1)=cellsR m g k ++ (List.range m).map fun j=>.int .i64 (f j):=by
 rw [cellsR,updR_same,cellsR_congr (g' := g) (fun i hi=>updR_ne g f (by omega))]
theorem cellsR_at (m:Nat) (g:R) {i j:Nat} (hj:j<m):∀ {k:Nat},i<k→(cellsR m g k)[i*m+j]? = some (.int .i64 (g i j))
 | 0,h=>by omega
 | k+1,h=>by
  rw [cellsR]
  by_cases e:i=k
  · subst e
    rw [List.getElem?_append_right (by rw [cellsR_len];omega),cellsR_len,show i*m+j - i*m=j by omega,List.getElem?_map,List.getElem?_range hj]
    rfl
  · have hlt : i * m + j < k * m := by
     have:(i+1)*m≤k*m:=Nat.mul_le_mul_right _ (by omega)
     rw [Nat.succ_mul] at this
     omega
    rw [List.getElem?_append_left (by rw [cellsR_len];exact hlt)]
    exact cellsR_at m g hj (by omega)
theorem row_of {w:World} {B m k vc t:Nat} {va:Option Addr} {g:R} (hm:0<m) (h:w.ownsRow B t m (.slice va k vc) k (cellsR m g k)):Row m w va k g∧k≤vc:=by
 obtain ⟨h1,h2⟩:=h
 rcases h2 with ⟨h2,h0⟩|⟨gb,cap,cur,e,hb,hh,hc,hmx,hs,ht⟩
 · subst h0
   exact ⟨⟨Nat.zero_le _,fun i hi=>absurd hi (Nat.not_lt_zero _)⟩,Nat.zero_le _⟩
 · have e1:va=some ⟨gb,0,none⟩:=by injection e
   have e2:vc=cap:=by injection e
   refine ⟨⟨Nat.le_trans hc hmx,fun i hi=>⟨gb,0,e1,fun j hj=>?_⟩⟩,by rw [e2];exact hc⟩
   have h7:=cellsR_at m g hj hi
   have hlt:i*m+j<k*m:=by
    have:(i+1)*m≤k*m:=Nat.mul_le_mul_right _ (by omega)
    rw [Nat.succ_mul] at this
    omega
   rw [← ht,List.getElem?_take_of_lt hlt] at h7
   rw [Nat.zero_add]
   simp only [World.cell?,hh]
   simpa using h7
theorem firstAt_congr {p q:Nat→Bool} {n:Nat} (h:∀ i,i<n→p i=q i):firstAt p n=firstAt q n:=by
 unfold firstAt
 have:(List.range n).find? p=(List.range n).find? q:=by
  have key:∀ L:List Nat,(∀ i∈L,p i=q i)→L.find? p=L.find? q:=by
   intro L
   induction L with
   | nil=>intro _;rfl
   | cons a L ih =>
    intro hL
    rw [List.find?_cons,List.find?_cons,hL a List.mem_cons_self,ih (fun i hi=>hL i (List.mem_cons_of_mem _ hi))]
  exact key _ fun i hi=>h i (List.mem_range.1 hi)
 rw [this]
theorem linkAt_upd (g:R) (k:Nat) (f:Nat→Int) (a b:Int) {i:Nat} (hi:i≤k):linkAt (updR g k f) i a b=linkAt g i a b:=by
 unfold linkAt
 refine firstAt_congr fun j hj=>?_
 unfold hit
 rw [updR_ne g f (by omega)]
theorem links_step {g:R} {k r:Nat} {f:Nat→Int} (h:linksB g k r=true) (hk:k<6) (h0:0≤f 0∧f 0<r) (h1:0≤f 1∧f 1<r) (h2:f 0≠f 1) (h3:1≤f 2∧f 2≤100) (h4:linkAt g k (f 0) (f 1)<0):linksB (updR g k f) (k+1) r=true:=by
 unfold linksB at h ⊢
 rw [Bool.and_eq_true] at h ⊢
 refine ⟨decide_eq_true (by omega),allN_of fun i hi=>?_⟩
 by_cases e:i=k
 · subst e
   unfold linkB
   rw [updR_same,linkAt_upd _ _ _ _ _ (Nat.le_refl _)]
   unfold inB
   simp only [Bool.and_eq_true,decide_eq_true_eq]
   exact ⟨⟨⟨⟨by omega,by omega⟩,h2⟩,h3⟩,h4⟩
 · have:=allN_iff.1 h.2 i (by omega)
   unfold linkB at this ⊢
   rw [updR_ne g f e,linkAt_upd _ _ _ _ _ (by omega)]
   exact this
theorem link_hit (g:R) {n i:Nat} (hi:i<n):0≤linkAt g n (g i 0) (g i 1)∧0≤linkAt g n (g i 1) (g i 0) :=
 ⟨firstAt_spec.2 ⟨i,hi,by unfold hit;exact decide_eq_true (.inl ⟨rfl,rfl⟩)⟩,firstAt_spec.2 ⟨i,hi,by unfold hit;exact decide_eq_true (.inr ⟨rfl,rfl⟩)⟩⟩
theorem imports_step {g x:R} {n m:Nat} {f:Nat→Int} (h:importsB g n x m=true) (hm:m<12) (h0:0≤linkAt g n (f 0) (f 1)) (h1:deedB (f 2) (f 3) (f 4)=true):importsB g n (updR x m f) (m+1)=true:=by
 unfold importsB at h ⊢
 rw [Bool.and_eq_true] at h ⊢
 refine ⟨decide_eq_true (by omega),allN_of fun i hi=>?_⟩
 by_cases e:i=m
 · subst e
   unfold importB
   rw [updR_same,h1,decide_eq_true h0]
   rfl
 · have:=allN_iff.1 h.2 i (by omega)
   unfold importB at this ⊢
   rw [updR_ne x f e]
   exact this
theorem filters_step {g x:R} {n m:Nat} {f:Nat→Int} (h:filtersB g n x m=true) (hm:m<6) (h0:0≤linkAt g n (f 0) (f 1)) (h1:portsB (f 2) (f 3)=true):filtersB g n (updR x m f) (m+1)=true:=by
 unfold filtersB at h ⊢
 rw [Bool.and_eq_true] at h ⊢
 refine ⟨decide_eq_true (by omega),allN_of fun i hi=>?_⟩
 by_cases e:i=m
 · subst e
   unfold filterB
   rw [updR_same,h1,decide_eq_true h0]
   rfl
 · have:=allN_iff.1 h.2 i (by omega)
   unfold filterB at this ⊢
   rw [updR_ne x f e]
   exact this
theorem deed_of {a b c:Int} (h0:0≤a∧a≤2) (h1:1≤b∧b≤4) (h2:(b=2∧0≤c∧c≤1000)∨(b≠2∧c=0)):deedB a b c=true:=by
 unfold deedB inB
 simp only [Bool.and_eq_true,decide_eq_true_eq]
 refine ⟨⟨h0,h1⟩,?_⟩
 rcases h2 with ⟨e,h⟩|⟨e,h⟩
 · rw [if_pos e];exact h
 · rw [if_neg e];omega
theorem ports_of {a b:Int} (h0:0≤a) (h1:a≤b∧b≤15):portsB a b=true:=by
 unfold portsB inB
 simp only [Bool.and_eq_true,decide_eq_true_eq]
 exact ⟨h0,h1⟩
theorem routers_right : ∀ n,1≤n→n≤4→routersB sN n=true := by
 intro n h1 h4
 rcases (show n=1∨n=2∨n=3∨n=4 by omega) with rfl|rfl|rfl|rfl <;> decide +kernel
def RisesL (zs : List Int) (r : Nat) : Prop := risingB zs zs.length r=true
theorem rises_nil (r:Nat):RisesL [] r:=rfl
theorem rises_one {r:Nat} {y:Int} (h:0≤y∧y<r):RisesL [y] r:=by
 unfold RisesL risingB
 refine allN_of fun i hi=>?_
 have e:i=0:=by simpa using hi
 subst e
 unfold risesB inB zAt
 simp
 omega
theorem rises_two {r:Nat} {y z:Int} (h:0≤y∧y<r) (h':0≤z∧z<r) (hyz:y<z):RisesL [y,z] r:=by
 unfold RisesL risingB
 refine allN_of fun i hi=>?_
 have e:i=0∨i=1:=by simp at hi;omega
 unfold risesB inB zAt
 rcases e with rfl|rfl <;> simp <;> omega
theorem rises_in {r:Nat} {zs:List Int} (h:RisesL zs r) {i:Nat} (hi:i<zs.length):0≤zAt zs i∧zAt zs i<r:=by
 have:=allN_iff.1 h i hi
 unfold risesB inB at this
 simp only [Bool.and_eq_true,decide_eq_true_eq] at this
 omega
theorem rises_ins {r k:Nat} {zs:List Int} {n:Int} (h:RisesL zs r) (hl:zs.length≤1) (hn:0≤n∧n<r) (hk:k≤zs.length) (h1:∀ j,j<k→zs[j]?.getD 0<n) (h2:k<zs.length→n<zs[k]?.getD 0):RisesL (zs.take k ++ [n] ++ zs.drop k) r:=by
 match zs,hl,h,hk,h1,h2 with
 | [],_,h,hk,h1,h2 =>
  simp
  exact rises_one hn
 | [y],_,h,hk,h1,h2 =>
  have hy:=rises_in h (i:=0) (by simp)
  have hy0:0≤y∧y<r:=by simpa [zAt] using hy
  match k,hk,h1,h2 with
  | 0,_,h1,h2=>simpa using rises_two hn hy0 (by simpa using h2 (by simp))
  | 1,_,h1,h2=>simpa using rises_two hy0 hn (by simpa using h1 0 (by omega))
  | k+2,hk,_,_=>simp at hk
 | y::z::zs,hl,_,_,_,_=>simp at hl
theorem right_of {l:Nat→Nat} {g x f:R} {o e:List Int} (h0:1≤l 0∧l 0≤4) (h1:linksB g (l 1) (l 0)=true) (h2:RisesL o (l 0)) (e2:o.length=l 2) (h3:RisesL e (l 0)) (e3:e.length=l 3) (h3':e.length≤2) (h4:importsB g (l 1) x (l 4)=true) (h5:filtersB g (l 1) f (l 5)=true):netB l sN g o e x f=true:=by
 unfold netB
 unfold RisesL at h2 h3
 rw [e2] at h2
 rw [e3] at h3 h3'
 rw [routers_right _ h0.1 h0.2,h1,h2,h3,decide_eq_true h3',h4,h5]
 rfl
end Go.Proofs.YthompjbplddkgaaGreatDoor.netMath
