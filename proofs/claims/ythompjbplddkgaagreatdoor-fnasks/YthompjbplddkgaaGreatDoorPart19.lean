import Derived.Test.YthompjbplddkgaaGreatDoorPart18
set_option linter.unusedVariables false
namespace Go.Proofs.YthompjbplddkgaaGreatDoor.candSem
open Go.RowKit Go.Deep base netSem nbSem intsOwn routeRow
def hasAt (z : List Int) (v : Int) : Int := firstAt (fun i=>decide (zAt z i=v)) z.length
def thru (rs : Rs) (router : Int) : Nat→Int→Bool
 | 0,_=>true
 | f+1,k=>if k=router then true else if k<0 then false else if (rs k.toNat).via<0 then false else thru rs router f (rs k.toNat).via
def skipB (x : R) (router fr : Int) (i : Nat) (mark : Bool) : Bool := decide (x i 0≠router) || decide (x i 1≠fr) || (decide (x i 2=1) && !mark) || (decide (x i 2=2) && mark)
def stepI (x : R) (router fr : Int) (i : Nat) (r : Rt) : Option Rt :=
 if skipB x router fr i r.mark=true then some r
 else if x i 3=1 then none else if x i 3=2 then some { r with pref:=x i 4 } else some { r with mark:=decide (x i 3=3) }
def impK (x : R) (router fr : Int) (r0 : Rt) : Nat→Option Rt
 | 0=>some r0
 | k+1=>(impK x router fr r0 k).bind (stepI x router fr k)
def noRt : Rt := ⟨-3,0,0,false⟩
theorem impK_none {x:R} {router fr:Int} {r0:Rt} {k m:Nat} (h:impK x router fr r0 k=none) (hkm:k≤m):impK x router fr r0 m=none:=by
 induction m with
 | zero=>rwa [Nat.le_zero.1 hkm] at h
 | succ m ih =>
  by_cases e:k=m+1
  · rwa [← e]
  · simp only [impK]
    rw [ih (by omega)]
    rfl
theorem impK_via {x:R} {router fr:Int} {r0 r:Rt} {k:Nat} (h:impK x router fr r0 k=some r):r.via=r0.via∧r.len=r0.len:=by
 induction k generalizing r with
 | zero=>simp only [impK,Option.some.injEq] at h;subst h;exact ⟨rfl,rfl⟩
 | succ k ih =>
  simp only [impK] at h
  cases e:impK x router fr r0 k with
  | none=>rw [e] at h;cases h
  | some q =>
   rw [e] at h
   obtain ⟨h1,h2⟩:=ih e
   simp only [Option.bind_some,stepI] at h
   split at h
   · injection h with h;subst h;exact ⟨h1,h2⟩
   · split at h
     · cases h
     · split at h
       · injection h with h;subst h;exact ⟨h1,h2⟩
       · injection h with h;subst h;exact ⟨h1,h2⟩
def startI (fr cost : Int) (r : Rt) : Rt := ⟨fr,100,r.len+cost,r.mark⟩
def impR (g : R) (nl : Nat) (x : R) (nx : Nat) (router fr : Int) (r : Rt) : Option Rt := impK x router fr (startI fr (g (linkAt g nl router fr).toNat 2) r) nx
def candOf (g : R) (nl : Nat) (x : R) (nx : Nat) (rs : Rs) (n : Nat) (router j : Int) : List Rt :=
 if (rs j.toNat).via = -3 then [] else if thru rs router (n+1) j=true then [] else match impR g nl x nx router j (rs j.toNat) with
  | some r=>[r]
  | none=>[]
def ownC (o : List Int) (router : Int) : List Rt := if 0≤hasAt o router then [⟨-2,200,0,false⟩] else []
def extC (e env : List Int) (router : Int) : List Rt := if 0≤hasAt e router∧0<zAt env (hasAt e router).toNat then [⟨-1,100,2,decide (zAt env (hasAt e router).toNat=2)⟩] else []
def candL (g : R) (nl : Nat) (o e : List Int) (x : R) (nx : Nat) (env : List Int) (ds : List Bool) (rs : Rs) (n : Nat) (router : Int) : List Rt :=
 ownC o router ++ extC e env router ++ (nbL g nl ds router n).flatMap (candOf g nl x nx rs n router)
theorem candOf_len (g:R) (nl:Nat) (x:R) (nx:Nat) (rs:Rs) (n:Nat) (router j:Int):(candOf g nl x nx rs n router j).length≤1:=by
 unfold candOf
 split
 · simp
 · split
   · simp
   · split <;> simp
theorem flat_len {f:Int→List Rt} (h:∀ j,(f j).length≤1) (z:List Int):(z.flatMap f).length≤z.length:=by
 induction z with
 | nil=>simp
 | cons a z ih=>simp only [List.flatMap_cons,List.length_append,List.length_cons];have:=h a;omega
def rcs (r : Rt) : List Value := [.int .i64 r.via,.int .i64 r.pref,.int .i64 r.len,.bool r.mark]
def OwnRts (B : Nat) (w : World) (v : Value) (zs : List Rt) : Prop := w.ownsRow B 122 4 v zs.length (zs.flatMap rcs)
theorem OwnRts.mono {B B':Nat} {w:World} {v:Value} {zs:List Rt} (h:OwnRts B w v zs) (hB:B'≤B):OwnRts B' w v zs:=by
 obtain ⟨h1,h2⟩:=h
 refine ⟨h1,?_⟩
 rcases h2 with h|⟨g,cap,cur,e,hb,hr⟩
 · exact .inl h
 · exact .inr ⟨g,cap,cur,e,Nat.le_trans hB hb,hr⟩
theorem rts_empty (B N:Nat) (w:World) (hB:B≤w.heap.size) (hN:w.heap.size=N):OwnRts B (w.alloc (.cells #[] 122)) (.slice (some ⟨N,0,none⟩) 0 0) []:=by
 subst hN
 exact ⟨rfl,.inr ⟨w.heap.size,0,#[],rfl,hB,heap_alloc_new w _,Nat.le_refl _,Nat.zero_le _,rfl,rfl⟩⟩
end Go.Proofs.YthompjbplddkgaaGreatDoor.candSem
namespace Go.Proofs.YthompjbplddkgaaGreatDoor.rRows
open Go.RowKit Go.Deep Go base copy netSem routeRow candSem intsOwn
theorem own_apart {B B' n m k s s':Nat} {t t':TypeId} {w:World} {v x:Value} {xs ys:List Value} (hne:t≠t') (h:w.ownsRow B t s v n xs) (hx:w.ownsRow B' t' s' x m ys) (hv:v.ownBlock=some k) (hxk:x.ownBlock=some k):False:=by
 rcases h.2 with ⟨rfl,_⟩|⟨g,cap,cur,rfl,_,hh,_⟩
 · cases hv
 · rcases hx.2 with ⟨rfl,_⟩|⟨g',cap',cur',rfl,_,hh',_⟩
   · cases hxk
   · have e1:some g=some k:=hv
     have e2:some g' = some k:=hxk
     injection e1 with e1
     injection e2 with e2
     rw [e1] at hh
     rw [e2,hh] at hh'
     injection hh' with hh'
     injection hh' with _ ht
     exact hne ht
theorem own_kept {B B' n m s s':Nat} {t t':TypeId} {w w':World} {v x:Value} {xs ys:List Value} (hne:t≠t') (h:w.ownsRow B t s v n xs) (hx:w.ownsRow B' t' s' x m ys) (hg:w.grownBy w' x.ownBlock):w'.ownsRow B t s v n xs:=by
 refine World.ownsRow.kept h hg ?_
 rcases h.2 with ⟨rfl,_⟩|⟨g,cap,cur,rfl,_⟩
 · exact .inl rfl
 · exact .inr fun e=>own_apart hne h hx rfl e.symm
def rvR (p : (Nat × Nat) × List Rt) : Value := .slice (some ⟨p.1.1,0,none⟩) p.2.length p.1.2
structure OwnRR (B : Nat) (w : World) (v : Value) (ps : List ((Nat × Nat) × List Rt)) : Prop where
 outer:w.ownsRow B 96 1 v ps.length (ps.map rvR)
 inner:∀ p∈ps,OwnRts B w (rvR p) p.2
 lone:ps.Pairwise fun p q=>p.1.1≠q.1.1
theorem OwnRR.below {B:Nat} {w w1:World} {v:Value} {ps:List ((Nat × Nat) × List Rt)} (h:OwnRR B w v ps) (hb:Below w.heap.size w w1):OwnRR B w1 v ps:=⟨own_pass h.outer hb,fun p hp=>own_pass (h.inner p hp) hb,h.lone⟩
theorem OwnRR.mono {B B':Nat} {w:World} {v:Value} {ps:List ((Nat × Nat) × List Rt)} (h:OwnRR B w v ps) (hb:B'≤B):OwnRR B' w v ps:=by
 refine ⟨⟨h.outer.1,?_⟩,fun p hp=>(h.inner p hp).mono hb,h.lone⟩
 rcases h.outer.2 with h2|⟨g,cap,cur,e,hg,rest⟩
 · exact .inl h2
 · exact .inr ⟨g,cap,cur,e,Nat.le_trans hb hg,rest⟩
theorem OwnRR.form {B:Nat} {w:World} {v:Value} {ps:List ((Nat × Nat) × List Rt)} (h:OwnRR B w v ps):∃ a cap,v=.slice a ps.length cap:=by
 rcases h.outer.2 with ⟨rfl,hn⟩|⟨g,cap,cur,rfl,_⟩
 · exact ⟨none,0,by rw [hn]⟩
 · exact ⟨_,cap,rfl⟩
theorem OwnRR.add {B:Nat} {w w':World} {v v':Value} {ps:List ((Nat × Nat) × List Rt)} {q:(Nat × Nat) × List Rt} (h:OwnRR B w v ps) (hq:OwnRts B w (rvR q) q.2) (hn:∀ p∈ps,p.1.1≠q.1.1) (ho:w'.ownsRow B 96 1 v' (ps.length+1) (ps.map rvR ++ [rvR q])) (hg:w.grownBy w' v.ownBlock):OwnRR B w' v' (ps ++ [q]):=by
 refine ⟨by rw [List.length_append,List.map_append];exact ho,fun p hp=>?_,?_⟩
 · have hp' : OwnRts B w (rvR p) p.2 := by
    rcases List.mem_append.1 hp with hp|hp
    · exact h.inner p hp
    · rw [List.mem_singleton] at hp
      rw [hp];exact hq
   exact own_kept (by decide) hp' h.outer hg
 · refine List.pairwise_append.2 ⟨h.lone,List.pairwise_singleton _ _,fun a ha b hb=>?_⟩
   rw [List.mem_singleton] at hb
   rw [hb];exact hn a ha
theorem OwnRR.lt {B:Nat} {w:World} {v:Value} {ps:List ((Nat × Nat) × List Rt)} (h:OwnRR B w v ps):∀ p∈ps,p.1.1<w.heap.size:=fun p hp=>(World.ownsRow.lt (h.inner p hp) p.1.1 rfl).2
theorem rr_empty (B N:Nat) (w:World) (hB:B≤w.heap.size) (hN:w.heap.size=N):OwnRR B (w.alloc (.cells #[] 96)) (.slice (some ⟨N,0,none⟩) 0 0) []:=by
 subst hN
 exact ⟨⟨rfl,.inr ⟨w.heap.size,0,#[],rfl,hB,heap_alloc_new w _,Nat.le_refl _,Nat.zero_le _,rfl,rfl⟩⟩,fun p hp=>(by cases hp),List.Pairwise.nil⟩
theorem rts_some {B:Nat} {w:World} {v:Value} {zs:List Rt} (h:OwnRts B w v zs) (hz:0<zs.length):∃ g cap,v=rvR ((g,cap),zs):=by
 rcases h.2 with ⟨_,hn⟩|⟨g,cap,cur,rfl,_⟩
 · omega
 · exact ⟨g,cap,rfl⟩
theorem info_rr : (Tryz.prog.info? 96).map (fun i=>(i.zero,i.size,i.bytes))=some (some (.slice none 0 0),1,24):=by kernel_rfl
end Go.Proofs.YthompjbplddkgaaGreatDoor.rRows
namespace Go.Proofs.YthompjbplddkgaaGreatDoor.verHold
open Go.RowKit Go.Deep Go base copy rowsOwn downsSpec routeRow candSem rRows
theorem row_kept {B V n s:Nat} {t:TypeId} {w w':World} {v:Value} {xs:List Value} (h:w.ownsRow B t s v n xs) (hg:w.grownBy w' (some V)) (hV:V<B):w'.ownsRow B t s v n xs :=
 own_atT h fun g cs hv hh=>by
  have h1:=World.ownsRow.lt h g hv
  refine hg.block g h1.2 (fun e=>?_)
  injection e with e
  omega
theorem rb_kept {B V:Nat} {w w':World} {v:Value} {ps:List (Value × List Bool)} (h:OwnRB B w v ps) (hg:w.grownBy w' (some V)) (hV:V<B):OwnRB B w' v ps:=⟨row_kept h.outer hg hV,fun p hp=>row_kept (h.inner p hp) hg hV⟩
theorem ri_kept {B V:Nat} {w w':World} {v:Value} {ps:List (Value × List Int)} (h:OwnRows B w v ps) (hg:w.grownBy w' (some V)) (hV:V<B):OwnRows B w' v ps:=⟨row_kept h.outer hg hV,fun p hp=>row_kept (h.inner p hp) hg hV⟩
theorem rr_kept {B V:Nat} {w w':World} {v:Value} {ps:List ((Nat × Nat) × List Rt)} (h:OwnRR B w v ps) (hg:w.grownBy w' (some V)) (hV:V<B):OwnRR B w' v ps:=⟨row_kept h.outer hg hV,fun p hp=>row_kept (h.inner p hp) hg hV,h.lone⟩
theorem row_cell {B n:Nat} {t:TypeId} {w:World} {a:Option Addr} {l c j:Nat} {xs:List Value} {x:Value} (h:w.ownsRow B t 1 (.slice a l c) n xs) (hn:xs.length=n) (hx:xs[j]? = some x):∃ g,a=some ⟨g,0,none⟩∧B≤g∧w.cell? ⟨g,j,none⟩=some x:=by
 have hj:j<xs.length:=(List.getElem?_eq_some_iff.1 hx).1
 rcases h.2 with ⟨e,h0⟩|⟨g,cap,cur,e,hB,hh,_,_,hs,ht⟩
 · omega
 · have eg:a=some ⟨g,0,none⟩:=by injection e
   subst eg
   refine ⟨g,rfl,hB,?_⟩
   have h3:cur[j]? = some x:=by
    have:(cur.toList.take (n*1))[j]? = xs[j]?:=by rw [ht]
    rw [List.getElem?_take,if_pos (by omega),hx] at this
    rw [← Array.getElem?_toList,this]
   simp [World.cell?,hh,h3]
theorem bools_row {B:Nat} {w:World} {v:Value} {zs:List Bool} (h:OwnBools B w v zs):∃ a c,v=.slice a zs.length c∧BoolRow w a zs.length zs:=by
 rcases h.2 with ⟨e,h0⟩|⟨g,cap,cur,e,hB,hh,h4,h5,hs,ht⟩
 · exact ⟨none,0,by rw [e,h0],rfl,by rw [h0];exact Nat.zero_le _,fun i hi=>by omega⟩
 · refine ⟨_,cap,e,rfl,by omega,fun i hi=>⟨g,0,rfl,?_⟩⟩
   have h3:cur[i]? = some (.bool (zs[i]?.getD false)):=by
    have:(cur.toList.take (zs.length*1))[i]? = (zs.map Value.bool)[i]?:=by rw [ht]
    rw [List.getElem?_take,if_pos (by omega)] at this
    rw [← Array.getElem?_toList,this,List.getElem?_map,List.getElem?_eq_getElem hi]
    rfl
   rw [Nat.zero_add]
   simp [World.cell?,hh,h3]
end Go.Proofs.YthompjbplddkgaaGreatDoor.verHold
namespace Go.Proofs.YthompjbplddkgaaGreatDoor.rtsRow
open Go.RowKit Go.Deep Go base netSem nbSem intsOwn routeRow candSem
def rF (zs : List Rt) (i : Nat) : Rt := zs[i]?.getD noRt
theorem flat_at (zs:List Rt) (i j:Nat) (hi:i<zs.length) (hj:j<4):(zs.flatMap rcs)[i*4+j]? = some (rc (rF zs i) j):=by
 induction zs generalizing i with
 | nil=>exact absurd hi (Nat.not_lt_zero _)
 | cons a zs ih =>
  simp only [List.flatMap_cons]
  match i with
  | 0 =>
   rw [List.getElem?_append_left (by simp [rcs];omega)]
   match j,hj with
   | 0,_=>simp [rcs,rc,rF]
   | 1,_=>simp [rcs,rc,rF]
   | 2,_=>simp [rcs,rc,rF]
   | 3,_=>simp [rcs,rc,rF]
   | j+4,hj=>exact absurd hj (by omega)
  | i+1 =>
   rw [List.getElem?_append_right (by simp [rcs];omega),show (i+1)*4+j - (rcs a).length=i*4+j by simp [rcs];omega]
   rw [ih i (by simp only [List.length_cons] at hi;omega)]
   simp [rF]
theorem rts_form {B:Nat} {w:World} {v:Value} {zs:List Rt} (h:OwnRts B w v zs):∃ a c,v=.slice a zs.length c∧RtRow w a zs.length (rF zs):=by
 obtain ⟨h1,h2⟩:=h
 rcases h2 with ⟨rfl,h0⟩|⟨g,cap,cur,rfl,hb,hh,hc,hm,hs,ht⟩
 · rw [h0]
   exact ⟨none,0,rfl,by unfold maxLen;omega,fun i hi=>absurd hi (Nat.not_lt_zero _)⟩
 · refine ⟨some ⟨g,0,none⟩,cap,rfl,Nat.le_trans hc hm,fun i hi=>⟨g,0,rfl,fun j hj=>?_⟩⟩
   have h7:=flat_at zs i j hi hj
   rw [← ht,List.getElem?_take_of_lt (by omega)] at h7
   rw [Nat.zero_add]
   simp only [World.cell?,hh]
   simpa using h7
theorem rts_row {B:Nat} {w:World} {a:Option Addr} {n c:Nat} {zs:List Rt} (h:OwnRts B w (.slice a n c) zs):RtRow w a n (rF zs):=by
 obtain ⟨a',c',e,hr⟩:=rts_form h
 have e1:a=a' := by injection e
 have e2:n=zs.length:=by injection e
 subst e1 e2
 exact hr
theorem rts_blocks {B:Nat} {w w1:World} {v:Value} {zs:List Rt} (h:OwnRts B w v zs) (hb:∀ g,v.ownBlock=some g→g<w.heap.size→w1.heap[g]? = w.heap[g]?):OwnRts B w1 v zs:=by
 obtain ⟨h1,h2⟩:=h
 refine ⟨h1,?_⟩
 rcases h2 with h2|⟨g,cap,cur,rfl,hgB,hh,hn⟩
 · exact .inl h2
 · exact .inr ⟨g,cap,cur,rfl,hgB,(hb g rfl (Array.getElem?_eq_some_iff.1 hh).1).trans hh,hn⟩
theorem rts_keeps {B:Nat} {w w1:World} {v:Value} {zs:List Rt} {row:Option Nat} (h:OwnRts B w v zs) (hg:w.grownBy w1 row) (hne:∀ g,v.ownBlock=some g→some g≠row):OwnRts B w1 v zs:=rts_blocks h fun g e hgl=>hg.block g hgl (hne g e)
theorem rts_lt {B g:Nat} {w:World} {v:Value} {zs:List Rt} (h:OwnRts B w v zs) (hg:v.ownBlock=some g):B≤g∧g<w.heap.size:=World.ownsRow.lt h g hg
def bst (zs : List Rt) : Rt := if zs.length=0 then noRt else bestTo (rF zs) (zs.length - 1)
theorem bst_some {zs:List Rt} (h:0<zs.length):bst zs=bestTo (rF zs) (zs.length - 1):=by unfold bst;rw [if_neg (by omega)]
end Go.Proofs.YthompjbplddkgaaGreatDoor.rtsRow
namespace Go.Proofs.YthompjbplddkgaaGreatDoor.walkSem
open Go.RowKit Go.Deep base names netSem routeRow
def filtB (f : R) (a b port : Int) (i : Nat) : Bool := f i 0 == a && f i 1 == b && inB port (f i 2) (f i 3)
def filt (f : R) (m : Nat) (a b port : Int) : Bool := decide (0≤firstAt (filtB f a b port) m)
theorem filt_hit {f:R} {m k:Nat} {a b port:Int} (hk:k<m) (h:filtB f a b port k=true):filt f m a b port=true:=decide_eq_true (firstAt_spec.2 ⟨k,hk,h⟩)
theorem filt_none {f:R} {m:Nat} {a b port:Int} (h:∀ i,i<m→filtB f a b port i=false):filt f m a b port=false:=by
 unfold filt
 rw [firstAt_none h];decide
def outAt (f : R) (m : Nat) (a via port : Int) : Int := if via = -2 then 1 else if via = -1 then 2 else if via = -3 then 3 else if filt f m a via port=true then 4 else 0
def wayR (rs : Rs) (f : R) (m : Nat) (port : Int) : Nat→Int→List Int
 | 0,_=>[]
 | n+1,a=>if outAt f m a (rs a.toNat).via port=0 then (rs a.toNat).via::wayR rs f m port n (rs a.toNat).via else []
def wayO (rs : Rs) (f : R) (m : Nat) (port : Int) : Nat→Int→Int
 | 0,_=>3
 | n+1,a=>if outAt f m a (rs a.toNat).via port=0 then wayO rs f m port n (rs a.toNat).via else outAt f m a (rs a.toNat).via port
theorem way_stop {rs:Rs} {f:R} {m n:Nat} {port a:Int} (h:outAt f m a (rs a.toNat).via port≠0):wayR rs f m port (n+1) a=[]∧wayO rs f m port (n+1) a=outAt f m a (rs a.toNat).via port:=by
 simp only [wayR,wayO]
 rw [if_neg h,if_neg h]
 exact ⟨rfl,rfl⟩
theorem way_go {rs:Rs} {f:R} {m n:Nat} {port a:Int} (h:outAt f m a (rs a.toNat).via port=0):wayR rs f m port (n+1) a=(rs a.toNat).via::wayR rs f m port n (rs a.toNat).via∧wayO rs f m port (n+1) a=wayO rs f m port n (rs a.toNat).via:=by
 simp only [wayR,wayO]
 rw [if_pos h,if_pos h]
 exact ⟨rfl,rfl⟩
def Viable (rs : Rs) (n : Nat) : Prop := ∀ i,i<n→-3≤(rs i).via∧(rs i).via<n
theorem out_next {f:R} {m:Nat} {a via port:Int} (h:outAt f m a via port=0) (hv : -3≤via):0≤via:=by
 unfold outAt at h
 split at h
 · cases h
 split at h
 · cases h
 split at h
 · cases h
 omega
end Go.Proofs.YthompjbplddkgaaGreatDoor.walkSem
namespace Go.Proofs.YthompjbplddkgaaGreatDoor.filtSpec
open Go.RowKit Go.Deep Go base names netSem netSpec routeRow walkSem
set_option maxHeartbeats 1600000 in
theorem filt_spec (p:Nat→Option Addr) (l c:Nat→Nat) (f:R) (a b port:Int) (w:World) (h:Row 4 w (p 5) (l 5) f) :
  Calls Tryz.prog 101 #[netV p l c,.int .i64 a,.int .i64 b,.int .i64 port] w fun e' w'=>e' = .returned (.bool (filt f (l 5) a b port))∧Below w.heap.size w w' := by
 have hm:=h.most
 unfold maxLen at hm
 obtain ⟨p5,h5⟩:∃ q,p 5=q:=⟨_,rfl⟩
 obtain ⟨l5,hl5⟩:∃ q,l 5=q:=⟨_,rfl⟩
 unfold netV
 rw [h5,hl5] at h
 rw [hl5] at hm
 rw [h5,hl5]
 clear h5 hl5
 have HR:=hid h
 clear h
 have C1:Hid (∀ w8:World,Below (w.alloc (.cells #[.slice (p 0) (l 0) (c 0),.slice (p 1) (l 1) (c 1),.slice (p 2) (l 2) (c 2),.slice (p 3) (l 3) (c 3),.slice (p 4) (l 4) (c 4),.slice p5 l5 (c 5)] 29)).heap.size (w.alloc (.cells #[.slice (p 0) (l 0) (c 0),.slice (p 1) (l 1) (c 1),.slice (p 2) (l 2) (c 2),.slice (p 3) (l 3) (c 3),.slice (p 4) (l 4) (c 4),.slice p5 l5 (c 5)] 29)) w8 →
   w8.cell? ⟨w.heap.size,5,none⟩=some (.slice p5 l5 (c 5))∧Row 4 w8 p5 l5 f∧Below w.heap.size w w8) :=
  fun w8 hb=>⟨keep hb (by simp [go_sem]),(HR.out.below Bl).below hb,(show Below w.heap.size w _ from Bl).trans (hb.mono (by simp))⟩
 generalize c 5=c5 at *
 go_enter Tryz.func101,Tryz.ntmps101
 go_wp2
 go_loopw [9] (fun i wr=>∃ k:Nat,k≤l5∧i=.int .i64 k∧(∀ j,j<k→filtB f a b port j=false)∧Below (w.alloc (.cells #[.slice (p 0) (l 0) (c 0),.slice (p 1) (l 1) (c 1),.slice (p 2) (l 2) (c 2),.slice (p 3) (l 3) (c 3),.slice (p 4) (l 4) (c 4),.slice p5 l5 c5] 29)).heap.size (w.alloc (.cells #[.slice (p 0) (l 0) (c 0),.slice (p 1) (l 1) (c 1),.slice (p 2) (l 2) (c 2),.slice (p 3) (l 3) (c 3),.slice (p 4) (l 4) (c 4),.slice p5 l5 c5] 29)) wr) (fun i _=>l5 - (intOf i).toNat)
 case atStart=>exact ⟨0,Nat.zero_le _,rfl,fun j hj=>absurd hj (Nat.not_lt_zero _),Below.refl _ _⟩
 case round =>
  obtain ⟨k,hk,rfl,ha,hbel⟩:=hrel
  have HA:=hid ha
  have HB:=hid hbel
  obtain ⟨q5,hrow,hB⟩:=C1.out wr hbel
  have BR:=hid hB
  have s0:=BR.out.size
  have s1:=hbel.size
  clear ha hB
  by_cases hlt:k<l5
  · obtain ⟨b0,off,rfl,c0,c1,c2,c3⟩:=hrow.at4 hlt
    have HQ:Hid (filtB f a b port k=(f k 0 == a && f k 1 == b && inB port (f k 2) (f k 3))):=rfl
    have qb:=World.block_lt_of_cell? _ _ c0
    have q0:=World.block_lt_of_cell? _ _ q5
    clear hrow hbel s1
    generalize f k 0=x0 at *
    generalize f k 1=x1 at *
    generalize f k 2=x2 at *
    generalize f k 3=x3 at *
    obtain ⟨p1,e1⟩:∃ p,(x0 == a)=p:=⟨_,rfl⟩
    obtain ⟨p2,e2⟩:∃ p,(x1 == b)=p:=⟨_,rfl⟩
    obtain ⟨p3,e3⟩:∃ p,inB port x2 x3=p:=⟨_,rfl⟩
    rw [e1,e2,e3] at HQ
    have HN:Hid (∀ wz:World,(p1 && p2 && p3)=false→Below wr.heap.size wr wz→∃ k':Nat,k'≤l5∧Value.int .i64 ((k:Int)+1)=.int .i64 k'∧(∀ j,j<k'→filtB f a b port j=false)∧Below (w.alloc (.cells #[.slice (p 0) (l 0) (c 0),.slice (p 1) (l 1) (c 1),.slice (p 2) (l 2) (c 2),.slice (p 3) (l 3) (c 3),.slice (p 4) (l 4) (c 4),.slice (some ⟨b0,off,none⟩) l5 c5] 29)).heap.size (w.alloc (.cells #[.slice (p 0) (l 0) (c 0),.slice (p 1) (l 1) (c 1),.slice (p 2) (l 2) (c 2),.slice (p 3) (l 3) (c 3),.slice (p 4) (l 4) (c 4),.slice (some ⟨b0,off,none⟩) l5 c5] 29)) wz) :=
     fun wz h0 hz=>⟨k+1,by omega,by go_num,fun j hj=>by
      by_cases e:j=k
      · subst e;rw [HQ.out];exact h0
      · exact HA.out j (by omega),HB.out.trans (hz.mono HB.out.size)⟩
    cases p1 with
    | false =>
     go_wp2
     go_roundw
     case rel=>exact HN.out _ rfl Bl
     case measure=>simp [intOf];omega
    | true =>
     cases p2 with
     | false =>
      go_wp2
      go_roundw
      case rel=>exact HN.out _ rfl Bl
      case measure=>simp [intOf];omega
     | true =>
      cases p3 with
      | false =>
       go_wp2_with (go_at_call 21;refine (in_spec _ _ _ _).mono ?_;rintro e w' ⟨rfl,hw'⟩;have hw' := hw'.symm;subst hw')
       go_roundw
       case rel=>exact HN.out _ rfl Bl
       case measure=>simp [intOf];omega
      | true =>
       go_wp2_with (go_at_call 21;refine (in_spec _ _ _ _).mono ?_;rintro e w' ⟨rfl,hw'⟩;have hw' := hw'.symm;subst hw')
       go_ret
       exact ⟨ret_bool (filt_hit hlt HQ.out).symm,BR.out.trans (Below.mono (show Below wr.heap.size wr _ from Bl) BR.out.size)⟩
  · have e:k=l5:=by omega
    subst e
    clear hbel hrow s1
    go_wp2
    go_ret
    exact ⟨ret_bool (filt_none HA.out).symm,BR.out⟩
end Go.Proofs.YthompjbplddkgaaGreatDoor.filtSpec
