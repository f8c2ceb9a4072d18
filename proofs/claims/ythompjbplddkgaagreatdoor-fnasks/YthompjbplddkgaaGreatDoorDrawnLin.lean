import Derived.Test.YthompjbplddkgaaGreatDoorPart9
namespace Go.Proofs.YthompjbplddkgaaGreatDoor.drawnLin
open Go heldStore drawn
variable {P : Program} {ops : Array Oper} {Q : Exit→Act→World→Prop}
variable {A : (Nat→Value)→Act} {s : Nat→Nat} {Inv : (Nat→Bool)→(Nat→Value)→World→Prop} {n : Nat}
def come (L : Nat→Bool) (i : Nat) : Nat→Bool := fun j=>if j=i then true else L j
theorem come_same (L:Nat→Bool) (i:Nat):come L i i=true:=if_pos rfl
theorem come_old {L:Nat→Bool} {i j:Nat} (h:L j=true):come L i j=true:=by
 unfold come;split <;> first|rfl|exact h
theorem come_ne {L:Nat→Bool} {i j:Nat} (e:j≠i):come L i j=L j:=if_neg e
theorem any_all (hz:ops.size=n+1) (hE:LastOf ops n) (hup:upB ops=true)
  (hput:∀ i,i<n→∀ u v,(A u).put (some (s i)) v=A (upd u (s i) v))
  (step:∀ i,i<n→∀ L u w,L i=false→(∀ j,Region.waitsFor .any ops i j=true→L j=true)→Inv L u w→∃ o,ops[i]? = some o∧∀ K':Act→World→Prop,Shut (∀ v w',Inv (come L i) (upd u (s i) v) w'→K' ((A u).put (some (s i)) v) w')→if Region.wanted o (yielded ops (A u).tmps)=true then Oper.wp P o (A u) w K' Q else K' ((A u).put o.dst undef) w)
  (last:∀ L u w,(∀ j,j<n→L j=true)→Inv L u w→∃ o,ops[n]? = some o∧∀ K':Act→World→Prop,Shut (∀ a w,Q .normal a w→K' a w)→if Region.wanted o (yielded ops (A u).tmps)=true then Oper.wp P o (A u) w K' Q else K' ((A u).put o.dst undef) w) :
  ∀ (fuel:Nat) (listed:Array Bool) (u:Nat→Value) (w:World),falses listed.toList≤fuel→HeadInv .any ops n listed→Inv (fun j=>listed.getD j false) u w →
   wpAny P .any ops Q fuel listed (A u) w:=by
 intro fuel
 induction fuel with
 | zero =>
  intro listed u w hf inv _
  have:=falses_pos _ _ (at_false (inv.tail n (Nat.le_refl _) (by omega)))
  omega
 | succ fuel ih =>
  intro listed u w hf inv hI
  have hn:=inv.tail n (Nat.le_refl _) (by omega)
  refine ⟨fun h=>absurd h (ready_ne hup inv.size n hn),fun i hi=>?_⟩
  have hi' := mem_ready.1 hi
  obtain ⟨hun,oi,hoi,hall⟩:=hi'
  have hisz:i<n+1:=by rw [← hz];exact (Array.getElem?_eq_some_iff.1 hoi).1
  by_cases hin:i<n
  · obtain ⟨o, ho, h⟩ := step i hin (fun j => listed.getD j false) u w (getD_both hun) (fun j hj => by
     obtain ⟨oj,hoj,e,he,hb,hon⟩:=Region.waitsFor_spec hj
     have e1:oj=oi:=Option.some.inj (hoj.symm.trans hoi)
     subst e1
     have h1:=hall e he hb
     rw [hon] at h1
     exact h1) hI
    refine wpOp_step ho fun K' hK=>h K' fun v w' hI'=>hK _ _ ?_
    rw [hput i hin]
    refine ih _ _ _ ?_ (inv.set hi hin) ?_
    · have:=falses_set _ _ (at_false hun)
      simp only [Array.toList_setIfInBounds]
      omega
    · have : (fun j => (listed.setIfInBounds i true).getD j false) = come (fun j => listed.getD j false) i := by
       funext j
       unfold come
       by_cases e:j=i
       · subst e
         rw [if_pos rfl]
         have:j<listed.size:=by rw [inv.size,hz];omega
         simp [this]
       · rw [if_neg e,getD_set_ne false (Ne.symm e)]
      rw [this]
      exact hI'
  · have e:i=n:=by omega
    subst e
    have hlall:∀ j,j<i→listed.getD j false=true:=by
     intro j hj
     cases hb:listed.getD j false with
     | true=>rfl
     | false=>exact absurd hi (tail_waits hE.sink hE.chain hE.lt inv _ j rfl hj (getD_in (by rw [inv.size];omega) hb) i (Nat.le_refl _))
    obtain ⟨o,ho,h⟩:=last _ u w hlall hI
    refine wpOp_step ho fun K' hK=>h K' fun a' w' hq=>hK _ _ ?_
    have hd:Region.ready .any ops (listed.setIfInBounds i true)=[]:=by
     cases hr:Region.ready .any ops (listed.setIfInBounds i true) with
     | nil=>rfl
     | cons k l =>
      have hk:k∈Region.ready .any ops (listed.setIfInBounds i true):=by rw [hr];exact List.mem_cons_self
      obtain ⟨h1,ok,hok,_⟩:=mem_ready.1 hk
      have hklt:k<i+1:=by rw [← hz];exact (Array.getElem?_eq_some_iff.1 hok).1
      by_cases e:k=i
      · subst e
        have:k<listed.size:=by rw [inv.size];omega
        simp [this] at h1
      · rw [getD_set_ne true (Ne.symm e)] at h1
        have h2:=hlall k (by omega)
        rw [getD_both h1] at h2
        cases h2
    cases fuel with
    | zero=>exact ⟨hd,hq⟩
    | succ f=>exact ⟨fun _=>hq,fun k hk=>by rw [hd] at hk;cases hk⟩
theorem region_all {id:Nat} {a:Act} {w:World} (A:(Nat→Value)→Act) (s:Nat→Nat) (Inv:(Nat→Bool)→(Nat→Value)→World→Prop) (n:Nat) (u0:Nat→Value) (ha:a=A u0)
  (hm:P.follows .mixedOrders=true) (hz:ops.size=n+1) (hE:LastOf ops n) (hup:upB ops=true) (hS:Inv (fun _=>false) u0 w.drew)
  (hput:∀ i,i<n→∀ u v,(A u).put (some (s i)) v=A (upd u (s i) v))
  (step:∀ i,i<n→∀ L u w,L i=false→(∀ j,Region.waitsFor .any ops i j=true→L j=true)→Inv L u w→∃ o,ops[i]? = some o∧∀ K':Act→World→Prop,Shut (∀ v w',Inv (come L i) (upd u (s i) v) w'→K' ((A u).put (some (s i)) v) w')→if Region.wanted o (yielded ops (A u).tmps)=true then Oper.wp P o (A u) w K' Q else K' ((A u).put o.dst undef) w)
  (last:∀ L u w,(∀ j,j<n→L j=true)→Inv L u w→∃ o,ops[n]? = some o∧∀ K':Act→World→Prop,Shut (∀ a w,Q .normal a w→K' a w)→if Region.wanted o (yielded ops (A u).tmps)=true then Oper.wp P o (A u) w K' Q else K' ((A u).put o.dst undef) w) :
  (Code.region id ops true).wp P Q a w:=by
 subst ha
 refine wp_region_any hm ?_
 rw [hz]
 refine any_all hz hE hup hput step last _ _ _ _ ?_ ⟨by simp [hz],fun j oj _ hl=>(by rw [getD_replicate_false] at hl;cases hl),fun t _ ht=>getD_in (by simp;omega) (getD_replicate_false _ _)⟩ ?_
 · simp [falses_replicate]
 · have:(fun j=>(Array.replicate (n+1) false).getD j false)=fun _=>false:=by funext j;exact getD_replicate_false _ _
   rw [this]
   exact hS
def chainB (ops : Array Oper) (nx : List Nat) (n : Nat) : Bool := (List.range n).all fun j=>decide (j<nx.getD j 0) && decide (nx.getD j 0≤n) && Region.waitsFor .any ops (nx.getD j 0) j
theorem chain_all {nx:List Nat} (h:chainB ops nx n=true) {L:Nat→Bool} (hc:∀ j k,L j=true→Region.waitsFor .any ops j k=true→L k=true) (hn:L n=true):∀ d j,n - j≤d→j<n→L j=true:=by
 intro d
 induction d with
 | zero=>intro j h1 h2;omega
 | succ d ih =>
  intro j h1 h2
  have h3:=List.all_eq_true.1 h j (List.mem_range.2 h2)
  simp only [Bool.and_eq_true,decide_eq_true_eq] at h3
  obtain ⟨⟨h4,h5⟩,h6⟩:=h3
  refine hc _ _ ?_ h6
  by_cases e:nx.getD j 0=n
  · rw [e];exact hn
  · exact ih _ (by omega) (by omega)
open Go.RowKit in
structure Chg (X : Nat→Prop) (w w' : World) : Prop where
 os:w'.os=w.os
 tape:w'.tape=w.tape
 output:w'.output=w.output
 size:w.heap.size≤w'.heap.size
 block:∀ k,k<w.heap.size→¬ X k→w'.heap[k]? = w.heap[k]?
theorem Chg.refl (X:Nat→Prop) (w:World):Chg X w w:=⟨rfl,rfl,rfl,Nat.le_refl _,fun _ _ _=>rfl⟩
open Go.RowKit in
theorem Chg.of_below {X:Nat→Prop} {w w':World} (h:Below w.heap.size w w'):Chg X w w' := ⟨h.os,h.tape,h.output,h.size,fun k hk _=>h.block k hk⟩
theorem Chg.of_grown {X:Nat→Prop} {w w':World} {row:Option Nat} (h:w.grownBy w' row) (hX:∀ k,row=some k→X k):Chg X w w' := ⟨h.os,h.tape,h.output,h.size,fun k hk hn=>h.block k hk (fun e=>hn (hX k e.symm))⟩
open Go.RowKit in
theorem region_lin {id:Nat} {a:Act} {w:World} (A:(Nat→Value)→Act) (s:Nat→Nat) (φ:Nat→Value→World→Prop) (fp:Nat→Value→World→Nat→Prop) (ψ:Value→World→Prop) (W:World) (n:Nat) (con:List Nat) (u0:Nat→Value) (ha:a=A u0)
  (hm:P.follows .mixedOrders=true) (hz:ops.size=n+2) (hE:LastOf ops (n+1)) (hup:upB ops=true) (hch:chainB ops con n=true) (hW:Below W.heap.size W w)
  (hput:∀ i,i<n+1→∀ u v,(A u).put (some (s i)) v=A (upd u (s i) v)) (hinj:∀ i j,i<n+1→j<n+1→s i=s j→i=j)
  (stable:∀ i v w w',Below W.heap.size w w'→(∀ k,fp i v w k→k<w.heap.size∧w'.heap[k]? = w.heap[k]?)→φ i v w→φ i v w'∧∀ k,fp i v w' k→fp i v w k)
  (step:∀ i,i<n→∀ u w,Below W.heap.size W w→(∀ j,con.getD j 0=i→j<i→φ j (u (s j)) w∧∀ k,fp j (u (s j)) w k→W.heap.size≤k∧k<w.heap.size)→∃ o,ops[i]? = some o∧∀ K':Act→World→Prop,Shut (∀ v w',Chg (fun k=>∃ j,con.getD j 0=i∧j<i∧fp j (u (s j)) w k) w w'→φ i v w'→(∀ k,fp i v w' k→k<w'.heap.size∧((∃ j,con.getD j 0=i∧j<i∧fp j (u (s j)) w k)∨w.heap.size≤k))→K' ((A u).put (some (s i)) v) w')→if Region.wanted o (yielded ops (A u).tmps)=true then Oper.wp P o (A u) w K' Q else K' ((A u).put o.dst undef) w)
  (pre:∀ u w,Below W.heap.size W w→(∀ j,con.getD j 0=n→j<n→φ j (u (s j)) w∧∀ k,fp j (u (s j)) w k→W.heap.size≤k∧k<w.heap.size)→∃ o,ops[n]? = some o∧∀ K':Act→World→Prop,Shut (∀ v w',ψ v w'→K' ((A u).put (some (s n)) v) w')→if Region.wanted o (yielded ops (A u).tmps)=true then Oper.wp P o (A u) w K' Q else K' ((A u).put o.dst undef) w)
  (last:∀ u w,ψ (u (s n)) w→∃ o,ops[n+1]? = some o∧∀ K':Act→World→Prop,Shut (∀ a w,Q .normal a w→K' a w)→if Region.wanted o (yielded ops (A u).tmps)=true then Oper.wp P o (A u) w K' Q else K' ((A u).put o.dst undef) w) :
  (Code.region id ops true).wp P Q a w:=by
 have hcon:∀ j,j<n→j<con.getD j 0∧con.getD j 0≤n∧Region.waitsFor .any ops (con.getD j 0) j=true:=fun j hj=>by
  have h3:=List.all_eq_true.1 hch j (List.mem_range.2 hj)
  simp only [Bool.and_eq_true,decide_eq_true_eq] at h3
  exact ⟨h3.1.1,h3.1.2,h3.2⟩
 refine region_all A s (fun L u w=>(∀ j k,L j=true→Region.waitsFor .any ops j k=true→L k=true)∧(L n=true→ψ (u (s n)) w)∧(L n=false→Below W.heap.size W w∧(∀ j,j<n→L j=true→L (con.getD j 0)=false→φ j (u (s j)) w∧∀ k,fp j (u (s j)) w k→W.heap.size≤k∧k<w.heap.size)∧∀ j j',j<n→j' < n→j≠j'→L j=true→L (con.getD j 0)=false→L j' = true→L (con.getD j' 0)=false→∀ k,fp j (u (s j)) w k→¬ fp j' (u (s j')) w k)) (n+1) u0 ha hm hz hE hup ⟨fun j k h=>(by cases h),fun h=>(by cases h),fun _=>⟨hW.drew,fun j _ h=>(by cases h),fun j j' _ _ _ h=>(by cases h)⟩⟩ hput ?_ ?_
 · intro i hi L u w8 hLi hwait hI
   obtain ⟨hcl,hdone,hopen⟩:=hI
   have hcl':∀ j k,come L i j=true→Region.waitsFor .any ops j k=true→come L i k=true:=by
    intro j k hj hw
    by_cases e:j=i
    · subst e;exact come_old (hwait k hw)
    · rw [come_ne e] at hj
      exact come_old (hcl j k hj hw)
   have hLn:L n=false:=by
    by_cases hin:i<n
    · cases hb:L n with
      | false=>rfl
      | true=>rw [chain_all hch hcl hb (n - i) i (Nat.le_refl _) hin] at hLi;cases hLi
    · have e:i=n:=by omega
      rw [← e];exact hLi
   obtain ⟨hS8,hφ,hdis⟩:=hopen hLn
   have used:∀ j,con.getD j 0=i→j<i→L j=true:=fun j hj hji=>hwait j (by
    have:=(hcon j (by omega)).2.2
    rw [hj] at this
    exact this)
   by_cases hin:i<n
   · obtain ⟨o,ho,h⟩:=step i hin u w8 hS8 (fun j hj hji=>hφ j (by omega) (used j hj hji) (by rw [hj];exact hLi))
     refine ⟨o,ho,fun K' hK=>h K' fun v w' hc hv hf=>hK.out v w' ⟨hcl',fun h1=>?_,fun _=>?_⟩⟩
     · rw [come_ne (by omega),hLn] at h1;cases h1
     · have hXW : ∀ k, (∃ j, con.getD j 0 = i ∧ j < i ∧ fp j (u (s j)) w8 k) → W.heap.size ≤ k := fun k hk => by
        obtain ⟨j,hj,hji,hk⟩:=hk
        exact ((hφ j (by omega) (used j hj hji) (by rw [hj];exact hLi)).2 k hk).1
       have hb:Below W.heap.size w8 w' := ⟨hc.os,hc.tape,hc.output,hc.size,fun k hk=>hc.block k (Nat.lt_of_lt_of_le hk hS8.size) (fun hx=>by have:=hXW k hx;omega)⟩
       -- an older operation that is still to be used
       have alive:∀ j,j<n→j≠i→come L i j=true→come L i (con.getD j 0)=false→L j=true∧L (con.getD j 0)=false∧con.getD j 0≠i:=fun j hj e h1 h2=>by
        rw [come_ne e] at h1
        have h3:con.getD j 0≠i:=fun e'=>by rw [e',come_same] at h2;cases h2
        rw [come_ne h3] at h2
        exact ⟨h1,h2,h3⟩
       have apart:∀ j,j<n→L j=true→L (con.getD j 0)=false→con.getD j 0≠i→∀ k,fp j (u (s j)) w8 k→¬ ∃ j',con.getD j' 0=i∧j' < i∧fp j' (u (s j')) w8 k:=fun j hj h1 h2 h3 k hk hx=>by
        obtain ⟨j',hj',hji,hk'⟩:=hx
        exact hdis j j' hj (by omega) (fun e=>h3 (by rw [e];exact hj')) h1 h2 (used j' hj' hji) (by rw [hj'];exact hLi) k hk hk'
       have sub:∀ j,j<n→L j=true→L (con.getD j 0)=false→con.getD j 0≠i→∀ k,fp j (u (s j)) w' k→fp j (u (s j)) w8 k:=fun j hj h1 h2 h3=>by
        obtain ⟨hp,hk⟩:=hφ j hj h1 h2
        exact (stable j _ _ _ hb (fun k hk'=>⟨(hk k hk').2,hc.block k (hk k hk').2 (apart j hj h1 h2 h3 k hk')⟩) hp).2
       refine ⟨hS8.trans hb,fun j hj h1 h2=>?_,fun j j' hj hj' hne h1 h2 h1' h2' k hk=>?_⟩
       · by_cases e:j=i
         · subst e
           rw [upd_same]
           refine ⟨hv,fun k hk=>⟨?_,(hf k hk).1⟩⟩
           rcases (hf k hk).2 with hx|hx
           · exact hXW k hx
           · exact Nat.le_trans hS8.size hx
         · obtain ⟨h1,h2,h3⟩:=alive j hj e h1 h2
           rw [upd_ne _ _ (fun e'=>e (hinj j i (by omega) hi e'))]
           obtain ⟨hp,hk⟩:=hφ j hj h1 h2
           obtain ⟨hp',hsub⟩:=stable j _ _ _ hb (fun k hk'=>⟨(hk k hk').2,hc.block k (hk k hk').2 (apart j hj h1 h2 h3 k hk')⟩) hp
           exact ⟨hp',fun k hk'=>⟨(hk k (hsub k hk')).1,Nat.lt_of_lt_of_le (hk k (hsub k hk')).2 hc.size⟩⟩
       · by_cases e:j=i
         · subst e
           have e':j'≠j:=fun e=>hne e.symm
           obtain ⟨h1',h2',h3'⟩:=alive j' hj' e' h1' h2'
           rw [upd_same] at hk
           rw [upd_ne _ _ (fun e''=>e' (hinj j' j (by omega) hi e''))]
           intro hk'
           have hk' := sub j' hj' h1' h2' h3' k hk'
           rcases (hf k hk).2 with hx|hx
           · exact apart j' hj' h1' h2' h3' k hk' hx
           · have:=((hφ j' hj' h1' h2').2 k hk').2
             omega
         · obtain ⟨g1,g2,g3⟩:=alive j hj e h1 h2
           rw [upd_ne _ _ (fun e''=>e (hinj j i (by omega) hi e''))] at hk
           have hk:=sub j hj g1 g2 g3 k hk
           by_cases e':j' = i
           · subst e'
             rw [upd_same]
             intro hk'
             rcases (hf k hk').2 with hx|hx
             · exact apart j hj g1 g2 g3 k hk hx
             · have:=((hφ j hj g1 g2).2 k hk).2
               omega
           · obtain ⟨h1',h2',h3'⟩:=alive j' hj' e' h1' h2'
             rw [upd_ne _ _ (fun e''=>e' (hinj j' i (by omega) hi e''))]
             exact fun hk'=>hdis j j' hj hj' hne g1 g2 h1' h2' k hk (sub j' hj' h1' h2' h3' k hk')
   · have e:i=n:=by omega
     subst e
     obtain ⟨o,ho,h⟩:=pre u w8 hS8 (fun j hj hji=>hφ j hji (used j hj hji) (by rw [hj];exact hLi))
     refine ⟨o,ho,fun K' hK=>h K' fun v w' hv=>hK.out v w' ⟨hcl',fun _=>?_,fun h1=>?_⟩⟩
     · rw [upd_same];exact hv
     · rw [come_same] at h1;cases h1
 · intro L u w8 hall hI
   exact last u w8 (hI.2.1 (hall n (by omega)))
end Go.Proofs.YthompjbplddkgaaGreatDoor.drawnLin
