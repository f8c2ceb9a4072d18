import Derived.Test.YtcnoemjeijjnjaaGreatPart1
import Derived.OwnWalk
import Derived.WalkSpells
import Derived.Sort.Row
import Derived.BigRegion
set_option linter.unusedVariables false
namespace Go.Proofs.YtcnoemjeijjnjaaGreat.drawnLin
open Go heldStore drawn
variable {P : Program} {ops : Array Oper} {Q : Exit→Act→World→Prop}
variable {A : (Nat→Value)→Act} {s : Nat→Nat} {Inv : (Nat→Bool)→(Nat→Value)→World→Prop} {n : Nat}
def come (L : Nat→Bool) (i : Nat) : Nat→Bool := fun j=>if j=i then true else L j
theorem come_same (L:Nat→Bool) (i:Nat):come L i i=true:=if_pos rfl
theorem come_old {L:Nat→Bool} {i j:Nat} (h:L j=true):come L i j=true:=by
 unfold come;split <;> first|rfl|exact h
theorem come_ne {L:Nat→Bool} {i j:Nat} (e:j≠i):come L i j=L j:=if_neg e
theorem any_all (hz:ops.size=n+1) (hE:LastOf ops n) (hup:upB ops=true)
  (hput:∀ i,i<n→∀ u v,(A u).put (some (s i)) v=A (upd u (s i) v))
  (step:∀ i,i<n→∀ L u w,L i=false→(∀ j,Region.waitsFor .any ops i j=true→L j=true)→Inv L u w→∃ o,ops[i]? = some o∧∀ K':Act→World→Prop,Shut (∀ v w',Inv (come L i) (upd u (s i) v) w'→K' ((A u).put (some (s i)) v) w')→if Region.wanted o (yielded ops (A u).tmps)=true then Oper.wp P o (A u) w K' Q else K' ((A u).put o.dst undef) w)
  (last:∀ L u w,(∀ j,j<n→L j=true)→Inv L u w→∃ o,ops[n]? = some o∧∀ K':Act→World→Prop,Shut (∀ a w,Q .normal a w→K' a w)→if Region.wanted o (yielded ops (A u).tmps)=true then Oper.wp P o (A u) w K' Q else K' ((A u).put o.dst undef) w) :
  ∀ (fuel:Nat) (listed:Array Bool) (u:Nat→Value) (w:World),falses listed.toList≤fuel→HeadInv .any ops n listed→Inv (fun j=>listed.getD j false) u w →
   wpAny P .any ops Q fuel listed (A u) w:=by
 intro fuel
 induction fuel with
 | zero =>
  intro listed u w hf inv _
  have:=falses_pos _ _ (at_false (inv.tail n (Nat.le_refl _) (by omega)))
  omega
 | succ fuel ih =>
  intro listed u w hf inv hI
  have hn:=inv.tail n (Nat.le_refl _) (by omega)
  refine ⟨fun h=>absurd h (ready_ne hup inv.size n hn),fun i hi=>?_⟩
  have hi' := mem_ready.1 hi
  obtain ⟨hun,oi,hoi,hall⟩:=hi'
  have hisz:i<n+1:=by rw [← hz];exact (Array.getElem?_eq_some_iff.1 hoi).1
  by_cases hin:i<n
  · obtain ⟨o, ho, h⟩ := step i hin (fun j => listed.getD j false) u w (getD_both hun) (fun j hj => by
     obtain ⟨oj,hoj,e,he,hb,hon⟩:=Region.waitsFor_spec hj
     have e1:oj=oi:=Option.some.inj (hoj.symm.trans hoi)
     subst e1
     have h1:=hall e he hb
     rw [hon] at h1
     exact h1) hI
    refine wpOp_step ho fun K' hK=>h K' fun v w' hI'=>hK _ _ ?_
    rw [hput i hin]
    refine ih _ _ _ ?_ (inv.set hi hin) ?_
    · have:=falses_set _ _ (at_false hun)
      simp only [Array.toList_setIfInBounds]
      omega
    have:(fun j=>(listed.setIfInBounds i true).getD j false)=come (fun j=>listed.getD j false) i:=by
     funext j
     unfold come
     by_cases e:j=i
     · subst e
       rw [if_pos rfl]
       have:j<listed.size:=by rw [inv.size,hz];omega
       simp [this]
     rw [if_neg e,getD_set_ne false (Ne.symm e)]
    rw [this]
    exact hI'
  have e:i=n:=by omega
  subst e
  have hlall:∀ j,j<i→listed.getD j false=true:=by
   intro j hj
   cases hb:listed.getD j false with
   | true=>rfl
   | false=>exact absurd hi (tail_waits hE.sink hE.chain hE.lt inv _ j rfl hj (getD_in (by rw [inv.size];omega) hb) i (Nat.le_refl _))
  obtain ⟨o,ho,h⟩:=last _ u w hlall hI
  refine wpOp_step ho fun K' hK=>h K' fun a' w' hq=>hK _ _ ?_
  have hd:Region.ready .any ops (listed.setIfInBounds i true)=[]:=by
   cases hr:Region.ready .any ops (listed.setIfInBounds i true) with
   | nil=>rfl
   | cons k l =>
    have hk:k∈Region.ready .any ops (listed.setIfInBounds i true):=by rw [hr];exact List.mem_cons_self
    obtain ⟨h1,ok,hok,_⟩:=mem_ready.1 hk
    have hklt:k<i+1:=by rw [← hz];exact (Array.getElem?_eq_some_iff.1 hok).1
    by_cases e:k=i
    · subst e
      have:k<listed.size:=by rw [inv.size];omega
      simp [this] at h1
    rw [getD_set_ne true (Ne.symm e)] at h1
    have h2:=hlall k (by omega)
    rw [getD_both h1] at h2
    cases h2
  cases fuel with
  | zero=>exact ⟨hd,hq⟩
  | succ f=>exact ⟨fun _=>hq,fun k hk=>by rw [hd] at hk;cases hk⟩
theorem region_all {id:Nat} {a:Act} {w:World} (A:(Nat→Value)→Act) (s:Nat→Nat) (Inv:(Nat→Bool)→(Nat→Value)→World→Prop) (n:Nat) (u0:Nat→Value) (ha:a=A u0)
  (hm:P.follows .mixedOrders=true) (hz:ops.size=n+1) (hE:LastOf ops n) (hup:upB ops=true) (hS:Inv (fun _=>false) u0 w.drew)
  (hput:∀ i,i<n→∀ u v,(A u).put (some (s i)) v=A (upd u (s i) v))
  (step:∀ i,i<n→∀ L u w,L i=false→(∀ j,Region.waitsFor .any ops i j=true→L j=true)→Inv L u w→∃ o,ops[i]? = some o∧∀ K':Act→World→Prop,Shut (∀ v w',Inv (come L i) (upd u (s i) v) w'→K' ((A u).put (some (s i)) v) w')→if Region.wanted o (yielded ops (A u).tmps)=true then Oper.wp P o (A u) w K' Q else K' ((A u).put o.dst undef) w)
  (last:∀ L u w,(∀ j,j<n→L j=true)→Inv L u w→∃ o,ops[n]? = some o∧∀ K':Act→World→Prop,Shut (∀ a w,Q .normal a w→K' a w)→if Region.wanted o (yielded ops (A u).tmps)=true then Oper.wp P o (A u) w K' Q else K' ((A u).put o.dst undef) w) :
  (Code.region id ops true).wp P Q a w:=by
 subst ha
 refine wp_region_any hm ?_
 rw [hz]
 refine any_all hz hE hup hput step last _ _ _ _ ?_ ⟨by simp [hz],fun j oj _ hl=>(by rw [getD_replicate_false] at hl;cases hl),fun t _ ht=>getD_in (by simp;omega) (getD_replicate_false _ _)⟩ ?_
 · simp [falses_replicate]
 have:(fun j=>(Array.replicate (n+1) false).getD j false)=fun _=>false:=by funext j;exact getD_replicate_false _ _
 rw [this]
 exact hS
def chainB (ops : Array Oper) (nx : List Nat) (n : Nat) : Bool := (List.range n).all fun j=>decide (j<nx.getD j 0) && decide (nx.getD j 0≤n) && Region.waitsFor .any ops (nx.getD j 0) j
theorem chain_all {nx:List Nat} (h:chainB ops nx n=true) {L:Nat→Bool} (hc:∀ j k,L j=true→Region.waitsFor .any ops j k=true→L k=true) (hn:L n=true):∀ d j,n - j≤d→j<n→L j=true:=by
 intro d
 induction d with
 | zero=>intro j h1 h2;omega
 | succ d ih =>
  intro j h1 h2
  have h3:=List.all_eq_true.1 h j (List.mem_range.2 h2)
  simp only [Bool.and_eq_true,decide_eq_true_eq] at h3
  obtain ⟨⟨h4,h5⟩,h6⟩:=h3
  refine hc _ _ ?_ h6
  by_cases e:nx.getD j 0=n
  · rw [e];exact hn
  exact ih _ (by omega) (by omega)
open Go.RowKit in
structure Chg (X : Nat→Prop) (w w' : World) : Prop where
 os:w'.os=w.os
 tape:w'.tape=w.tape
 output:w'.output=w.output
 size:w.heap.size≤w'.heap.size
 block:∀ k,k<w.heap.size→¬ X k→w'.heap[k]? = w.heap[k]?
theorem Chg.refl (X:Nat→Prop) (w:World):Chg X w w:=⟨rfl,rfl,rfl,Nat.le_refl _,fun _ _ _=>rfl⟩
open Go.RowKit in
theorem Chg.of_below {X:Nat→Prop} {w w':World} (h:Below w.heap.size w w'):Chg X w w' := ⟨h.os,h.tape,h.output,h.size,fun k hk _=>h.block k hk⟩
theorem Chg.of_grown {X:Nat→Prop} {w w':World} {row:Option Nat} (h:w.grownBy w' row) (hX:∀ k,row=some k→X k):Chg X w w' := ⟨h.os,h.tape,h.output,h.size,fun k hk hn=>h.block k hk (fun e=>hn (hX k e.symm))⟩
open Go.RowKit in
theorem region_lin {id:Nat} {a:Act} {w:World} (A:(Nat→Value)→Act) (s:Nat→Nat) (φ:Nat→Value→World→Prop) (fp:Nat→Value→World→Nat→Prop) (ψ:Value→World→Prop) (W:World) (n:Nat) (con:List Nat) (u0:Nat→Value) (ha:a=A u0)
  (hm:P.follows .mixedOrders=true) (hz:ops.size=n+2) (hE:LastOf ops (n+1)) (hup:upB ops=true) (hch:chainB ops con n=true) (hW:Below W.heap.size W w)
  (hput:∀ i,i<n+1→∀ u v,(A u).put (some (s i)) v=A (upd u (s i) v)) (hinj:∀ i j,i<n+1→j<n+1→s i=s j→i=j)
  (stable:∀ i v w w',Below W.heap.size w w'→(∀ k,fp i v w k→k<w.heap.size∧w'.heap[k]? = w.heap[k]?)→φ i v w→φ i v w'∧∀ k,fp i v w' k→fp i v w k)
  (step:∀ i,i<n→∀ u w,Below W.heap.size W w→(∀ j,con.getD j 0=i→j<i→φ j (u (s j)) w∧∀ k,fp j (u (s j)) w k→W.heap.size≤k∧k<w.heap.size)→∃ o,ops[i]? = some o∧∀ K':Act→World→Prop,Shut (∀ v w',Chg (fun k=>∃ j,con.getD j 0=i∧j<i∧fp j (u (s j)) w k) w w'→φ i v w'→(∀ k,fp i v w' k→k<w'.heap.size∧((∃ j,con.getD j 0=i∧j<i∧fp j (u (s j)) w k)∨w.heap.size≤k))→K' ((A u).put (some (s i)) v) w')→if Region.wanted o (yielded ops (A u).tmps)=true then Oper.wp P o (A u) w K' Q else K' ((A u).put o.dst undef) w)
  (pre:∀ u w,Below W.heap.size W w→(∀ j,con.getD j 0=n→j<n→φ j (u (s j)) w∧∀ k,fp j (u (s j)) w k→W.heap.size≤k∧k<w.heap.size)→∃ o,ops[n]? = some o∧∀ K':Act→World→Prop,Shut (∀ v w',ψ v w'→K' ((A u).put (some (s n)) v) w')→if Region.wanted o (yielded ops (A u).tmps)=true then Oper.wp P o (A u) w K' Q else K' ((A u).put o.dst undef) w)
  (last:∀ u w,ψ (u (s n)) w→∃ o,ops[n+1]? = some o∧∀ K':Act→World→Prop,Shut (∀ a w,Q .normal a w→K' a w)→if Region.wanted o (yielded ops (A u).tmps)=true then Oper.wp P o (A u) w K' Q else K' ((A u).put o.dst undef) w) :
  (Code.region id ops true).wp P Q a w:=by
 have hcon:∀ j,j<n→j<con.getD j 0∧con.getD j 0≤n∧Region.waitsFor .any ops (con.getD j 0) j=true:=fun j hj=>by
  have h3:=List.all_eq_true.1 hch j (List.mem_range.2 hj)
  simp only [Bool.and_eq_true,decide_eq_true_eq] at h3
  exact ⟨h3.1.1,h3.1.2,h3.2⟩
 refine region_all A s (fun L u w=>(∀ j k,L j=true→Region.waitsFor .any ops j k=true→L k=true)∧(L n=true→ψ (u (s n)) w)∧(L n=false→Below W.heap.size W w∧(∀ j,j<n→L j=true→L (con.getD j 0)=false→φ j (u (s j)) w∧∀ k,fp j (u (s j)) w k→W.heap.size≤k∧k<w.heap.size)∧∀ j j',j<n→j' < n→j≠j'→L j=true→L (con.getD j 0)=false→L j' = true→L (con.getD j' 0)=false→∀ k,fp j (u (s j)) w k→¬ fp j' (u (s j')) w k)) (n+1) u0 ha hm hz hE hup ⟨fun j k h=>(by cases h),fun h=>(by cases h),fun _=>⟨hW.drew,fun j _ h=>(by cases h),fun j j' _ _ _ h=>(by cases h)⟩⟩ hput ?_ ?_
 · intro i hi L u w8 hLi hwait hI
   obtain ⟨hcl,hdone,hopen⟩:=hI
   have hcl':∀ j k,come L i j=true→Region.waitsFor .any ops j k=true→come L i k=true:=by
    intro j k hj hw
    by_cases e:j=i
    · subst e;exact come_old (hwait k hw)
    rw [come_ne e] at hj
    exact come_old (hcl j k hj hw)
   have hLn:L n=false:=by
    by_cases hin:i<n
    · cases hb:L n with
      | false=>rfl
      | true=>rw [chain_all hch hcl hb (n - i) i (Nat.le_refl _) hin] at hLi;cases hLi
    have e:i=n:=by omega
    rw [← e];exact hLi
   obtain ⟨hS8,hφ,hdis⟩:=hopen hLn
   have used:∀ j,con.getD j 0=i→j<i→L j=true:=fun j hj hji=>hwait j (by
    have:=(hcon j (by omega)).2.2
    rw [hj] at this
    exact this)
   by_cases hin:i<n
   · obtain ⟨o,ho,h⟩:=step i hin u w8 hS8 (fun j hj hji=>hφ j (by omega) (used j hj hji) (by rw [hj];exact hLi))
     refine ⟨o,ho,fun K' hK=>h K' fun v w' hc hv hf=>hK.out v w' ⟨hcl',fun h1=>?_,fun _=>?_⟩⟩
     · rw [come_ne (by omega),hLn] at h1;cases h1
     have hXW:∀ k,(∃ j,con.getD j 0=i∧j<i∧fp j (u (s j)) w8 k)→W.heap.size≤k:=fun k hk=>by
      obtain ⟨j,hj,hji,hk⟩:=hk
      exact ((hφ j (by omega) (used j hj hji) (by rw [hj];exact hLi)).2 k hk).1
     have hb:Below W.heap.size w8 w' := ⟨hc.os,hc.tape,hc.output,hc.size,fun k hk=>hc.block k (Nat.lt_of_lt_of_le hk hS8.size) (fun hx=>by have:=hXW k hx;omega)⟩
     -- an older operation that is still to be used
     have alive:∀ j,j<n→j≠i→come L i j=true→come L i (con.getD j 0)=false→L j=true∧L (con.getD j 0)=false∧con.getD j 0≠i:=fun j hj e h1 h2=>by
      rw [come_ne e] at h1
      have h3:con.getD j 0≠i:=fun e'=>by rw [e',come_same] at h2;cases h2
      rw [come_ne h3] at h2
      exact ⟨h1,h2,h3⟩
     have apart:∀ j,j<n→L j=true→L (con.getD j 0)=false→con.getD j 0≠i→∀ k,fp j (u (s j)) w8 k→¬ ∃ j',con.getD j' 0=i∧j' < i∧fp j' (u (s j')) w8 k:=fun j hj h1 h2 h3 k hk hx=>by
      obtain ⟨j',hj',hji,hk'⟩:=hx
      exact hdis j j' hj (by omega) (fun e=>h3 (by rw [e];exact hj')) h1 h2 (used j' hj' hji) (by rw [hj'];exact hLi) k hk hk'
     have sub:∀ j,j<n→L j=true→L (con.getD j 0)=false→con.getD j 0≠i→∀ k,fp j (u (s j)) w' k→fp j (u (s j)) w8 k:=fun j hj h1 h2 h3=>by
      obtain ⟨hp,hk⟩:=hφ j hj h1 h2
      exact (stable j _ _ _ hb (fun k hk'=>⟨(hk k hk').2,hc.block k (hk k hk').2 (apart j hj h1 h2 h3 k hk')⟩) hp).2
     refine ⟨hS8.trans hb,fun j hj h1 h2=>?_,fun j j' hj hj' hne h1 h2 h1' h2' k hk=>?_⟩
     · by_cases e:j=i
       · subst e
         rw [upd_same]
         refine ⟨hv,fun k hk=>⟨?_,(hf k hk).1⟩⟩
         rcases (hf k hk).2 with hx|hx
         · exact hXW k hx
         exact Nat.le_trans hS8.size hx
       obtain ⟨h1,h2,h3⟩:=alive j hj e h1 h2
       rw [upd_ne _ _ (fun e'=>e (hinj j i (by omega) hi e'))]
       obtain ⟨hp,hk⟩:=hφ j hj h1 h2
       obtain ⟨hp',hsub⟩:=stable j _ _ _ hb (fun k hk'=>⟨(hk k hk').2,hc.block k (hk k hk').2 (apart j hj h1 h2 h3 k hk')⟩) hp
       exact ⟨hp',fun k hk'=>⟨(hk k (hsub k hk')).1,Nat.lt_of_lt_of_le (hk k (hsub k hk')).2 hc.size⟩⟩
     by_cases e:j=i
     · subst e
       have e':j'≠j:=fun e=>hne e.symm
       obtain ⟨h1',h2',h3'⟩:=alive j' hj' e' h1' h2'
       rw [upd_same] at hk
       rw [upd_ne _ _ (fun e''=>e' (hinj j' j (by omega) hi e''))]
       intro hk'
       have hk' := sub j' hj' h1' h2' h3' k hk'
       rcases (hf k hk).2 with hx|hx
       · exact apart j' hj' h1' h2' h3' k hk' hx
       have:=((hφ j' hj' h1' h2').2 k hk').2
       omega
     obtain ⟨g1,g2,g3⟩:=alive j hj e h1 h2
     rw [upd_ne _ _ (fun e''=>e (hinj j i (by omega) hi e''))] at hk
     have hk:=sub j hj g1 g2 g3 k hk
     by_cases e':j' = i
     · subst e'
       rw [upd_same]
       intro hk'
       rcases (hf k hk').2 with hx|hx
       · exact apart j hj g1 g2 g3 k hk hx
       have:=((hφ j hj g1 g2).2 k hk).2
       omega
     obtain ⟨h1',h2',h3'⟩:=alive j' hj' e' h1' h2'
     rw [upd_ne _ _ (fun e''=>e' (hinj j' i (by omega) hi e''))]
     exact fun hk'=>hdis j j' hj hj' hne g1 g2 h1' h2' k hk (sub j' hj' h1' h2' h3' k hk')
   have e:i=n:=by omega
   subst e
   obtain ⟨o,ho,h⟩:=pre u w8 hS8 (fun j hj hji=>hφ j hji (used j hj hji) (by rw [hj];exact hLi))
   refine ⟨o,ho,fun K' hK=>h K' fun v w' hv=>hK.out v w' ⟨hcl',fun _=>?_,fun h1=>?_⟩⟩
   · rw [upd_same];exact hv
   rw [come_same] at h1;cases h1
 intro L u w8 hall hI
 exact last u w8 (hI.2.1 (hall n (by omega)))
end Go.Proofs.YtcnoemjeijjnjaaGreat.drawnLin
namespace Go.Proofs.YtcnoemjeijjnjaaGreat.copy
open Go.RowKit Go.Deep base
theorem Tryz.info_int : (Tryz.prog.info? 3).map (fun i=>(i.zero,i.size,i.bytes))=some (some (.int .i64 0),1,8):=by kernel_rfl
structure Copied (w : World) (N : Nat) (zss : List (List Int)) : Prop where
 outer:w.rowIs N 25 zss.length (fun i=>.slice (some ⟨N+1+i,0,none⟩) (zss[i]?.getD []).length (zss[i]?.getD []).length)
 inner:∀ i,i<zss.length→w.rowIs (N+1+i) 3 (zss[i]?.getD []).length (fun j=>.int .i64 ((zss[i]?.getD [])[j]?.getD 0))
theorem IntRow.of_rowIs {w:World} {b:Nat} {zs:List Int} {t:TypeId} (h:w.rowIs b t zs.length (fun j=>.int .i64 (zs[j]?.getD 0))) (hm:zs.length≤maxLen):IntRow w (some ⟨b,0,none⟩) zs.length zs :=
 ⟨rfl,hm,fun i hi=>⟨b,0,rfl,by simpa using h.cell hi⟩⟩
theorem Copied.rows {w:World} {N:Nat} {zss:List (List Int)} (h:Copied w N zss) (hm:zss.length≤maxLen) (hi:∀ i,i<zss.length→(zss[i]?.getD []).length≤maxLen):IntRows w (some ⟨N,0,none⟩) zss.length zss :=
 ⟨rfl,hm,fun i hlt=>⟨N,0,rfl,_,_,_,by simpa using h.outer.cell hlt,IntRow.of_rowIs (h.inner i hlt) (hi i hlt)⟩⟩
theorem Copied.below {w w1:World} {N:Nat} {zss:List (List Int)} (h:Copied w N zss) (hb:Below w.heap.size w w1):Copied w1 N zss :=
 ⟨h.outer.of_block (hb.block _ h.outer.lt),fun i hi=>(h.inner i hi).of_block (hb.block _ (h.inner i hi).lt)⟩
theorem BoolRow.of_rowIs {w:World} {b len:Nat} {zs:List Bool} {t:TypeId} (hl:zs.length=len) (hm:len≤maxLen) (h:w.rowIs b t len (fun j=>.bool (zs[j]?.getD false))):BoolRow w (some ⟨b,0,none⟩) len zs :=
 ⟨hl,hm,fun i hi=>⟨b,0,rfl,by simpa using h.cell hi⟩⟩
theorem Tryz.info_bool : (Tryz.prog.info? 4).map (fun i=>(i.zero,i.size,i.bytes))=some (some (.bool false),1,1):=by kernel_rfl
end Go.Proofs.YtcnoemjeijjnjaaGreat.copy
namespace Go.Proofs.YtcnoemjeijjnjaaGreat.intsOwn
open Go.RowKit Go.Deep Go.Sort base copy
def OwnInts (B : Nat) (w : World) (v : Value) (zs : List Int) : Prop := w.ownsRow B 3 1 v zs.length (zs.map (Value.int .i64))
theorem OwnInts.nil (B:Nat) (w:World):OwnInts B w (.slice none 0 0) []:=World.ownsRow_nil w B 3 1
theorem OwnInts.form {B:Nat} {w:World} {v:Value} {zs:List Int} (h:OwnInts B w v zs):∃ a cap,v=.slice a zs.length cap∧IntRow w a zs.length zs:=by
 obtain ⟨h1,h2⟩:=h
 rcases h2 with ⟨rfl,hn⟩|⟨g,cap,cur,rfl,hb,hh,hn,hm,hs,ht⟩
 · exact ⟨none,0,by rw [hn],⟨rfl,by rw [hn];exact Nat.zero_le _,fun i hi=>by omega⟩⟩
 refine ⟨some ⟨g,0,none⟩,cap,rfl,⟨rfl,Nat.le_trans hn hm,fun i hi=>⟨g,0,rfl,?_⟩⟩⟩
 have h3:cur[i]? = some (.int .i64 (zs[i]?.getD 0)):=by
  have:(cur.toList.take (zs.length*1))[i]? = (zs.map (Value.int .i64))[i]?:=by rw [ht]
  rw [List.getElem?_take,if_pos (by omega)] at this
  rw [← Array.getElem?_toList,this,List.getElem?_map,List.getElem?_eq_getElem hi]
  rfl
 simp [World.cell?,hh,h3]
theorem OwnInts.below {B:Nat} {W w1:World} {v:Value} {zs:List Int} (h:OwnInts B W v zs) (hb:Below W.heap.size W w1):OwnInts B w1 v zs:=by
 obtain ⟨h1,h2⟩:=h
 refine ⟨h1,?_⟩
 rcases h2 with h2|⟨g,cap,cur,e,hg,hh,hn,hm,hs,ht⟩
 · exact .inl h2
 exact .inr ⟨g,cap,cur,e,hg,by rw [hb.block g (Array.getElem?_eq_some_iff.1 hh).1];exact hh,hn,hm,hs,ht⟩
theorem OwnInts.mono {B B':Nat} {w:World} {v:Value} {zs:List Int} (h:OwnInts B w v zs) (hb:B'≤B):OwnInts B' w v zs:=by
 obtain ⟨h1,h2⟩:=h
 refine ⟨h1,?_⟩
 rcases h2 with h2|⟨g,cap,cur,e,hg,hh,hn,hm,hs,ht⟩
 · exact .inl h2
 exact .inr ⟨g,cap,cur,e,Nat.le_trans hb hg,hh,hn,hm,hs,ht⟩
theorem grown_below {B:Nat} {w w1 w2:World} {v:Value} {zs:List Int} (h:OwnInts B w1 v zs) (hb:Below B w w1) (hB:B≤w1.heap.size) (hg:w1.grownBy w2 v.ownBlock):Below B w w2 :=
 hb.grown hg hB (fun k hk=>(World.ownsRow.lt h k hk).1)
theorem own_pass {B n:Nat} {w w1:World} {v:Value} {t:TypeId} {s:Nat} {xs:List Value} (h:w.ownsRow B t s v n xs) (hb:Below w.heap.size w w1):w1.ownsRow B t s v n xs:=by
 obtain ⟨h1,h2⟩:=h
 refine ⟨h1,?_⟩
 rcases h2 with h2|⟨g,cap,cur,e,hg,hh,hn,hm,hs,ht⟩
 · exact .inl h2
 exact .inr ⟨g,cap,cur,e,hg,by rw [hb.block g (Array.getElem?_eq_some_iff.1 hh).1];exact hh,hn,hm,hs,ht⟩
theorem own_lt {B g:Nat} {w:World} {v:Value} {zs:List Int} (h:OwnInts B w v zs) (hg:v.ownBlock=some g):B≤g∧g<w.heap.size:=World.ownsRow.lt h g hg
theorem row_of_own {B:Nat} {w:World} {a:Option Addr} {n c:Nat} {zs:List Int} (h:OwnInts B w (.slice a n c) zs):IntRow w a n zs:=by
 obtain ⟨a',c',e,hr⟩:=h.form
 have e1:a=a' := by injection e
 have e2:n=zs.length:=by injection e
 rw [e1,e2]
 exact hr
theorem own_grown {B:Nat} {w w1:World} {v:Value} {zs:List Int} {row:Option Nat} (h:OwnInts B w v zs) (hg:w.grownBy w1 row) (hne:∀ g,v.ownBlock=some g→some g≠row):OwnInts B w1 v zs:=by
 obtain ⟨h1,h2⟩:=h
 refine ⟨h1,?_⟩
 rcases h2 with h2|⟨g,cap,cur,rfl,hgB,hh,hn,hm,hs,ht⟩
 · exact .inl h2
 exact .inr ⟨g,cap,cur,rfl,hgB,by rw [hg.block g (Array.getElem?_eq_some_iff.1 hh).1 (hne g rfl)];exact hh,hn,hm,hs,ht⟩
theorem grown_refl (w:World) (row:Option Nat):w.grownBy w row:=⟨rfl,rfl,rfl,Nat.le_refl _,fun _ _ _=>rfl⟩
theorem grown_set {w w1:World} {g k:Nat} {v:Value} (h:w.grownBy w1 (some g)):w.grownBy (w1.setCell ⟨g,k,none⟩ v) (some g):=by
 rw [setCell_eq]
 refine ⟨h.os,h.tape,h.output,?_,fun j hj hne=>?_⟩
 · show _≤(w1.heap.modify g _).size
   rw [Array.size_modify];exact h.size
 show (w1.heap.modify g _)[j]? = _
 rw [Array.getElem?_modify,if_neg (fun e=>hne (by rw [e]))]
 exact h.block j hj hne
end Go.Proofs.YtcnoemjeijjnjaaGreat.intsOwn
namespace Go.Proofs.YtcnoemjeijjnjaaGreat.source
open Go.RowKit Go.Deep Go.Sort base intsOwn
def Bytes (w : World) (a : Option Addr) (len : Nat) : Prop := ∀ i,i<len→∃ bb off,a=some ⟨bb,off,none⟩∧∃ x : Nat,x<256∧w.cell? ⟨bb,off+i,none⟩=some (.int .u8 x)
structure Src (w : World) (b : Nat) (a : Option Addr) (len cap k : Nat) : Prop where
 long:len≤1048576
 cells:∃ n s:Int,0≤n∧n≤k∧0≤s∧s<2147483648∧w.rowIs b 109 3 (fun i=>if i=0 then .slice a len cap else if i=1 then .int .i64 n else .int .i64 s)
 bytes:∀ i,i<len→∃ bb off,a=some ⟨bb,off,none⟩∧bb<b∧∃ x:Nat,x<256∧w.cell? ⟨bb,off+i,none⟩=some (.int .u8 x)
theorem Src.below {w w1:World} {b len cap k:Nat} {a:Option Addr} (h:Src w b a len cap k) (hb:Below w.heap.size w w1):Src w1 b a len cap k:=by
 obtain ⟨h1,⟨n,s,p1,p2,p3,p4,hr⟩,h3⟩:=h
 exact ⟨h1,⟨n,s,p1,p2,p3,p4,hr.of_block (hb.block _ hr.lt)⟩,fun i hi=>by
  obtain ⟨bb,off,e,hne,x,hx,hc⟩:=h3 i hi
  exact ⟨bb,off,e,hne,x,hx,keep hb hc⟩⟩
theorem Src.mono {w:World} {b len cap k k':Nat} {a:Option Addr} (h:Src w b a len cap k) (hk:k≤k'):Src w b a len cap k' := by
 obtain ⟨h1,⟨n,s,p1,p2,p3,p4,hr⟩,h3⟩:=h
 exact ⟨h1,⟨n,s,p1,by omega,p3,p4,hr⟩,h3⟩
theorem rem_range (x m:Int) (h:0≤x) (hm:0<m):0≤x.tmod m∧x.tmod m<m:=by
 rw [Int.tmod_eq_emod_of_nonneg h]
 exact ⟨Int.emod_nonneg _ (by omega),Int.emod_lt_of_pos _ hm⟩
theorem row_facts {w:World} {b:Nat} {x y z:Value} (h:w.rowIs b 109 3 (fun i=>if i=0 then x else if i=1 then y else z)) :
  w.cell? ⟨b,0,none⟩=some x∧w.cell? ⟨b,1,none⟩=some y∧w.cell? ⟨b,2,none⟩=some z∧w.frozen? ⟨b,1,none⟩=false∧w.frozen? ⟨b,2,none⟩=false :=
 ⟨by simpa using h.cell (i:=0) (by omega),by simpa using h.cell (i:=1) (by omega),by simpa using h.cell (i:=2) (by omega),h.frozen 1,h.frozen 2⟩
theorem row_set1 {w:World} {b:Nat} {x y z:Value} (h:w.rowIs b 109 3 (fun i=>if i=0 then x else if i=1 then y else z)) (v:Value):(w.setCell ⟨b,1,none⟩ v).rowIs b 109 3 (fun i=>if i=0 then x else if i=1 then v else z) :=
 (h.set 1 v).congr (fun i hi=>by rcases (show i=0∨i=1∨i=2 by omega) with rfl|rfl|rfl <;> simp)
theorem row_set2 {w:World} {b:Nat} {x y z:Value} (h:w.rowIs b 109 3 (fun i=>if i=0 then x else if i=1 then y else z)) (v:Value):(w.setCell ⟨b,2,none⟩ v).rowIs b 109 3 (fun i=>if i=0 then x else if i=1 then y else v) :=
 (h.set 2 v).congr (fun i hi=>by rcases (show i=0∨i=1∨i=2 by omega) with rfl|rfl|rfl <;> simp)
theorem grown_drewN {w w1:World} {row:Option Nat} (h:w.grownBy w1 row) (n:Nat):w.grownBy (w1.drewN n) row:=⟨h.os,h.tape,h.output,h.size,h.block⟩
theorem far {w w1:World} {b bb o:Nat} {v:Value} (h:w.grownBy w1 (some b)) (hne:bb<b) (hc:w.cell? ⟨bb,o,none⟩=some v):w1.cell? ⟨bb,o,none⟩=some v:=by
 rw [World.cell?_of_block (a:=⟨bb,o,none⟩) (h.block bb (World.block_lt_of_cell? _ _ hc) (fun e=>Nat.ne_of_lt hne (by injection e)))]
 exact hc
set_option maxHeartbeats 1600000 in
theorem byte_src (b:Nat) (a:Option Addr) (len cap k:Nat) (w:World) (h:Src w b a len cap k) (hk:k≤1048576) :
  Calls Tryz.prog 80 #[.pointer (some ⟨b,0,none⟩)] w fun e w'=>∃ r:Int,e=.returned (.int .i64 r)∧0≤r∧r<256∧Src w' b a len cap (k+1)∧w.grownBy w' (some b):=by
 obtain ⟨hlong,⟨n,s,p1,p2,p3,p4,hr⟩,hbytes⟩:=h
 obtain ⟨c0,c1,c2,f1,f2⟩:=row_facts hr
 have HR1:=hid (row_set1 hr (.int .i64 (n+1)))
 have HBy:=hid hbytes
 have HG1:Hid (w.grownBy (w.setCell ⟨b,1,none⟩ (.int .i64 (n+1))) (some b)):=grown_set (grown_refl _ _)
 clear hbytes hr
 go_enter Tryz.func80,Tryz.ntmps80
 go_wp2
 generalize w.setCell ⟨b,1,none⟩ (.int .i64 (n+1))=W1 at HR1 HG1 ⊢
 obtain ⟨d0,d1,d2,g1,g2⟩:=row_facts HR1.out
 clear c0 c1 c2 f1 f2
 obtain ⟨m,rfl⟩:=Int.eq_ofNat_of_zero_le p1
 by_cases hle:(m:Int)+1≤(len:Int)
 · obtain ⟨bb,off,rfl,hne,x,hx,hc⟩:=HBy.out m (by omega)
   have hcx:=far HG1.out hne hc
   clear hc
   go_quiet (fail)
   have e0:(W1.drewN nq).cell? ⟨b,0,none⟩=some (.slice (some ⟨bb,off,none⟩) len cap):=d0
   have e1:(W1.drewN nq).cell? ⟨b,1,none⟩=some (.int .i64 ((m:Int)+1)):=d1
   have e2:(W1.drewN nq).cell? ⟨b,2,none⟩=some (.int .i64 s):=d2
   have e3:(W1.drewN nq).cell? ⟨bb,off+m,none⟩=some (.int .u8 x):=hcx
   have e4:(W1.drewN nq).frozen? ⟨b,2,none⟩=false:=g2
   have HR2:Hid ((W1.drewN nq).rowIs b 109 3 (fun i=>if i=0 then .slice (some ⟨bb,off,none⟩) len cap else if i=1 then .int .i64 ((m:Int)+1) else .int .i64 s)):=HR1.out
   have HG2:=hid (grown_drewN HG1.out nq)
   clear d0 d1 d2 g1 g2 hcx HR1 HG1
   generalize W1.drewN nq=W2 at *
   have hrem:=rem_range (s*31+x+7) 2147483648 (by omega) (by omega)
   go_wp2
   go_region
   have hs2:0≤(s*31+x+7) % 2147483648∧(s*31+x+7) % 2147483648<2147483648:=⟨Int.emod_nonneg _ (by omega),Int.emod_lt_of_pos _ (by omega)⟩
   generalize (s*31+x+7) % 2147483648=s2 at *
   have HR3:Hid ((W2.setCell ⟨b,2,none⟩ (.int .i64 s2)).drew.rowIs b 109 3 (fun i=>if i=0 then .slice (some ⟨bb,off,none⟩) len cap else if i=1 then .int .i64 ((m:Int)+1) else .int .i64 s2)):=row_set2 HR2.out _
   have HG3:Hid (w.grownBy (W2.setCell ⟨b,2,none⟩ (.int .i64 s2)).drew (some b)):=grown_drewN (grown_set HG2.out) 1
   have e3':(W2.setCell ⟨b,2,none⟩ (.int .i64 s2)).drew.cell? ⟨bb,off+m,none⟩=some (.int .u8 x):=far (w:=W2) (b:=b) (grown_drewN (grown_set (grown_refl _ _)) 1) hne e3
   clear e0 e1 e2 e3 e4 HR2 HG2
   generalize (W2.setCell ⟨b,2,none⟩ (.int .i64 s2)).drew=W3 at *
   obtain ⟨e0,e1,e2,_,_⟩:=row_facts HR3.out
   go_wp2
   go_quiet (fail)
   go_wp2
   go_ret
   refine ⟨x,rfl,by omega,by omega,⟨hlong,⟨(m:Int)+1,s2,by omega,by omega,hs2.1,hs2.2,HR3.out⟩,fun i hi=>?_⟩,grown_drewN HG3.out _⟩
   obtain ⟨bb',off',e,hne',x',hx',hc'⟩:=HBy.out i hi
   exact ⟨bb',off',e,hne',x',hx',far (grown_drewN HG3.out _) hne' hc'⟩
 have HRest:Hid (∀ i,i<len→∃ bb off,a=some ⟨bb,off,none⟩∧bb<b∧∃ x:Nat,x<256∧W1.cell? ⟨bb,off+i,none⟩=some (.int .u8 x)):=fun i hi=>by
  obtain ⟨bb',off',e,hne',x',hx',hc'⟩:=HBy.out i hi
  exact ⟨bb',off',e,hne',x',hx',far HG1.out hne' hc'⟩
 go_quiet (fail)
 have e1:(W1.drewN nq).cell? ⟨b,1,none⟩=some (.int .i64 ((m:Int)+1)):=d1
 have e2:(W1.drewN nq).cell? ⟨b,2,none⟩=some (.int .i64 s):=d2
 have e4:(W1.drewN nq).frozen? ⟨b,2,none⟩=false:=g2
 have HR2:Hid ((W1.drewN nq).rowIs b 109 3 (fun i=>if i=0 then .slice a len cap else if i=1 then .int .i64 ((m:Int)+1) else .int .i64 s)):=HR1.out
 have HG2:=hid (grown_drewN HG1.out nq)
 have HRest2:Hid (∀ i,i<len→∃ bb off,a=some ⟨bb,off,none⟩∧bb<b∧∃ x:Nat,x<256∧(W1.drewN nq).cell? ⟨bb,off+i,none⟩=some (.int .u8 x)):=HRest.out
 clear d0 d1 d2 g1 g2 HR1 HG1 HBy HRest
 generalize W1.drewN nq=W2 at *
 by_cases h3:3000<(m:Int)+1
 · go_wp2
   go_ret
   exact ⟨0,rfl,by omega,by omega,⟨hlong,⟨(m:Int)+1,s,by omega,by omega,p3,p4,HR2.out⟩,HRest2.out⟩,HG2.out⟩
 have hs2:0≤(s*1103515245+12345) % 2147483648∧(s*1103515245+12345) % 2147483648<2147483648:=⟨Int.emod_nonneg _ (by omega),Int.emod_lt_of_pos _ (by omega)⟩
 have HR3:=hid (row_set2 HR2.out (.int .i64 ((s*1103515245+12345) % 2147483648)))
 obtain ⟨_,_,t2,_,_⟩:=row_facts HR3.out
 have HS2:=hid hs2
 clear hs2
 go_wp2
 go_ret
 refine ⟨_,rfl,Int.emod_nonneg _ (by omega),Int.emod_lt_of_pos _ (by omega),⟨hlong,⟨(m:Int)+1,_,by omega,by omega,HS2.out.1,HS2.out.2,HR3.out⟩,fun i hi=>?_⟩,grown_set HG2.out⟩
 obtain ⟨bb',off',e,hne',x',hx',hc'⟩:=HRest2.out i hi
 exact ⟨bb',off',e,hne',x',hx',far (grown_set (grown_refl _ _)) hne' hc'⟩
set_option maxHeartbeats 800000 in
theorem next_src (b:Nat) (a:Option Addr) (len cap k:Nat) (n:Int) (w:World) (h:Src w b a len cap k) (hk:k≤1048576) (hn:1≤n) (hn':n≤256) :
  Calls Tryz.prog 43 #[.pointer (some ⟨b,0,none⟩),.int .i64 n] w fun e w'=>∃ r:Int,e=.returned (.int .i64 r)∧0≤r∧r<n∧Src w' b a len cap (k+1)∧w.grownBy w' (some b):=by
 have HS:=hid h
 clear h
 by_cases h1n:n=1
 · subst h1n
   go_enter Tryz.func43,Tryz.ntmps43
   go_wp2
   go_ret
   exact ⟨0,rfl,by omega,by omega,HS.out.mono (by omega),grown_refl _ _⟩
 have hgt:1<n:=by omega
 go_enter Tryz.func43,Tryz.ntmps43
 go_wp2_with fail
 refine (byte_src b a len cap k _ HS.out hk).mono ?_
 rintro e w1 ⟨r,rfl,h0,h1,hs1,hg1⟩
 have HS1:=hid hs1
 have HG1:=hid hg1
 clear hs1 hg1
 have hr:=rem_range r n h0 (by omega)
 have HRm:=hid hr
 clear hr
 go_wp2
 go_ret
 exact ⟨r % n,rfl,Int.emod_nonneg _ (by omega),Int.emod_lt_of_pos _ (by omega),HS1.out,HG1.out⟩
set_option maxHeartbeats 800000 in
theorem chance_src (b:Nat) (a:Option Addr) (len cap k:Nat) (n:Int) (w:World) (h:Src w b a len cap k) (hk:k≤1048576) (hn:1<n) (hn':n≤256) :
  Calls Tryz.prog 45 #[.pointer (some ⟨b,0,none⟩),.int .i64 n] w fun e w'=>∃ t:Bool,e=.returned (.bool t)∧Src w' b a len cap (k+1)∧w.grownBy w' (some b):=by
 have HS:=hid h
 clear h
 go_enter Tryz.func45,Tryz.ntmps45
 go_wp2_with fail
 refine (next_src b a len cap k n _ HS.out hk (by omega) hn').mono ?_
 rintro e w1 ⟨r,rfl,h0,h1,hs1,hg1⟩
 have HS1:=hid hs1
 have HG1:=hid hg1
 clear hs1 hg1
 go_wp2
 go_ret
 exact ⟨_,rfl,HS1.out,HG1.out⟩
set_option maxHeartbeats 800000 in
theorem source_spec (a:Option Addr) (len cap:Nat) (w:World) (hb:Bytes w a len) (hl:len≤1048576) :
  Calls Tryz.prog 16 #[.slice a len cap] w fun e w'=>∃ b,e=.returned (.pointer (some ⟨b,0,none⟩))∧b=w.heap.size∧b<w'.heap.size∧Src w' b a len cap 0∧Below w.heap.size w w' := by
 have HB:=hid hb
 clear hb
 go_enter Tryz.func16,Tryz.ntmps16
 go_wp2
 go_ret
 refine ⟨w.heap.size,rfl,rfl,by simp,⟨hl,⟨0,(len:Int) % 1000,by omega,by omega,Int.emod_nonneg _ (by omega),?_,?_⟩,fun i hi=>?_⟩,Bl⟩
 · have:=Int.emod_lt_of_pos (len:Int) (show (0:Int)<1000 by omega)
   omega
 · exact World.rowIs_alloc w #[.slice a len cap, .int .i64 0, .int .i64 ((len : Int) % 1000)] _ _ (fun i hi => by
    have h3:i<3:=hi
    rcases (show i=0∨i=1∨i=2 by omega) with rfl|rfl|rfl <;> rfl)
 obtain ⟨bb,off,e,x,hx,hc⟩:=HB.out i hi
 exact ⟨bb,off,e,World.block_lt_of_cell? _ _ hc,x,hx,keep Bl hc⟩
end Go.Proofs.YtcnoemjeijjnjaaGreat.source
