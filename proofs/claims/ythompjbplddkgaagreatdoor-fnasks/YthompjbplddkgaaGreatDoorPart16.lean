import Derived.Test.YthompjbplddkgaaGreatDoorPart15
import Derived.OwnWalk
import Derived.WalkSpells
import Derived.Maps.AppendAt
import Derived.Sort.Row
import Derived.Laws.ResultCell
set_option linter.unusedVariables false
namespace Go.Proofs.YthompjbplddkgaaGreatDoor.rowsOwn
open Go.RowKit Go.Deep Go.Sort base copy
def OwnInts (B : Nat) (w : World) (v : Value) (zs : List Int) : Prop := w.ownsRow B 3 1 v zs.length (zs.map (Value.int .i64))
theorem OwnInts.form {B:Nat} {w:World} {v:Value} {zs:List Int} (h:OwnInts B w v zs):∃ a cap,v=.slice a zs.length cap∧IntRow w a zs.length zs:=by
 obtain ⟨h1,h2⟩:=h
 rcases h2 with ⟨rfl,hn⟩|⟨g,cap,cur,rfl,hb,hh,hn,hm,hs,ht⟩
 · exact ⟨none,0,by rw [hn],⟨rfl,by rw [hn];exact Nat.zero_le _,fun i hi=>by omega⟩⟩
 · refine ⟨some ⟨g,0,none⟩,cap,rfl,⟨rfl,Nat.le_trans hn hm,fun i hi=>⟨g,0,rfl,?_⟩⟩⟩
   have h3:cur[i]? = some (.int .i64 (zs[i]?.getD 0)):=by
    have:(cur.toList.take (zs.length*1))[i]? = (zs.map (Value.int .i64))[i]?:=by rw [ht]
    rw [List.getElem?_take,if_pos (by omega)] at this
    rw [← Array.getElem?_toList,this,List.getElem?_map,List.getElem?_eq_getElem hi]
    rfl
   simp [World.cell?,hh,h3]
theorem OwnInts.below {B:Nat} {W w1:World} {v:Value} {zs:List Int} (h:OwnInts B W v zs) (hb:Below W.heap.size W w1):OwnInts B w1 v zs:=by
 obtain ⟨h1,h2⟩:=h
 refine ⟨h1,?_⟩
 rcases h2 with h2|⟨g,cap,cur,e,hg,hh,hn,hm,hs,ht⟩
 · exact .inl h2
 · exact .inr ⟨g,cap,cur,e,hg,by rw [hb.block g (Array.getElem?_eq_some_iff.1 hh).1];exact hh,hn,hm,hs,ht⟩
theorem OwnInts.mono {B B':Nat} {w:World} {v:Value} {zs:List Int} (h:OwnInts B w v zs) (hb:B'≤B):OwnInts B' w v zs:=by
 obtain ⟨h1,h2⟩:=h
 refine ⟨h1,?_⟩
 rcases h2 with h2|⟨g,cap,cur,e,hg,hh,hn,hm,hs,ht⟩
 · exact .inl h2
 · exact .inr ⟨g,cap,cur,e,Nat.le_trans hb hg,hh,hn,hm,hs,ht⟩
theorem own_pass {B n:Nat} {w w1:World} {v:Value} {t:TypeId} {s:Nat} {xs:List Value} (h:w.ownsRow B t s v n xs) (hb:Below w.heap.size w w1):w1.ownsRow B t s v n xs:=by
 obtain ⟨h1,h2⟩:=h
 refine ⟨h1,?_⟩
 rcases h2 with h2|⟨g,cap,cur,e,hg,hh,hn,hm,hs,ht⟩
 · exact .inl h2
 · exact .inr ⟨g,cap,cur,e,hg,by rw [hb.block g (Array.getElem?_eq_some_iff.1 hh).1];exact hh,hn,hm,hs,ht⟩
theorem own_holds {B g n cap:Nat} {w:World} {zs:List Int} (h:OwnInts B w (.slice (some ⟨g,0,none⟩) n cap) zs):zs.length=n∧∀ j,j<n→w.cell? ⟨g,0+j,none⟩=some (.int .i64 (zs[j]?.getD 0))∧w.frozen? ⟨g,0+j,none⟩=false:=by
 obtain ⟨a,c,e,hr⟩:=h.form
 simp only [Value.slice.injEq] at e
 obtain ⟨rfl,hl,_⟩:=e
 refine ⟨hl.symm,fun j hj=>?_⟩
 obtain ⟨b,o,e2,hc⟩:=hr.cell j (by omega)
 cases e2
 refine ⟨hc,?_⟩
 rcases h.2 with ⟨e,_⟩|⟨g',cap',cur,e,hg,hh,_⟩
 · cases e
 · cases e
   simp [World.frozen?,hh]
structure OwnRows (B : Nat) (w : World) (v : Value) (ps : List (Value × List Int)) : Prop where
 outer:w.ownsRow B 25 1 v ps.length (ps.map Prod.fst)
 inner:∀ p∈ps,OwnInts B w p.1 p.2
theorem OwnRows.below {B:Nat} {w w1:World} {v:Value} {ps:List (Value × List Int)} (h:OwnRows B w v ps) (hb:RowKit.Below w.heap.size w w1):OwnRows B w1 v ps :=
 ⟨own_pass h.outer hb,fun p hp=>(h.inner p hp).below hb⟩
theorem OwnRows.apart {B g n c:Nat} {w:World} {ps:List (Value × List Int)} (h:OwnRows B w (.slice (some ⟨g,0,none⟩) n c) ps) {p:Value × List Int} (hp:OwnInts B w p.1 p.2) {k:Nat} (hk:p.1.ownBlock=some k):k≠g:=by
 intro e
 subst e
 rcases h.outer.2 with ⟨e,_⟩|⟨g',cap,cur,e,_,hh,_⟩
 · cases e
 · cases e
   rcases hp.2 with ⟨e,_⟩|⟨g',cap,cur',e,_,hh',_⟩
   · rw [e] at hk;cases hk
   · rw [e] at hk
     have hk':some g' = some k:=hk
     injection hk' with hk'
     subst hk'
     rw [hh] at hh'
     injection hh' with hh'
     injection hh' with _ ht
     exact absurd ht (by decide)
theorem own_grown {B:Nat} {w w1:World} {v:Value} {zs:List Int} {row:Option Nat} (h:OwnInts B w v zs) (hg:w.grownBy w1 row) (hne:∀ g,v.ownBlock=some g→some g≠row):OwnInts B w1 v zs:=by
 obtain ⟨h1,h2⟩:=h
 refine ⟨h1,?_⟩
 rcases h2 with h2|⟨g,cap,cur,rfl,hgB,hh,hn,hm,hs,ht⟩
 · exact .inl h2
 · exact .inr ⟨g,cap,cur,rfl,hgB,by rw [hg.block g (Array.getElem?_eq_some_iff.1 hh).1 (hne g rfl)];exact hh,hn,hm,hs,ht⟩
theorem grown_refl (w:World) (row:Option Nat):w.grownBy w row:=⟨rfl,rfl,rfl,Nat.le_refl _,fun _ _ _=>rfl⟩
theorem grown_set {w w1:World} {g k:Nat} {v:Value} (h:w.grownBy w1 (some g)):w.grownBy (w1.setCell ⟨g,k,none⟩ v) (some g):=by
 rw [setCell_eq]
 refine ⟨h.os,h.tape,h.output,?_,fun j hj hne=>?_⟩
 · show _≤(w1.heap.modify g _).size
   rw [Array.size_modify];exact h.size
 · show (w1.heap.modify g _)[j]? = _
   rw [Array.getElem?_modify,if_neg (fun e=>hne (by rw [e]))]
   exact h.block j hj hne
theorem rows_cell {B g n c j:Nat} {w:World} {cs:List (Value × List Int)} (h:OwnRows B w (.slice (some ⟨g,0,none⟩) n c) cs) (hj:j<n):cs.length=n∧∃ p,cs[j]? = some p∧w.cell? ⟨g,j,none⟩=some p.1∧w.frozen? ⟨g,j,none⟩=false∧OwnInts B w p.1 p.2:=by
 have hl:cs.length=n:=by
  rcases h.outer.2 with ⟨e,_⟩|⟨g',c',cur,e,_⟩
  · cases e
  · injection e with _ e _;exact e.symm
 have hjc:j<cs.length:=by omega
 refine ⟨hl,cs[j],List.getElem?_eq_getElem hjc,?_⟩
 rcases h.outer.2 with ⟨e,_⟩|⟨g',cap,cur,e,_,hh,_,_,hs,ht⟩
 · cases e
 · have eg:g=g' := by injection e with e;injection e with e;injection e
   subst eg
   have h3:cur[j]? = some cs[j].1:=by
    have:(cur.toList.take (cs.length*1))[j]? = (cs.map Prod.fst)[j]?:=by rw [ht]
    rw [List.getElem?_take,if_pos (by omega)] at this
    rw [← Array.getElem?_toList,this,List.getElem?_map,List.getElem?_eq_getElem hjc]
    rfl
   exact ⟨by simp [World.cell?,hh,h3],by simp [World.frozen?,hh],h.inner _ (List.getElem_mem hjc)⟩
theorem own_mono {B B' n:Nat} {t:TypeId} {w:World} {v:Value} {xs:List Value} (h:w.ownsRow B t 1 v n xs) (hb:B'≤B):w.ownsRow B' t 1 v n xs:=by
 obtain ⟨h1,h2⟩:=h
 refine ⟨h1,?_⟩
 rcases h2 with h2|⟨g,cap,cur,e,hg,hh,hn,hm,hs,ht⟩
 · exact .inl h2
 · exact .inr ⟨g,cap,cur,e,Nat.le_trans hb hg,hh,hn,hm,hs,ht⟩
theorem rows_mono {B B':Nat} {w:World} {v:Value} {ps:List (Value × List Int)} (h:OwnRows B w v ps) (hb:B'≤B):OwnRows B' w v ps:=⟨own_mono h.outer hb,fun p hp=>(h.inner p hp).mono hb⟩
theorem info_row : (Tryz.prog.info? 25).map (fun i=>(i.zero,i.size,i.bytes))=some (some (.slice none 0 0),1,24):=by kernel_rfl
def OnlyIn (w w' : World) (vs : List Value) : Prop := w.heap.size≤w'.heap.size∧∀ g,g<w.heap.size→(∀ v∈vs,v.ownBlock≠some g)→w'.heap[g]? = w.heap[g]?
theorem OnlyIn.after {w w1 w2:World} {vs:List Value} (hb:Below w.heap.size w w1) (h:OnlyIn w1 w2 vs):OnlyIn w w2 vs :=
 ⟨Nat.le_trans hb.size h.1,fun g hlt hne=>by rw [h.2 g (Nat.lt_of_lt_of_le hlt hb.size) hne];exact hb.block g hlt⟩
end Go.Proofs.YthompjbplddkgaaGreatDoor.rowsOwn
namespace Go.Proofs.YthompjbplddkgaaGreatDoor.prodSem
open Go base netSem
def prod (A : Nat→List Int) : Nat→List (List Int)
 | 0=>[[]]
 | k+1=>(prod A k).flatMap fun c=>(A k).map fun v=>c ++ [v]
theorem prod_len {A : Nat→List Int} : ∀ {k : Nat} {c : List Int},c∈prod A k→c.length=k
 | 0,c,h=>by simp [prod] at h;rw [h];rfl
 | k+1,c,h=>by
  simp only [prod,List.mem_flatMap,List.mem_map] at h
  obtain ⟨c',hc',v,_,rfl⟩:=h
  simp [prod_len hc']
theorem prod_in {A : Nat→List Int} : ∀ {k : Nat} {c : List Int},c∈prod A k→∀ i,i<k→zAt c i∈A i
 | 0,c,h,i,hi=>absurd hi (Nat.not_lt_zero _)
 | k+1,c,h,i,hi=>by
  simp only [prod,List.mem_flatMap,List.mem_map] at h
  obtain ⟨c',hc',v,hv,rfl⟩:=h
  have hl:=prod_len hc'
  unfold zAt
  by_cases e:i=k
  · subst e
    rw [List.getElem?_append_right (by omega),hl,Nat.sub_self]
    exact hv
  · rw [List.getElem?_append_left (by omega)]
    exact prod_in hc' i (by omega)
theorem prod_size {A:Nat→List Int} {M:Nat}:∀ k,(∀ i,i<k→(A i).length≤M)→(prod A k).length≤M ^ k
 | 0,_=>by simp [prod]
 | k+1,h=>by
  have ih:=prod_size k (fun i hi=>h i (by omega))
  have hk:=h k (by omega)
  simp only [prod]
  have key:∀ l:List (List Int),(l.flatMap fun c=>(A k).map fun v=>c ++ [v]).length=l.length*(A k).length:=by
   intro l
   induction l with
   | nil=>simp
   | cons c l ihl=>rw [List.flatMap_cons,List.length_append,ihl,List.length_map,List.length_cons,Nat.add_mul,Nat.one_mul,Nat.add_comm]
  rw [key,Nat.pow_succ]
  exact Nat.mul_le_mul ih hk
end Go.Proofs.YthompjbplddkgaaGreatDoor.prodSem
