import Derived.Test.YthompjbplddkgaaGreatDoorFaultSpec
import Derived.Deep.RegionHeld3
set_option linter.unusedVariables false
namespace Go.Proofs.YthompjbplddkgaaGreatDoor.verSpec
open Go.RowKit Go.Deep Go base copy netSem netSpec routeRow nbSem candSem rowsOwn envsSpec downsSpec rtsRow rRows verSem verHold faultSpec drawn
def IsVer (w' : World) (B : Nat) (ST : List Bool→List Int→List (List Rt)) (DL : List (List Bool)) (EL : List (List Int)) (fa : List Rt→Int) (v : Value) : Prop :=
 ((∀ t∈trips ST DL EL,decide (0≤fa t.2.2)=false)∧v=.agg #[.bool true,.int .i64 ((trips ST DL EL).length:Int),.slice none 0 0,.slice none 0 0,.slice none 0 0,.int .i64 0]) ∨
 ∃ pre d e s rest dv ev vv,trips ST DL EL=pre ++ (d,e,s)::rest∧(∀ t∈pre,decide (0≤fa t.2.2)=false)∧decide (0≤fa s)=true ∧
  v=.agg #[.bool false,.int .i64 ((pre.length:Int)+1),dv,ev,vv,.int .i64 (fa s)]∧OwnBools B w' dv d∧OwnInts B w' ev e∧OwnInts B w' vv (s.map (·.via))
structure Look (w2 wr : World) (V : Nat) (fa : List Rt→Int) (pre : List (List Bool × List Int × List Rt)) : Prop where
 good:∀ t∈pre,decide (0≤fa t.2.2)=false
 grown:w2.grownBy wr (some V)
 block:wr.heap[V]? = some (.cells #[.bool true,.int .i64 (pre.length:Int),.slice none 0 0,.slice none 0 0,.slice none 0 0,.int .i64 0] 38 (0,0))
theorem g_cell {w w':World} {b:Nat} (hg:w.grownBy w' (some b)) (q o:Nat) (v:Value) (hq:q≠b) (hc:w.cell? ⟨q,o,none⟩=some v):w'.cell? ⟨q,o,none⟩=some v :=
 (World.cell?_of_block (a:=⟨q,o,none⟩) (hg.block q (World.block_lt_of_cell? _ _ hc) (fun e=>hq (by injection e)))).trans hc
theorem g_trans {w w1 w2:World} {row:Option Nat} (h:w.grownBy w1 row) (h':w1.grownBy w2 row):w.grownBy w2 row :=
 ⟨h'.os.trans h.os,h'.tape.trans h.tape,h'.output.trans h.output,Nat.le_trans h.size h'.size,fun j hj hne=>(h'.block j (Nat.lt_of_lt_of_le hj h.size) hne).trans (h.block j hj hne)⟩
theorem g_of {w w':World} (hb:Below w.heap.size w w') (row:Option Nat):w.grownBy w' row:=⟨hb.os,hb.tape,hb.output,hb.size,fun j hj _=>hb.block j hj⟩
theorem g_below {w w':World} {b B:Nat} (hg:w.grownBy w' (some b)) (hb:B≤b) (hz:B≤w.heap.size):Below B w w' :=
 ⟨hg.os,hg.tape,hg.output,hg.size,fun j hj=>hg.block j (by omega) (by intro e;injection e with e;omega)⟩
theorem set_block {W:World} {B j:Nat} {t:TypeId} {cs:Array Value} {v:Value} (h:W.heap[B]? = some (.cells cs t (0,0))):(W.setCell ⟨B,j,none⟩ v).heap[B]? = some (.cells (cs.setIfInBounds j v) t (0,0)):=by
 obtain ⟨hlt,hk⟩:=Array.getElem?_eq_some_iff.1 h
 show (W.heap.modify B _)[B]? = _
 rw [Array.getElem?_eq_getElem (by rw [Array.size_modify];exact hlt),Array.getElem_modify_self,hk]
 rfl
theorem six_own {w:World} {base n s b:Nat} {e:TypeId} {v v0 v1 v2 v3 v4 v5:Value} {xs:List Value} (h:w.ownsRow base e s v n xs) (hb:b<base):((((((w.setCell ⟨b,0,none⟩ v0).setCell ⟨b,1,none⟩ v1).setCell ⟨b,2,none⟩ v2).setCell ⟨b,3,none⟩ v3).setCell ⟨b,4,none⟩ v4).setCell ⟨b,5,none⟩ v5).ownsRow base e s v n xs :=
 ownsRow_setCell_below (ownsRow_setCell_below (ownsRow_setCell_below (ownsRow_setCell_below (ownsRow_setCell_below (ownsRow_setCell_below h hb _) hb _) hb _) hb _) hb _) hb _
theorem six_below {w w':World} {B b:Nat} {v0 v1 v2 v3 v4 v5:Value} (h:Below B w w') (hb:B≤b):Below B w ((((((w'.setCell ⟨b,0,none⟩ v0).setCell ⟨b,1,none⟩ v1).setCell ⟨b,2,none⟩ v2).setCell ⟨b,3,none⟩ v3).setCell ⟨b,4,none⟩ v4).setCell ⟨b,5,none⟩ v5) :=
 (((((h.setCell hb _).setCell hb _).setCell hb _).setCell hb _).setCell hb _).setCell hb _
theorem Look.below {w2 wr w':World} {V:Nat} {fa:List Rt→Int} {pre:List (List Bool × List Int × List Rt)} (h:Look w2 wr V fa pre) (hb:Below wr.heap.size wr w'):Look w2 w' V fa pre :=
 ⟨h.good,g_trans h.grown (g_of hb _),by rw [hb.block V (Array.getElem?_eq_some_iff.1 h.block).1];exact h.block⟩
theorem flat_len {A X:Type} (f:A→List X) (M:Nat) (h:∀ a,(f a).length≤M):∀ l:List A,(l.flatMap f).length≤l.length*M
 | []=>by simp
 | a::l=>by
  have h1:=h a
  have h2:=flat_len f M h l
  rw [List.flatMap_cons,List.length_append,List.length_cons,Nat.add_mul]
  omega
theorem trips_len {X Y Z:Type} (ST:X→Y→List Z) (M:Nat) (h:∀ d e,(ST d e).length≤M) (ds:List X) (es:List Y):(trips ST ds es).length≤ds.length*(es.length*M) :=
 flat_len _ _ (fun d=>flat_len _ _ (fun e=>by rw [List.length_map];exact h d e) es) ds
set_option maxRecDepth 100000 in
set_option maxHeartbeats 6400000 in
theorem ver_spec (p:Nat→Option Addr) (l c:Nat→Nat) (kind pp way:Int) (fr k:Nat) (DL:List (List Bool)) (EL:List (List Int)) (ST:List Bool→List Int→List (List Rt)) (fa:List Rt→Int) (w:World)
  (hD:∀ W,Calls Tryz.prog 48 #[.int .i64 (l 1:Int),.int .i64 (k:Int)] W fun e w'=>∃ v ps,e=.returned v∧OwnRB W.heap.size w' v ps∧ps.map (·.2)=DL∧Below W.heap.size W w')
  (hE:∀ W,Calls Tryz.prog 49 #[.int .i64 (l 3:Int)] W fun e w'=>∃ v ps,e=.returned v∧OwnRows W.heap.size w' v ps∧HasB ps∧ps.map (·.2)=EL∧Below W.heap.size W w')
  (hS:∀ W ea ec da dc env ds,ds∈DL→env∈EL→Below w.heap.size w W→IntRow W ea (l 3) env→BoolRow W da (l 1) ds→Calls Tryz.prog 50 #[netV p l c,.slice ea (l 3) ec,.slice da (l 1) dc] W fun e' w'=>∃ v ps,e' = .returned v∧OwnRR W.heap.size w' v ps∧ps.map Prod.snd=ST ds env∧Below W.heap.size W w')
  (hF:∀ W a rc ds env st,ds∈DL→env∈EL→st∈ST ds env→Below w.heap.size w W→RtRow W a (l 0) (rF st)→Calls Tryz.prog 51 #[netV p l c,.agg #[.int .i64 kind,.int .i64 fr,.int .i64 pp,.int .i64 way],.slice a (l 0) rc] W fun e' w'=>e' = .returned (.int .i64 (fa st))∧Below W.heap.size W w')
  (hV:∀ W a rc st,st.length=l 0→RtRow W a (l 0) (rF st)→Calls Tryz.prog 52 #[.slice a (l 0) rc] W fun e' w'=>∃ v,e' = .returned v∧OwnInts W.heap.size w' v (st.map (·.via))∧Below W.heap.size W w')
  (hDl:∀ d∈DL,d.length=l 1) (hEl:∀ e∈EL,e.length=l 3) (hSl:∀ d e,∀ s∈ST d e,s.length=l 0) (hDn:DL.length≤300) (hEn:EL.length≤100) (hSn:∀ d e,(ST d e).length≤3000) :
  Calls Tryz.prog 22 #[netV p l c,.agg #[.int .i64 kind,.int .i64 fr,.int .i64 pp,.int .i64 way],.int .i64 (k:Int)] w fun e w'=>∃ v,e=.returned v∧IsVer w' w.heap.size ST DL EL fa v∧Below w.heap.size w w' := by
 have HTn:Hid ((trips ST DL EL).length≤90000000):=hid (by
  have h1:=trips_len ST 3000 hSn DL EL
  have h2:DL.length*(EL.length*3000)≤300*(100*3000):=Nat.mul_le_mul hDn (Nat.mul_le_mul hEn (Nat.le_refl _))
  omega)
 have HDl:=hid hDl
 have HEl:=hid hEl
 have HSl:=hid hSl
 have HSn:=hid hSn
 have HS:=hid hS
 have HF:=hid hF
 have HV:=hid hV
 clear hS hF hV hDl hEl hSl hSn
 unfold netV at HS HF ⊢
 have hB0:Below w.heap.size w ((((w.alloc (.cells #[.slice (p 0) (l 0) (c 0),.slice (p 1) (l 1) (c 1),.slice (p 2) (l 2) (c 2),.slice (p 3) (l 3) (c 3),.slice (p 4) (l 4) (c 4),.slice (p 5) (l 5) (c 5)] 29)).alloc (.cells #[.int .i64 kind,.int .i64 fr,.int .i64 pp,.int .i64 way] 33)).alloc (.cells #[.bool false,.int .i64 0,.slice none 0 0,.slice none 0 0,.slice none 0 0,.int .i64 0] 38)).alloc (.cells #[.bool true,.int .i64 0,.slice none 0 0,.slice none 0 0,.slice none 0 0,.int .i64 0] 38)):=Bl
 have hz0:((((w.alloc (.cells #[.slice (p 0) (l 0) (c 0),.slice (p 1) (l 1) (c 1),.slice (p 2) (l 2) (c 2),.slice (p 3) (l 3) (c 3),.slice (p 4) (l 4) (c 4),.slice (p 5) (l 5) (c 5)] 29)).alloc (.cells #[.int .i64 kind,.int .i64 fr,.int .i64 pp,.int .i64 way] 33)).alloc (.cells #[.bool false,.int .i64 0,.slice none 0 0,.slice none 0 0,.slice none 0 0,.int .i64 0] 38)).alloc (.cells #[.bool true,.int .i64 0,.slice none 0 0,.slice none 0 0,.slice none 0 0,.int .i64 0] 38)).heap.size=w.heap.size+4:=by simp
 have hC0:(((((w.alloc (.cells #[.slice (p 0) (l 0) (c 0),.slice (p 1) (l 1) (c 1),.slice (p 2) (l 2) (c 2),.slice (p 3) (l 3) (c 3),.slice (p 4) (l 4) (c 4),.slice (p 5) (l 5) (c 5)] 29)).alloc (.cells #[.int .i64 kind,.int .i64 fr,.int .i64 pp,.int .i64 way] 33)).alloc (.cells #[.bool false,.int .i64 0,.slice none 0 0,.slice none 0 0,.slice none 0 0,.int .i64 0] 38)).alloc (.cells #[.bool true,.int .i64 0,.slice none 0 0,.slice none 0 0,.slice none 0 0,.int .i64 0] 38)).cell? ⟨w.heap.size,0,none⟩=some (.slice (p 0) (l 0) (c 0))∧((((w.alloc (.cells #[.slice (p 0) (l 0) (c 0),.slice (p 1) (l 1) (c 1),.slice (p 2) (l 2) (c 2),.slice (p 3) (l 3) (c 3),.slice (p 4) (l 4) (c 4),.slice (p 5) (l 5) (c 5)] 29)).alloc (.cells #[.int .i64 kind,.int .i64 fr,.int .i64 pp,.int .i64 way] 33)).alloc (.cells #[.bool false,.int .i64 0,.slice none 0 0,.slice none 0 0,.slice none 0 0,.int .i64 0] 38)).alloc (.cells #[.bool true,.int .i64 0,.slice none 0 0,.slice none 0 0,.slice none 0 0,.int .i64 0] 38)).cell? ⟨w.heap.size,1,none⟩=some (.slice (p 1) (l 1) (c 1))∧((((w.alloc (.cells #[.slice (p 0) (l 0) (c 0),.slice (p 1) (l 1) (c 1),.slice (p 2) (l 2) (c 2),.slice (p 3) (l 3) (c 3),.slice (p 4) (l 4) (c 4),.slice (p 5) (l 5) (c 5)] 29)).alloc (.cells #[.int .i64 kind,.int .i64 fr,.int .i64 pp,.int .i64 way] 33)).alloc (.cells #[.bool false,.int .i64 0,.slice none 0 0,.slice none 0 0,.slice none 0 0,.int .i64 0] 38)).alloc (.cells #[.bool true,.int .i64 0,.slice none 0 0,.slice none 0 0,.slice none 0 0,.int .i64 0] 38)).cell? ⟨w.heap.size,2,none⟩=some (.slice (p 2) (l 2) (c 2))∧((((w.alloc (.cells #[.slice (p 0) (l 0) (c 0),.slice (p 1) (l 1) (c 1),.slice (p 2) (l 2) (c 2),.slice (p 3) (l 3) (c 3),.slice (p 4) (l 4) (c 4),.slice (p 5) (l 5) (c 5)] 29)).alloc (.cells #[.int .i64 kind,.int .i64 fr,.int .i64 pp,.int .i64 way] 33)).alloc (.cells #[.bool false,.int .i64 0,.slice none 0 0,.slice none 0 0,.slice none 0 0,.int .i64 0] 38)).alloc (.cells #[.bool true,.int .i64 0,.slice none 0 0,.slice none 0 0,.slice none 0 0,.int .i64 0] 38)).cell? ⟨w.heap.size,3,none⟩=some (.slice (p 3) (l 3) (c 3))∧((((w.alloc (.cells #[.slice (p 0) (l 0) (c 0),.slice (p 1) (l 1) (c 1),.slice (p 2) (l 2) (c 2),.slice (p 3) (l 3) (c 3),.slice (p 4) (l 4) (c 4),.slice (p 5) (l 5) (c 5)] 29)).alloc (.cells #[.int .i64 kind,.int .i64 fr,.int .i64 pp,.int .i64 way] 33)).alloc (.cells #[.bool false,.int .i64 0,.slice none 0 0,.slice none 0 0,.slice none 0 0,.int .i64 0] 38)).alloc (.cells #[.bool true,.int .i64 0,.slice none 0 0,.slice none 0 0,.slice none 0 0,.int .i64 0] 38)).cell? ⟨w.heap.size,4,none⟩=some (.slice (p 4) (l 4) (c 4))∧((((w.alloc (.cells #[.slice (p 0) (l 0) (c 0),.slice (p 1) (l 1) (c 1),.slice (p 2) (l 2) (c 2),.slice (p 3) (l 3) (c 3),.slice (p 4) (l 4) (c 4),.slice (p 5) (l 5) (c 5)] 29)).alloc (.cells #[.int .i64 kind,.int .i64 fr,.int .i64 pp,.int .i64 way] 33)).alloc (.cells #[.bool false,.int .i64 0,.slice none 0 0,.slice none 0 0,.slice none 0 0,.int .i64 0] 38)).alloc (.cells #[.bool true,.int .i64 0,.slice none 0 0,.slice none 0 0,.slice none 0 0,.int .i64 0] 38)).cell? ⟨w.heap.size,5,none⟩=some (.slice (p 5) (l 5) (c 5)))∧(((((w.alloc (.cells #[.slice (p 0) (l 0) (c 0),.slice (p 1) (l 1) (c 1),.slice (p 2) (l 2) (c 2),.slice (p 3) (l 3) (c 3),.slice (p 4) (l 4) (c 4),.slice (p 5) (l 5) (c 5)] 29)).alloc (.cells #[.int .i64 kind,.int .i64 fr,.int .i64 pp,.int .i64 way] 33)).alloc (.cells #[.bool false,.int .i64 0,.slice none 0 0,.slice none 0 0,.slice none 0 0,.int .i64 0] 38)).alloc (.cells #[.bool true,.int .i64 0,.slice none 0 0,.slice none 0 0,.slice none 0 0,.int .i64 0] 38)).cell? ⟨w.heap.size+1,0,none⟩=some (.int .i64 kind)∧((((w.alloc (.cells #[.slice (p 0) (l 0) (c 0),.slice (p 1) (l 1) (c 1),.slice (p 2) (l 2) (c 2),.slice (p 3) (l 3) (c 3),.slice (p 4) (l 4) (c 4),.slice (p 5) (l 5) (c 5)] 29)).alloc (.cells #[.int .i64 kind,.int .i64 fr,.int .i64 pp,.int .i64 way] 33)).alloc (.cells #[.bool false,.int .i64 0,.slice none 0 0,.slice none 0 0,.slice none 0 0,.int .i64 0] 38)).alloc (.cells #[.bool true,.int .i64 0,.slice none 0 0,.slice none 0 0,.slice none 0 0,.int .i64 0] 38)).cell? ⟨w.heap.size+1,1,none⟩=some (.int .i64 fr)∧((((w.alloc (.cells #[.slice (p 0) (l 0) (c 0),.slice (p 1) (l 1) (c 1),.slice (p 2) (l 2) (c 2),.slice (p 3) (l 3) (c 3),.slice (p 4) (l 4) (c 4),.slice (p 5) (l 5) (c 5)] 29)).alloc (.cells #[.int .i64 kind,.int .i64 fr,.int .i64 pp,.int .i64 way] 33)).alloc (.cells #[.bool false,.int .i64 0,.slice none 0 0,.slice none 0 0,.slice none 0 0,.int .i64 0] 38)).alloc (.cells #[.bool true,.int .i64 0,.slice none 0 0,.slice none 0 0,.slice none 0 0,.int .i64 0] 38)).cell? ⟨w.heap.size+1,2,none⟩=some (.int .i64 pp)∧((((w.alloc (.cells #[.slice (p 0) (l 0) (c 0),.slice (p 1) (l 1) (c 1),.slice (p 2) (l 2) (c 2),.slice (p 3) (l 3) (c 3),.slice (p 4) (l 4) (c 4),.slice (p 5) (l 5) (c 5)] 29)).alloc (.cells #[.int .i64 kind,.int .i64 fr,.int .i64 pp,.int .i64 way] 33)).alloc (.cells #[.bool false,.int .i64 0,.slice none 0 0,.slice none 0 0,.slice none 0 0,.int .i64 0] 38)).alloc (.cells #[.bool true,.int .i64 0,.slice none 0 0,.slice none 0 0,.slice none 0 0,.int .i64 0] 38)).cell? ⟨w.heap.size+1,3,none⟩=some (.int .i64 way)):=⟨⟨by simp [go_sem],by simp [go_sem],by simp [go_sem],by simp [go_sem],by simp [go_sem],by simp [go_sem]⟩,by simp [go_sem],by simp [go_sem],by simp [go_sem],by simp [go_sem]⟩
 have hR0:((((w.alloc (.cells #[.slice (p 0) (l 0) (c 0),.slice (p 1) (l 1) (c 1),.slice (p 2) (l 2) (c 2),.slice (p 3) (l 3) (c 3),.slice (p 4) (l 4) (c 4),.slice (p 5) (l 5) (c 5)] 29)).alloc (.cells #[.int .i64 kind,.int .i64 fr,.int .i64 pp,.int .i64 way] 33)).alloc (.cells #[.bool false,.int .i64 0,.slice none 0 0,.slice none 0 0,.slice none 0 0,.int .i64 0] 38)).alloc (.cells #[.bool true,.int .i64 0,.slice none 0 0,.slice none 0 0,.slice none 0 0,.int .i64 0] 38)).heap[w.heap.size+2]? = some (.cells #[.bool false,.int .i64 0,.slice none 0 0,.slice none 0 0,.slice none 0 0,.int .i64 0] 38 (0,0)):=by
  have h:=heap_alloc_new ((w.alloc (.cells #[.slice (p 0) (l 0) (c 0),.slice (p 1) (l 1) (c 1),.slice (p 2) (l 2) (c 2),.slice (p 3) (l 3) (c 3),.slice (p 4) (l 4) (c 4),.slice (p 5) (l 5) (c 5)] 29)).alloc (.cells #[.int .i64 kind,.int .i64 fr,.int .i64 pp,.int .i64 way] 33)) (.cells #[.bool false,.int .i64 0,.slice none 0 0,.slice none 0 0,.slice none 0 0,.int .i64 0] 38)
  rw [show ((w.alloc (.cells #[.slice (p 0) (l 0) (c 0),.slice (p 1) (l 1) (c 1),.slice (p 2) (l 2) (c 2),.slice (p 3) (l 3) (c 3),.slice (p 4) (l 4) (c 4),.slice (p 5) (l 5) (c 5)] 29)).alloc (.cells #[.int .i64 kind,.int .i64 fr,.int .i64 pp,.int .i64 way] 33)).heap.size=w.heap.size+2 by simp] at h
  exact (Below.heap_alloc _ _ _ (by simp)).trans h
 have hV0:((((w.alloc (.cells #[.slice (p 0) (l 0) (c 0),.slice (p 1) (l 1) (c 1),.slice (p 2) (l 2) (c 2),.slice (p 3) (l 3) (c 3),.slice (p 4) (l 4) (c 4),.slice (p 5) (l 5) (c 5)] 29)).alloc (.cells #[.int .i64 kind,.int .i64 fr,.int .i64 pp,.int .i64 way] 33)).alloc (.cells #[.bool false,.int .i64 0,.slice none 0 0,.slice none 0 0,.slice none 0 0,.int .i64 0] 38)).alloc (.cells #[.bool true,.int .i64 0,.slice none 0 0,.slice none 0 0,.slice none 0 0,.int .i64 0] 38)).heap[w.heap.size+3]? = some (.cells #[.bool true,.int .i64 0,.slice none 0 0,.slice none 0 0,.slice none 0 0,.int .i64 0] 38 (0,0)):=by
  have h:=heap_alloc_new (((w.alloc (.cells #[.slice (p 0) (l 0) (c 0),.slice (p 1) (l 1) (c 1),.slice (p 2) (l 2) (c 2),.slice (p 3) (l 3) (c 3),.slice (p 4) (l 4) (c 4),.slice (p 5) (l 5) (c 5)] 29)).alloc (.cells #[.int .i64 kind,.int .i64 fr,.int .i64 pp,.int .i64 way] 33)).alloc (.cells #[.bool false,.int .i64 0,.slice none 0 0,.slice none 0 0,.slice none 0 0,.int .i64 0] 38)) (.cells #[.bool true,.int .i64 0,.slice none 0 0,.slice none 0 0,.slice none 0 0,.int .i64 0] 38)
  rw [show (((w.alloc (.cells #[.slice (p 0) (l 0) (c 0),.slice (p 1) (l 1) (c 1),.slice (p 2) (l 2) (c 2),.slice (p 3) (l 3) (c 3),.slice (p 4) (l 4) (c 4),.slice (p 5) (l 5) (c 5)] 29)).alloc (.cells #[.int .i64 kind,.int .i64 fr,.int .i64 pp,.int .i64 way] 33)).alloc (.cells #[.bool false,.int .i64 0,.slice none 0 0,.slice none 0 0,.slice none 0 0,.int .i64 0] 38)).heap.size=w.heap.size+3 by simp] at h
  exact h
 have HB0:=hid hB0
 have HZ0:=hid hz0
 have HC0:=hid hC0
 have HR0:=hid hR0
 have HV0:=hid hV0
 clear hB0 hz0 hC0 hR0 hV0
 go_enter Tryz.func22,Tryz.ntmps22
 go_wp2_with fail
 generalize ((((w.alloc (.cells #[.slice (p 0) (l 0) (c 0),.slice (p 1) (l 1) (c 1),.slice (p 2) (l 2) (c 2),.slice (p 3) (l 3) (c 3),.slice (p 4) (l 4) (c 4),.slice (p 5) (l 5) (c 5)] 29)).alloc (.cells #[.int .i64 kind,.int .i64 fr,.int .i64 pp,.int .i64 way] 33)).alloc (.cells #[.bool false,.int .i64 0,.slice none 0 0,.slice none 0 0,.slice none 0 0,.int .i64 0] 38)).alloc (.cells #[.bool true,.int .i64 0,.slice none 0 0,.slice none 0 0,.slice none 0 0,.int .i64 0] 38))=Wb at *
 refine (hD Wb).mono ?_
 rintro e1 w1 ⟨vD,psD,rfl,hoD,hpD,hbD⟩
 rw [HZ0.out] at hoD
 have hc1:(w1.cell? ⟨w.heap.size,0,none⟩=some (.slice (p 0) (l 0) (c 0))∧w1.cell? ⟨w.heap.size,1,none⟩=some (.slice (p 1) (l 1) (c 1))∧w1.cell? ⟨w.heap.size,2,none⟩=some (.slice (p 2) (l 2) (c 2))∧w1.cell? ⟨w.heap.size,3,none⟩=some (.slice (p 3) (l 3) (c 3))∧w1.cell? ⟨w.heap.size,4,none⟩=some (.slice (p 4) (l 4) (c 4))∧w1.cell? ⟨w.heap.size,5,none⟩=some (.slice (p 5) (l 5) (c 5))):=⟨keep hbD HC0.out.1.1,keep hbD HC0.out.1.2.1,keep hbD HC0.out.1.2.2.1,keep hbD HC0.out.1.2.2.2.1,keep hbD HC0.out.1.2.2.2.2.1,keep hbD HC0.out.1.2.2.2.2.2⟩
 obtain ⟨m0,m1,m2,m3,m4,m5⟩:=hc1
 have HBD:=hid hbD
 have HOD:=hid hoD
 have HPD:=hid hpD
 clear hbD hoD hpD
 go_wp2_with fail
 refine (hE w1).mono ?_
 rintro e2 w2 ⟨vE,psE,rfl,hoE,hsE,hpE,hbE⟩
 have HBE:=hid hbE
 have HOE:=hid (rows_mono hoE (by have h1:=HBD.out.size;rw [HZ0.out] at h1;exact h1))
 have HHB:=hid hsE
 have HPE:=hid hpE
 have HOD2:=hid (HOD.out.below hbE)
 have HB2:Hid (Below Wb.heap.size Wb w2):=hid (HBD.out.trans (hbE.mono HBD.out.size))
 clear hoE hsE hpE hbE m0 m1 m2 m3 m4 m5 hD hE HOD HBD HBE
 obtain ⟨da,dc,hvD⟩:=rb_form HOD2.out
 subst hvD
 obtain ⟨ea,ec,hvE⟩:=own_form HOE.out
 subst hvE
 have hDp:psD.length=DL.length:=by rw [← HPD.out,List.length_map]
 have hEp:psE.length=EL.length:=by rw [← HPE.out,List.length_map]
 have hDm:psD.length≤300:=by omega
 have hEm:psE.length≤100:=by omega
 have HDp:=hid hDp
 have HEp:=hid hEp
 clear hDp hEp hDn hEn
 have HK:Hid (∀ wr:World,w2.grownBy wr (some (w.heap.size+3))→(wr.cell? ⟨w.heap.size,0,none⟩=some (.slice (p 0) (l 0) (c 0))∧wr.cell? ⟨w.heap.size,1,none⟩=some (.slice (p 1) (l 1) (c 1))∧wr.cell? ⟨w.heap.size,2,none⟩=some (.slice (p 2) (l 2) (c 2))∧wr.cell? ⟨w.heap.size,3,none⟩=some (.slice (p 3) (l 3) (c 3))∧wr.cell? ⟨w.heap.size,4,none⟩=some (.slice (p 4) (l 4) (c 4))∧wr.cell? ⟨w.heap.size,5,none⟩=some (.slice (p 5) (l 5) (c 5)))∧(wr.cell? ⟨w.heap.size+1,0,none⟩=some (.int .i64 kind)∧wr.cell? ⟨w.heap.size+1,1,none⟩=some (.int .i64 fr)∧wr.cell? ⟨w.heap.size+1,2,none⟩=some (.int .i64 pp)∧wr.cell? ⟨w.heap.size+1,3,none⟩=some (.int .i64 way))∧wr.heap[w.heap.size+2]? = some (.cells #[.bool false,.int .i64 0,.slice none 0 0,.slice none 0 0,.slice none 0 0,.int .i64 0] 38 (0,0))∧OwnRB (w.heap.size+4) wr (.slice da psD.length dc) psD∧OwnRows (w.heap.size+4) wr (.slice ea psE.length ec) psE∧Below w.heap.size w wr):=hid (fun wr hg=>by
  have hz2:=HB2.out.size
  rw [HZ0.out] at hz2
  have hc:∀ b o v,b<w.heap.size+3→Wb.cell? ⟨b,o,none⟩=some v→wr.cell? ⟨b,o,none⟩=some v:=fun b o v hb hv=>g_cell hg _ _ _ (by omega) (keep HB2.out hv)
  refine ⟨⟨?_,?_,?_,?_,?_,?_⟩,⟨?_,?_,?_,?_⟩,?_,rb_kept HOD2.out hg (by omega),ri_kept HOE.out hg (by omega),?_⟩
  · exact hc _ _ _ (by omega) HC0.out.1.1
  · exact hc _ _ _ (by omega) HC0.out.1.2.1
  · exact hc _ _ _ (by omega) HC0.out.1.2.2.1
  · exact hc _ _ _ (by omega) HC0.out.1.2.2.2.1
  · exact hc _ _ _ (by omega) HC0.out.1.2.2.2.2.1
  · exact hc _ _ _ (by omega) HC0.out.1.2.2.2.2.2
  · exact hc _ _ _ (by omega) HC0.out.2.1
  · exact hc _ _ _ (by omega) HC0.out.2.2.1
  · exact hc _ _ _ (by omega) HC0.out.2.2.2.1
  · exact hc _ _ _ (by omega) HC0.out.2.2.2.2
  · rw [hg.block _ (by omega) (by intro e;injection e with e;omega),HB2.out.block _ (by rw [HZ0.out];omega)]
    exact HR0.out
  · exact HB0.out.trans ((HB2.out.mono (by rw [HZ0.out];omega)).trans (g_below hg (by omega) (by omega))))
 have HL0:Hid (Look w2 w2 (w.heap.size+3) fa []):=hid ⟨fun t ht=>by simp at ht,rowsOwn.grown_refl _ _,by rw [HB2.out.block _ (by rw [HZ0.out];omega)];exact HV0.out⟩
 clear HB0 HZ0 HC0 HR0 HV0 HB2 HOD2 HOE
 go_wp2_with fail
 go_loopw [10] (fun i wr=>∃ m:Nat,m≤psD.length∧i=.int .i64 m∧Look w2 wr (w.heap.size+3) fa (trips ST (DL.take m) EL)) (fun i _=>psD.length - (intOf i).toNat)
 case atStart=>exact ⟨0,Nat.zero_le _,rfl,HL0.out⟩
 case round =>
  obtain ⟨m,hm,rfl,hL⟩:=hrel
  generalize wr=wo at *
  have HL:=hid hL
  clear hL
  by_cases hlt:m<psD.length
  · obtain ⟨qd,hqd⟩:∃ q,psD[m]? = some q:=⟨_,List.getElem?_eq_getElem hlt⟩
    have HDm:Hid (DL[m]? = some qd.2):=hid (by rw [← HPD.out,List.getElem?_map,hqd];rfl)
    have HQd:=hid hqd
    clear hqd
    go_wp2_with fail
    go_loopw [11] (fun i wr=>∃ q:Nat,q≤psE.length∧i=.int .i64 q∧Look w2 wr (w.heap.size+3) fa (trips ST (DL.take m) EL ++ rowT ST qd.2 (EL.take q))) (fun i _=>psE.length - (intOf i).toNat)
    case atStart=>exact ⟨0,Nat.zero_le _,rfl,by simpa [rowT] using HL.out⟩
    case round =>
     clear HL
     obtain ⟨q,hq,rfl,hL⟩:=hrel
     generalize wr=wp at *
     have HL:=hid hL
     clear hL
     by_cases hlq:q<psE.length
     · obtain ⟨qe,hqe⟩:∃ x,psE[q]? = some x:=⟨_,List.getElem?_eq_getElem hlq⟩
       have HEm:Hid (EL[q]? = some qe.2):=hid (by rw [← HPE.out,List.getElem?_map,hqe];rfl)
       have HQe:=hid hqe
       clear hqe
       obtain ⟨hkn,hkp,hkr,hkd,hke,hkb⟩:=HK.out wp HL.out.grown
       have HKd:=hid hkd
       have HKe:=hid hke
       have HKb:=hid hkb
       obtain ⟨n0,n1,n2,n3,n4,n5⟩:=hkn
       obtain ⟨dg,hda,hdB,cd⟩:=row_cell (j:=m) (x:=qd.1) hkd.outer (by rw [List.length_map]) (by rw [List.getElem?_map,HQd.out];rfl)
       obtain ⟨eg,hea,heB,ce⟩:=row_cell (j:=q) (x:=qe.1) hke.outer (by rw [List.length_map]) (by rw [List.getElem?_map,HQe.out];rfl)
       subst hda
       subst hea
       obtain ⟨xd,yd,hxd,hrd⟩:=bools_row (hkd.inner qd (List.mem_of_getElem? HQd.out))
       obtain ⟨xe,ye,hxe,hre⟩:=(hke.inner qe (List.mem_of_getElem? HQe.out)).form
       have HMd:=hid (List.mem_of_getElem? HDm.out)
       have HMe:=hid (List.mem_of_getElem? HEm.out)
       rw [HDl.out _ HMd.out] at hxd hrd
       rw [HEl.out _ HMe.out] at hxe hre
       rw [hxd] at cd
       rw [hxe] at ce
       have HXd:=hid hxd
       have HXe:=hid hxe
       have HRd:=hid hrd
       have HRe:=hid hre
       clear hkp hkr hkd hke hkb hxd hxe hrd hre
       have hm3:(m:Int)<(psD.length:Int):=by omega
       have hq3:(q:Int)<(psE.length:Int):=by omega
       go_wp2_with fail
       have K9:Hid (∀ w8:World,Below wp.heap.size wp w8→w8.cell? ⟨w.heap.size,0,none⟩=some (.slice (p 0) (l 0) (c 0))∧w8.cell? ⟨w.heap.size,1,none⟩=some (.slice (p 1) (l 1) (c 1))∧w8.cell? ⟨w.heap.size,2,none⟩=some (.slice (p 2) (l 2) (c 2))∧w8.cell? ⟨w.heap.size,3,none⟩=some (.slice (p 3) (l 3) (c 3))∧w8.cell? ⟨w.heap.size,4,none⟩=some (.slice (p 4) (l 4) (c 4))∧w8.cell? ⟨w.heap.size,5,none⟩=some (.slice (p 5) (l 5) (c 5))∧w8.cell? ⟨eg,q,none⟩=some (.slice xe (l 3) ye)∧w8.cell? ⟨dg,m,none⟩=some (.slice xd (l 1) yd)∧Below wp.heap.size wp w8):=hid (fun w8 hb=>⟨keep hb n0,keep hb n1,keep hb n2,keep hb n3,keep hb n4,keep hb n5,keep hb ce,keep hb cd,hb⟩)
       go_region_held3 (fun w8=>w8.cell? ⟨w.heap.size,0,none⟩=some (.slice (p 0) (l 0) (c 0))∧w8.cell? ⟨w.heap.size,1,none⟩=some (.slice (p 1) (l 1) (c 1))∧w8.cell? ⟨w.heap.size,2,none⟩=some (.slice (p 2) (l 2) (c 2))∧w8.cell? ⟨w.heap.size,3,none⟩=some (.slice (p 3) (l 3) (c 3))∧w8.cell? ⟨w.heap.size,4,none⟩=some (.slice (p 4) (l 4) (c 4))∧w8.cell? ⟨w.heap.size,5,none⟩=some (.slice (p 5) (l 5) (c 5))∧w8.cell? ⟨eg,q,none⟩=some (.slice xe (l 3) ye)∧w8.cell? ⟨dg,m,none⟩=some (.slice xd (l 1) yd)∧Below wp.heap.size wp w8)
        (refine K9.out _ (by first|assumption|exact (Below.refl _ wp).drew|exact hb6'))
        (first|(go_at_call 50;refine (HS.out _ _ _ _ _ _ _ HMd.out HMe.out HKb.out.drew (HRe.out.below (Below.refl _ wp).drew) (HRd.out.below (Below.refl _ wp).drew)).mono ?_;rintro e' w6 ⟨v6,ps6,rfl,ho6,hp6,hb6⟩;have hb6':Below wp.heap.size wp w6:=((Below.refl _ wp).drew).trans hb6;have HO6:=hid ho6;have HP6:=hid hp6;clear hb6 ho6 hp6))
       all_goals
        have HB6:=hid hb6'
        have HL6:=hid (HL.out.below hb6')
        obtain ⟨sa,sc,hv6⟩:=HO6.out.form
        subst hv6
        have hs6:=hb6'.size
        have hz6:w.heap.size+4≤wp.heap.size:=by
         have h1:=HL.out.grown.size
         have h2:=World.ownsRow.lt HKd.out.outer dg rfl
         omega
        have hS6:ps6.length≤3000:=by
         have h1:ps6.length=(ST qd.2 qe.2).length:=by rw [← HP6.out,List.length_map]
         have h2:=HSn.out qd.2 qe.2
         omega
        clear hb6' n0 n1 n2 n3 n4 n5 cd ce K9 HKd HKe HKb HRd HRe
        go_wp2_with fail
        go_loopw [13] (fun i wr=>∃ t:Nat,t≤ps6.length∧i=.int .i64 t∧w6.grownBy wr (some (w.heap.size+3))∧Look w2 wr (w.heap.size+3) fa (trips ST (DL.take m) EL ++ rowT ST qd.2 (EL.take q) ++ ((ST qd.2 qe.2).take t).map fun s=>(qd.2,qe.2,s))) (fun i _=>ps6.length - (intOf i).toNat)
        case atStart=>exact ⟨0,Nat.zero_le _,rfl,rowsOwn.grown_refl _ _,by simpa using HL6.out⟩
        case round =>
         clear HL6
         obtain ⟨t,ht,rfl,hg6,hL⟩:=hrel
         generalize wr=ws at *
         have HL:=hid hL
         have HG6:=hid hg6
         clear hL hg6
         by_cases hlt6:t<ps6.length
         · obtain ⟨q6,hq6⟩:∃ x,ps6[t]? = some x:=⟨_,List.getElem?_eq_getElem hlt6⟩
           have HSm:Hid ((ST qd.2 qe.2)[t]? = some q6.2):=hid (by rw [← HP6.out,List.getElem?_map,hq6];rfl)
           have HQ6:=hid hq6
           clear hq6
           obtain ⟨pre,hpre⟩:∃ pre,trips ST (DL.take m) EL ++ rowT ST qd.2 (EL.take q) ++ ((ST qd.2 qe.2).take t).map (fun s=>(qd.2,qe.2,s))=pre:=⟨_,rfl⟩
           have HPre:=hid hpre
           rw [hpre] at HL
           have HAt:Hid (∃ rest,trips ST DL EL=pre ++ (qd.2,qe.2,q6.2)::rest):=hid (by rw [← hpre];exact trips_at ST HDm.out HEm.out HSm.out)
           clear hpre
           have hpl:pre.length≤90000000:=by
            obtain ⟨rest,hr⟩:=HAt.out
            have h1:=HTn.out
            rw [hr,List.length_append] at h1
            omega
           have hvb:=HL.out.block
           have cv:ws.cell? ⟨w.heap.size+3,1,none⟩=some (.int .i64 (pre.length:Int)):=by simp [World.cell?,hvb]
           have zv:ws.frozen? ⟨w.heap.size+3,1,none⟩=false:=by simp [World.frozen?,hvb]
           have HVb:=hid hvb
           clear hvb
           go_wp2_with fail
           obtain ⟨W7,hW7⟩:∃ W7,ws.setCell ⟨w.heap.size+1+1+1,1,none⟩ (.int .i64 ((pre.length:Int)+1))=W7:=⟨_,rfl⟩
           have HG7:Hid (w2.grownBy W7 (some (w.heap.size+3))):=hid (by rw [← hW7];exact rowsOwn.grown_set HL.out.grown)
           have HR7:Hid (OwnRR (w.heap.size+4) W7 (.slice sa ps6.length sc) ps6):=hid (rr_kept (HO6.out.mono hz6) (by rw [← hW7];exact rowsOwn.grown_set HG6.out) (by omega))
           have HG67:Hid (w6.grownBy W7 (some (w.heap.size+3))):=hid (by rw [← hW7];exact rowsOwn.grown_set HG6.out)
           have HV7:Hid (W7.heap[w.heap.size+3]? = some (.cells #[.bool true,.int .i64 ((pre.length:Int)+1),.slice none 0 0,.slice none 0 0,.slice none 0 0,.int .i64 0] 38 (0,0))):=hid (by
            rw [← hW7]
            exact set_block HVb.out)
           rw [hW7]
           clear hW7 cv zv HVb
           obtain ⟨hkn,hkp,hkr,hkd,hke,hkb⟩:=HK.out W7 HG7.out
           have HKr:=hid hkr
           have HKd:=hid hkd
           have HKe:=hid hke
           have HKb:=hid hkb
           obtain ⟨n0,n1,n2,n3,n4,n5⟩:=hkn
           obtain ⟨k0,k1,k2,k3⟩:=hkp
           obtain ⟨sg,hsa,hsB,cs⟩:=row_cell (j:=t) (x:=rvR q6) HR7.out.outer (by rw [List.length_map]) (by rw [List.getElem?_map,HQ6.out];rfl)
           subst hsa
           have HMs:=hid (List.mem_of_getElem? HSm.out)
           have HLs:=hid (HSl.out _ _ _ HMs.out)
           have hri:=HR7.out.inner q6 (List.mem_of_getElem? HQ6.out)
           unfold rvR at hri cs
           rw [HLs.out] at hri cs
           have HRi:=hid (rts_row hri)
           have HMd:=hid (List.mem_of_getElem? HDm.out)
           have HMe:=hid (List.mem_of_getElem? HEm.out)
           clear hkr hkd hke hkb hri
           have ht3:(t:Int)<(ps6.length:Int):=by omega
           have K7:Hid (∀ w8:World,Below W7.heap.size W7 w8→w8.cell? ⟨w.heap.size,0,none⟩=some (.slice (p 0) (l 0) (c 0))∧w8.cell? ⟨w.heap.size,1,none⟩=some (.slice (p 1) (l 1) (c 1))∧w8.cell? ⟨w.heap.size,2,none⟩=some (.slice (p 2) (l 2) (c 2))∧w8.cell? ⟨w.heap.size,3,none⟩=some (.slice (p 3) (l 3) (c 3))∧w8.cell? ⟨w.heap.size,4,none⟩=some (.slice (p 4) (l 4) (c 4))∧w8.cell? ⟨w.heap.size,5,none⟩=some (.slice (p 5) (l 5) (c 5))∧w8.cell? ⟨w.heap.size+1,0,none⟩=some (.int .i64 kind)∧w8.cell? ⟨w.heap.size+1,1,none⟩=some (.int .i64 fr)∧w8.cell? ⟨w.heap.size+1,2,none⟩=some (.int .i64 pp)∧w8.cell? ⟨w.heap.size+1,3,none⟩=some (.int .i64 way)∧w8.cell? ⟨sg,t,none⟩=some (.slice (some ⟨q6.1.1,0,none⟩) (l 0) q6.1.2)∧Below W7.heap.size W7 w8):=hid (fun w8 hb=>⟨keep hb n0,keep hb n1,keep hb n2,keep hb n3,keep hb n4,keep hb n5,keep hb k0,keep hb k1,keep hb k2,keep hb k3,keep hb cs,hb⟩)
           obtain ⟨F,hF⟩:∃ F,fa q6.2=F:=⟨_,rfl⟩
           have HFq:=hid hF
           clear hF
           go_region_held3 (fun w8=>w8.cell? ⟨w.heap.size,0,none⟩=some (.slice (p 0) (l 0) (c 0))∧w8.cell? ⟨w.heap.size,1,none⟩=some (.slice (p 1) (l 1) (c 1))∧w8.cell? ⟨w.heap.size,2,none⟩=some (.slice (p 2) (l 2) (c 2))∧w8.cell? ⟨w.heap.size,3,none⟩=some (.slice (p 3) (l 3) (c 3))∧w8.cell? ⟨w.heap.size,4,none⟩=some (.slice (p 4) (l 4) (c 4))∧w8.cell? ⟨w.heap.size,5,none⟩=some (.slice (p 5) (l 5) (c 5))∧w8.cell? ⟨w.heap.size+1,0,none⟩=some (.int .i64 kind)∧w8.cell? ⟨w.heap.size+1,1,none⟩=some (.int .i64 fr)∧w8.cell? ⟨w.heap.size+1,2,none⟩=some (.int .i64 pp)∧w8.cell? ⟨w.heap.size+1,3,none⟩=some (.int .i64 way)∧w8.cell? ⟨sg,t,none⟩=some (.slice (some ⟨q6.1.1,0,none⟩) (l 0) q6.1.2)∧Below W7.heap.size W7 w8)
            (refine K7.out _ (by first|assumption|exact (Below.refl _ W7).drew|exact hb8'))
            (first|(go_at_call 51;refine (HF.out _ _ _ _ _ _ HMd.out HMe.out HMs.out HKb.out.drew (HRi.out.below (Below.refl _ W7).drew)).mono ?_;rintro e' W8 ⟨rfl,hb8⟩;have hb8':Below W7.heap.size W7 W8:=((Below.refl _ W7).drew).trans hb8;clear hb8;rw [HFq.out]))
           all_goals
            have HCs:=hid cs
            clear n0 n1 n2 n3 n4 n5 k0 k1 k2 k3 cs K7
            have HB8:=hid hb8'
            clear hb8'
            by_cases hF0:0≤F
            · have hFd:decide (0≤F)=true:=decide_eq_true hF0
              obtain ⟨-,-,hkr,hkd,hke,hkb⟩:=HK.out W8 (g_trans HG7.out (g_of HB8.out _))
              have HR8:=hid (HR7.out.below HB8.out)
              have HV8:Hid (W8.heap[w.heap.size+3]? = some (.cells #[.bool true,.int .i64 ((pre.length:Int)+1),.slice none 0 0,.slice none 0 0,.slice none 0 0,.int .i64 0] 38 (0,0))):=hid ((HB8.out.block _ (Array.getElem?_eq_some_iff.1 HV7.out).1).trans HV7.out)
              have HKr8:=hid hkr
              have HKd8:=hid hkd
              have HKe8:=hid hke
              have HKb8:=hid hkb
              have CV:Hid (W8.cell? ⟨w.heap.size+1+1+1,1,none⟩=some (.int .i64 ((pre.length:Int)+1))):=hid (by simp [World.cell?,HV8.out])
              have CD:Hid (W8.cell? ⟨dg,m,none⟩=some (.slice xd (l 1) yd)):=hid (by
               obtain ⟨g9,e9,-,c9⟩:=row_cell (j:=m) (x:=qd.1) hkd.outer (by rw [List.length_map]) (by rw [List.getElem?_map,HQd.out];rfl)
               injection e9 with e9
               injection e9 with e9
               subst e9
               rw [HXd.out] at c9
               exact c9)
              have CE:Hid (W8.cell? ⟨eg,q,none⟩=some (.slice xe (l 3) ye)):=hid (by
               obtain ⟨g9,e9,-,c9⟩:=row_cell (j:=q) (x:=qe.1) hke.outer (by rw [List.length_map]) (by rw [List.getElem?_map,HQe.out];rfl)
               injection e9 with e9
               injection e9 with e9
               subst e9
               rw [HXe.out] at c9
               exact c9)
              have CS:Hid (W8.cell? ⟨sg,t,none⟩=some (.slice (some ⟨q6.1.1,0,none⟩) (l 0) q6.1.2)):=hid (keep HB8.out HCs.out)
              have HRi8:=hid (HRi.out.below HB8.out)
              have hz8:w.heap.size+4≤W8.heap.size:=by
               have h1:=HB8.out.size
               have h2:=HG67.out.size
               omega
              clear hkr hkd hke hkb
              go_wp2_with fail
              refine region_below (fun u=>⟨#[.agg #[.slice (p 0) (l 0) (c 0),.slice (p 1) (l 1) (c 1),.slice (p 2) (l 2) (c 2),.slice (p 3) (l 3) (c 3),.slice (p 4) (l 4) (c 4),.slice (p 5) (l 5) (c 5)],.agg #[.int .i64 kind,.int .i64 ↑fr,.int .i64 pp,.int .i64 way],.int .i64 ↑k,.pointer (some ⟨w.heap.size,0,none⟩),.pointer (some ⟨w.heap.size+1,0,none⟩),undef,.pointer (some ⟨w.heap.size+1+1,0,none⟩),.pointer (some ⟨w.heap.size+1+1+1,0,none⟩),.slice (some ⟨dg,0,none⟩) psD.length dc,.slice (some ⟨eg,0,none⟩) psE.length ec,.int .i64 ↑m,.int .i64 ↑q,.slice (some ⟨sg,0,none⟩) ps6.length sc,.int .i64 ↑t,.int .i64 F,.agg #[.bool true,.int .i64 0,.slice none 0 0,.slice none 0 0,.slice none 0 0,.int .i64 0],.pointer (some ⟨w.heap.size,1,none⟩),.slice (p 1) (l 1) (c 1),.int .i64 ↑(l 1),.int .i64 ↑k,.slice (some ⟨dg,0,none⟩) psD.length dc,.pointer (some ⟨w.heap.size,3,none⟩),.slice (p 3) (l 3) (c 3),.int .i64 ↑(l 3),.slice (some ⟨eg,0,none⟩) psE.length ec,.int .i64 ↑m,.slice (some ⟨dg,0,none⟩) psD.length dc,.int .i64 ↑psD.length,.bool true,u29,u30,.int .i64 ↑q,.slice (some ⟨eg,0,none⟩) psE.length ec,.int .i64 ↑psE.length,.bool true,u35,u36,.agg #[.slice (p 0) (l 0) (c 0),.slice (p 1) (l 1) (c 1),.slice (p 2) (l 2) (c 2),.slice (p 3) (l 3) (c 3),.slice (p 4) (l 4) (c 4),.slice (p 5) (l 5) (c 5)],.slice (some ⟨eg,0,none⟩) psE.length ec,.int .i64 ↑q,.pointer (some ⟨eg,q,none⟩),.slice xe (l 3) ye,.slice (some ⟨dg,0,none⟩) psD.length dc,.int .i64 ↑m,.pointer (some ⟨dg,m,none⟩),.slice xd (l 1) yd,.slice (some ⟨sg,0,none⟩) ps6.length sc,.int .i64 ↑t,.slice (some ⟨sg,0,none⟩) ps6.length sc,.int .i64 ↑ps6.length,.bool true,u51,u52,.pointer (some ⟨w.heap.size+1+1+1,1,none⟩),.int .i64 ↑pre.length,.int .i64 (↑pre.length+1),.pointer (some ⟨w.heap.size+1+1+1,1,none⟩),.agg #[.slice (p 0) (l 0) (c 0),.slice (p 1) (l 1) (c 1),.slice (p 2) (l 2) (c 2),.slice (p 3) (l 3) (c 3),.slice (p 4) (l 4) (c 4),.slice (p 5) (l 5) (c 5)],.agg #[.int .i64 kind,.int .i64 ↑fr,.int .i64 pp,.int .i64 way],.slice (some ⟨sg,0,none⟩) ps6.length sc,.int .i64 ↑t,.pointer (some ⟨sg,t,none⟩),.slice (some ⟨q6.fst.fst,0,none⟩) (l 0) q6.fst.snd,.int .i64 F,.int .i64 F,.bool true,u 66,u 67,u 68,u 69,u 70,u 71,u 72,u 73,u 74,u 75,u 76,u 77,u 78,u 79,u 80,u 81,u 82,undef],[]⟩) (fun i=>[66,67,68,69,70,71,72,73,74,75,76,77,78,79,80,81,82].getD i 0) (fun i v w8=>match i with|0=>v=.pointer (some ⟨w.heap.size+1+1+1,1,none⟩)|1=>v=.int .i64 ((pre.length:Int)+1)|2=>v=.slice (some ⟨dg,0,none⟩) psD.length dc|3=>v=.int .i64 ↑m|4=>v=.pointer (some ⟨dg,m,none⟩)|5=>v=.slice xd (l 1) yd|6=>v=.slice (some ⟨eg,0,none⟩) psE.length ec|7=>v=.int .i64 ↑q|8=>v=.pointer (some ⟨eg,q,none⟩)|9=>v=.slice xe (l 3) ye|10=>v=.slice (some ⟨sg,0,none⟩) ps6.length sc|11=>v=.int .i64 ↑t|12=>v=.pointer (some ⟨sg,t,none⟩)|13=>v=.slice (some ⟨q6.1.1,0,none⟩) (l 0) q6.1.2|14=>∃ x y,v=.slice x (l 0) y∧OwnInts W8.heap.size w8 (.slice x (l 0) y) (q6.2.map (·.via))|15=>v=.int .i64 F|16=>∃ x y,v=.agg #[.bool false,.int .i64 ((pre.length:Int)+1),.slice xd (l 1) yd,.slice xe (l 3) ye,.slice x (l 0) y,.int .i64 F]∧OwnInts W8.heap.size w8 (.slice x (l 0) y) (q6.2.map (·.via))|_=>True) W8 17 (fun k=>match k with|66=>u66|67=>u67|68=>u68|69=>u69|70=>u70|71=>u71|72=>u72|73=>u73|74=>u74|75=>u75|76=>u76|77=>u77|78=>u78|79=>u79|80=>u80|81=>u81|82=>u82|_=>undef) (by rfl) (by kernel_rfl) (by rfl) ⟨by kernel_rfl,by kernel_rfl,by kernel_rfl,by decide⟩ (by kernel_rfl) (Below.refl _ _) ?hput ?hinj ?stable ?step ?last
              case hput =>
               intro i hi u v
               match i,hi with
               | 0,_=>rfl
               | 1,_=>rfl
               | 2,_=>rfl
               | 3,_=>rfl
               | 4,_=>rfl
               | 5,_=>rfl
               | 6,_=>rfl
               | 7,_=>rfl
               | 8,_=>rfl
               | 9,_=>rfl
               | 10,_=>rfl
               | 11,_=>rfl
               | 12,_=>rfl
               | 13,_=>rfl
               | 14,_=>rfl
               | 15,_=>rfl
               | 16,_=>rfl
               | i+17,hi=>exact absurd hi (by omega)
              case hinj =>
               intro i j hi hj h
               exact slots_inj [66,67,68,69,70,71,72,73,74,75,76,77,78,79,80,81,82] (by decide) hi hj h
              case stable =>
               intro i v w8 w9 hb h
               match i,h with
               | 0,h=>exact h
               | 1,h=>exact h
               | 2,h=>exact h
               | 3,h=>exact h
               | 4,h=>exact h
               | 5,h=>exact h
               | 6,h=>exact h
               | 7,h=>exact h
               | 8,h=>exact h
               | 9,h=>exact h
               | 10,h=>exact h
               | 11,h=>exact h
               | 12,h=>exact h
               | 13,h=>exact h
               | 14,h=>obtain ⟨x,y,e,h⟩:=h;exact ⟨x,y,e,own_pass h hb⟩
               | 15,h=>exact h
               | 16,h=>obtain ⟨x,y,e,h⟩:=h;exact ⟨x,y,e,own_pass h hb⟩
               | _+17,h=>trivial
              case step =>
               intro i hi u w8 S8 hdep
               match i,hi with
               | 0,_ =>
                clear hdep
                refine ⟨_,rfl,fun K' hK=>?_⟩
                go_simp
                exact hK.out _ _ (Below.refl _ _) rfl
               | 1,_ =>
                have h0:(u 66)=.pointer (some ⟨w.heap.size+1+1+1,1,none⟩):=hdep 0 (by kernel_rfl)
                clear hdep
                refine ⟨_,rfl,fun K' hK=>?_⟩
                have q9:=keep S8 CV.out
                simp only [h0] at hK ⊢
                go_simp
                exact hK.out _ _ (Below.refl _ _) rfl
               | 2,_ =>
                clear hdep
                refine ⟨_,rfl,fun K' hK=>?_⟩
                go_simp
                exact hK.out _ _ (Below.refl _ _) rfl
               | 3,_ =>
                clear hdep
                refine ⟨_,rfl,fun K' hK=>?_⟩
                go_simp
                exact hK.out _ _ (Below.refl _ _) rfl
               | 4,_ =>
                have h2:(u 68)=.slice (some ⟨dg,0,none⟩) psD.length dc:=hdep 2 (by kernel_rfl)
                have h3:(u 69)=.int .i64 ↑m:=hdep 3 (by kernel_rfl)
                clear hdep
                refine ⟨_,rfl,fun K' hK=>?_⟩
                simp only [h2,h3] at hK ⊢
                go_simp
                exact hK.out _ _ (Below.refl _ _) rfl
               | 5,_ =>
                have h4:(u 70)=.pointer (some ⟨dg,m,none⟩):=hdep 4 (by kernel_rfl)
                clear hdep
                refine ⟨_,rfl,fun K' hK=>?_⟩
                have q9:=keep S8 CD.out
                simp only [h4] at hK ⊢
                go_simp
                exact hK.out _ _ (Below.refl _ _) rfl
               | 6,_ =>
                clear hdep
                refine ⟨_,rfl,fun K' hK=>?_⟩
                go_simp
                exact hK.out _ _ (Below.refl _ _) rfl
               | 7,_ =>
                clear hdep
                refine ⟨_,rfl,fun K' hK=>?_⟩
                go_simp
                exact hK.out _ _ (Below.refl _ _) rfl
               | 8,_ =>
                have h6:(u 72)=.slice (some ⟨eg,0,none⟩) psE.length ec:=hdep 6 (by kernel_rfl)
                have h7:(u 73)=.int .i64 ↑q:=hdep 7 (by kernel_rfl)
                clear hdep
                refine ⟨_,rfl,fun K' hK=>?_⟩
                simp only [h6,h7] at hK ⊢
                go_simp
                exact hK.out _ _ (Below.refl _ _) rfl
               | 9,_ =>
                have h8:(u 74)=.pointer (some ⟨eg,q,none⟩):=hdep 8 (by kernel_rfl)
                clear hdep
                refine ⟨_,rfl,fun K' hK=>?_⟩
                have q9:=keep S8 CE.out
                simp only [h8] at hK ⊢
                go_simp
                exact hK.out _ _ (Below.refl _ _) rfl
               | 10,_ =>
                clear hdep
                refine ⟨_,rfl,fun K' hK=>?_⟩
                go_simp
                exact hK.out _ _ (Below.refl _ _) rfl
               | 11,_ =>
                clear hdep
                refine ⟨_,rfl,fun K' hK=>?_⟩
                go_simp
                exact hK.out _ _ (Below.refl _ _) rfl
               | 12,_ =>
                have h10:(u 76)=.slice (some ⟨sg,0,none⟩) ps6.length sc:=hdep 10 (by kernel_rfl)
                have h11:(u 77)=.int .i64 ↑t:=hdep 11 (by kernel_rfl)
                clear hdep
                refine ⟨_,rfl,fun K' hK=>?_⟩
                simp only [h10,h11] at hK ⊢
                go_simp
                exact hK.out _ _ (Below.refl _ _) rfl
               | 13,_ =>
                have h12:(u 78)=.pointer (some ⟨sg,t,none⟩):=hdep 12 (by kernel_rfl)
                clear hdep
                refine ⟨_,rfl,fun K' hK=>?_⟩
                have q9:=keep S8 CS.out
                simp only [h12] at hK ⊢
                go_simp
                exact hK.out _ _ (Below.refl _ _) rfl
               | 14,_ =>
                have h13:(u 79)=.slice (some ⟨q6.1.1,0,none⟩) (l 0) q6.1.2:=hdep 13 (by kernel_rfl)
                clear hdep
                refine ⟨_,rfl,fun K' hK=>?_⟩
                simp only [h13] at hK ⊢
                go_simp
                refine (HV.out _ _ _ q6.2 HLs.out (HRi8.out.below S8)).mono ?_
                rintro e9 w9 ⟨v9,rfl,ho9,hb9⟩
                obtain ⟨x9,y9,hv9,-⟩:=ho9.form
                have hl9:(q6.2.map (·.via)).length=l 0:=by rw [List.length_map];exact HLs.out
                rw [hl9] at hv9
                subst hv9
                exact hK.out _ _ hb9 ⟨_,_,rfl,own_low ho9 S8.size⟩
               | 15,_ =>
                clear hdep
                refine ⟨_,rfl,fun K' hK=>?_⟩
                go_simp
                exact hK.out _ _ (Below.refl _ _) rfl
               | 16,_ =>
                have h1:(u 67)=.int .i64 ((pre.length:Int)+1):=hdep 1 (by kernel_rfl)
                have h5:(u 71)=.slice xd (l 1) yd:=hdep 5 (by kernel_rfl)
                have h9:(u 75)=.slice xe (l 3) ye:=hdep 9 (by kernel_rfl)
                have h14:∃ x y,(u 80)=.slice x (l 0) y∧OwnInts W8.heap.size w8 (.slice x (l 0) y) (q6.2.map (·.via)):=hdep 14 (by kernel_rfl)
                have h15:(u 81)=.int .i64 F:=hdep 15 (by kernel_rfl)
                clear hdep
                refine ⟨_,rfl,fun K' hK=>?_⟩
                obtain ⟨x9,y9,e14,o14⟩:=h14
                simp only [h1,h5,h9,e14,h15] at hK ⊢
                go_simp
                exact hK.out _ _ (Below.refl _ _) ⟨x9,y9,rfl,o14⟩
               | i+17,hi=>exact absurd hi (by omega)
              case last =>
               intro u w8 S8 hall
               have h16:∃ x y,(u 82)=.agg #[.bool false,.int .i64 ((pre.length:Int)+1),.slice xd (l 1) yd,.slice xe (l 3) ye,.slice x (l 0) y,.int .i64 F]∧OwnInts W8.heap.size w8 (.slice x (l 0) y) (q6.2.map (·.via)):=hall 16 (by decide)
               clear hall
               refine ⟨_,rfl,fun K' hK=>?_⟩
               obtain ⟨x9,y9,e16,o16⟩:=h16
               simp only [e16] at hK ⊢
               have hkr9:=(S8.block _ (Array.getElem?_eq_some_iff.1 HKr8.out).1).trans HKr8.out
               have r0:w8.cell? ⟨w.heap.size+2,0,none⟩=some (.bool false):=by simp [World.cell?,hkr9]
               have zr0:w8.frozen? ⟨w.heap.size+2,0,none⟩=false:=by simp [World.frozen?,hkr9]
               have r1:w8.cell? ⟨w.heap.size+2,1,none⟩=some (.int .i64 0):=by simp [World.cell?,hkr9]
               have zr1:w8.frozen? ⟨w.heap.size+2,1,none⟩=false:=by simp [World.frozen?,hkr9]
               have r2:w8.cell? ⟨w.heap.size+2,2,none⟩=some (.slice none 0 0):=by simp [World.cell?,hkr9]
               have zr2:w8.frozen? ⟨w.heap.size+2,2,none⟩=false:=by simp [World.frozen?,hkr9]
               have r3:w8.cell? ⟨w.heap.size+2,3,none⟩=some (.slice none 0 0):=by simp [World.cell?,hkr9]
               have zr3:w8.frozen? ⟨w.heap.size+2,3,none⟩=false:=by simp [World.frozen?,hkr9]
               have r4:w8.cell? ⟨w.heap.size+2,4,none⟩=some (.slice none 0 0):=by simp [World.cell?,hkr9]
               have zr4:w8.frozen? ⟨w.heap.size+2,4,none⟩=false:=by simp [World.frozen?,hkr9]
               have r5:w8.cell? ⟨w.heap.size+2,5,none⟩=some (.int .i64 0):=by simp [World.cell?,hkr9]
               have zr5:w8.frozen? ⟨w.heap.size+2,5,none⟩=false:=by simp [World.frozen?,hkr9]
               go_simp
               refine hK.out _ _ ?_
               have HS8:=hid S8
               have HO9:=hid o16
               clear S8 hK K' o16 hkr9
               go_wp2_with fail
               obtain ⟨rest,hrest⟩:=HAt.out
               refine bodyPost_ret (v:=.agg #[.bool false,.int .i64 ((pre.length:Int)+1),.slice xd (l 1) yd,.slice xe (l 3) ye,.slice x9 (l 0) y9,.int .i64 F]) (by simp [results,Tryz.results22,go_sem,r0,r1,r2,r3,r4,r5]) rfl ⟨_,rfl,.inr ⟨pre,qd.2,qe.2,q6.2,rest,_,_,_,hrest,HL.out.good,by rw [HFq.out];exact hFd,by rw [HFq.out],?_,?_,?_⟩,?_⟩
               · rw [← HXd.out]
                 exact own_low (six_own (own_pass (HKd8.out.inner qd (List.mem_of_getElem? HQd.out)) HS8.out) (show w.heap.size+1+1<w.heap.size+4 by omega)) (by omega)
               · rw [← HXe.out]
                 exact own_low (six_own (own_pass (HKe8.out.inner qe (List.mem_of_getElem? HQe.out)) HS8.out) (show w.heap.size+1+1<w.heap.size+4 by omega)) (by omega)
               · exact own_low (six_own HO9.out (show w.heap.size+1+1<W8.heap.size by omega)) (by omega)
               · exact six_below (HKb8.out.trans (HS8.out.mono HKb8.out.size)) (by omega)
            · have hFd:decide (0≤F)=false:=decide_eq_false hF0
              have HLn:Hid (Look w2 W8 (w.heap.size+3) fa (pre ++ [(qd.2,qe.2,q6.2)])):=hid (Look.below ⟨fun x hx=>by
               rcases List.mem_append.1 hx with h|h
               · exact HL.out.good x h
               · simp only [List.mem_singleton] at h
                 subst h
                 rw [HFq.out]
                 exact hFd,HG7.out,by rw [HV7.out];simp⟩ HB8.out)
              have HG8:Hid (w6.grownBy W8 (some (w.heap.size+3))):=hid (g_trans HG67.out (g_of HB8.out _))
              have HTk:Hid (trips ST (DL.take m) EL ++ rowT ST qd.2 (EL.take q) ++ ((ST qd.2 qe.2).take (t+1)).map (fun s=>(qd.2,qe.2,s))=pre ++ [(qd.2,qe.2,q6.2)]):=hid (by rw [verSem.take_next HSm.out,List.map_append,← List.append_assoc,HPre.out];rfl)
              go_wp2_with fail
              go_roundw
              case rel=>exact ⟨t+1,hlt6,by go_num,HG8.out,by rw [HTk.out];exact HLn.out⟩
              case measure=>simp [intOf];omega
         · have et:t=ps6.length:=by omega
           subst et
           have HTk:Hid (trips ST (DL.take m) EL ++ rowT ST qd.2 (EL.take (q+1))=trips ST (DL.take m) EL ++ rowT ST qd.2 (EL.take q) ++ ((ST qd.2 qe.2).take ps6.length).map (fun s=>(qd.2,qe.2,s))):=hid (by
            have h1:ps6.length=(ST qd.2 qe.2).length:=by rw [← HP6.out,List.length_map]
            rw [h1,List.take_length,verSem.take_next HEm.out,row_app,row_one,List.append_assoc])
           go_wp2_with fail
           go_roundw
           case rel=>exact ⟨q+1,hlq,by go_num,by rw [HTk.out];exact HL.out⟩
           case measure=>simp [intOf];omega
     · have eq':q=psE.length:=by omega
       subst eq'
       have HTk:Hid (trips ST (DL.take (m+1)) EL=trips ST (DL.take m) EL ++ rowT ST qd.2 (EL.take psE.length)):=hid (by
        rw [HEp.out,List.take_length,verSem.take_next HDm.out,trips_app,trips_one])
       go_wp2_with fail
       go_roundw
       case rel=>exact ⟨m+1,hlt,by go_num,by rw [HTk.out];exact HL.out⟩
       case measure=>simp [intOf];omega
  · have em:m=psD.length:=by omega
    subst em
    have HTk:Hid (trips ST (DL.take psD.length) EL=trips ST DL EL):=hid (by rw [HDp.out,List.take_length])
    rw [HTk.out] at HL
    obtain ⟨-,-,hkr,-,-,hkb⟩:=HK.out wo HL.out.grown
    have HKb:=hid hkb
    have hvb:=HL.out.block
    have v0:wo.cell? ⟨w.heap.size+3,0,none⟩=some (.bool true):=by simp [World.cell?,hvb]
    have zv0:wo.frozen? ⟨w.heap.size+3,0,none⟩=false:=by simp [World.frozen?,hvb]
    have v1:wo.cell? ⟨w.heap.size+3,1,none⟩=some (.int .i64 ((trips ST DL EL).length:Int)):=by simp [World.cell?,hvb]
    have zv1:wo.frozen? ⟨w.heap.size+3,1,none⟩=false:=by simp [World.frozen?,hvb]
    have v2:wo.cell? ⟨w.heap.size+3,2,none⟩=some (.slice none 0 0):=by simp [World.cell?,hvb]
    have zv2:wo.frozen? ⟨w.heap.size+3,2,none⟩=false:=by simp [World.frozen?,hvb]
    have v3:wo.cell? ⟨w.heap.size+3,3,none⟩=some (.slice none 0 0):=by simp [World.cell?,hvb]
    have zv3:wo.frozen? ⟨w.heap.size+3,3,none⟩=false:=by simp [World.frozen?,hvb]
    have v4:wo.cell? ⟨w.heap.size+3,4,none⟩=some (.slice none 0 0):=by simp [World.cell?,hvb]
    have zv4:wo.frozen? ⟨w.heap.size+3,4,none⟩=false:=by simp [World.frozen?,hvb]
    have v5:wo.cell? ⟨w.heap.size+3,5,none⟩=some (.int .i64 0):=by simp [World.cell?,hvb]
    have zv5:wo.frozen? ⟨w.heap.size+3,5,none⟩=false:=by simp [World.frozen?,hvb]
    have r0:wo.cell? ⟨w.heap.size+2,0,none⟩=some (.bool false):=by simp [World.cell?,hkr]
    have zr0:wo.frozen? ⟨w.heap.size+2,0,none⟩=false:=by simp [World.frozen?,hkr]
    have r1:wo.cell? ⟨w.heap.size+2,1,none⟩=some (.int .i64 0):=by simp [World.cell?,hkr]
    have zr1:wo.frozen? ⟨w.heap.size+2,1,none⟩=false:=by simp [World.frozen?,hkr]
    have r2:wo.cell? ⟨w.heap.size+2,2,none⟩=some (.slice none 0 0):=by simp [World.cell?,hkr]
    have zr2:wo.frozen? ⟨w.heap.size+2,2,none⟩=false:=by simp [World.frozen?,hkr]
    have r3:wo.cell? ⟨w.heap.size+2,3,none⟩=some (.slice none 0 0):=by simp [World.cell?,hkr]
    have zr3:wo.frozen? ⟨w.heap.size+2,3,none⟩=false:=by simp [World.frozen?,hkr]
    have r4:wo.cell? ⟨w.heap.size+2,4,none⟩=some (.slice none 0 0):=by simp [World.cell?,hkr]
    have zr4:wo.frozen? ⟨w.heap.size+2,4,none⟩=false:=by simp [World.frozen?,hkr]
    have r5:wo.cell? ⟨w.heap.size+2,5,none⟩=some (.int .i64 0):=by simp [World.cell?,hkr]
    have zr5:wo.frozen? ⟨w.heap.size+2,5,none⟩=false:=by simp [World.frozen?,hkr]
    have HGd:=hid HL.out.good
    clear hkr hvb hkb HL
    obtain ⟨n,hn⟩:∃ n,(trips ST DL EL).length=n:=⟨_,rfl⟩
    rw [hn] at v1
    have HN:=hid hn
    clear hn
    go_wp2_with fail
    refine bodyPost_ret (v:=.agg #[.bool true,.int .i64 (n:Int),.slice none 0 0,.slice none 0 0,.slice none 0 0,.int .i64 0]) (by simp [results,Tryz.results22,go_sem,r0,r1,r2,r3,r4,r5]) rfl ⟨_,rfl,.inl ⟨HGd.out,by rw [HN.out]⟩,?_⟩
    have HS:=hid HKb.out
    exact six_below HS.out (by omega)
end Go.Proofs.YthompjbplddkgaaGreatDoor.verSpec
