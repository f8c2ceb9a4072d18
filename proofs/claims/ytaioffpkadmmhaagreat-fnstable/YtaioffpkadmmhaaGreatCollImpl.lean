import Derived.Test.YtaioffpkadmmhaaGreatStateSeq
import Derived.Test.YtaioffpkadmmhaaGreatRofSpec
import Derived.Maps.AppendAt
namespace Go.Proofs.YtaioffpkadmmhaaGreat.collImpl
open Go.RowKit Go.Deep Go.Shelf Go base copy netSem routeRow nbSem candSem candImp hopSem intsOwn hopMake hopBetween sceneSem sceneBy noRts bestAll stabImpl stabFace prodSem rofSem rofRun rofImpl rofSpec ssSem rangeAt pick picksSeq choImpl stateSeq
set_option linter.unusedVariables false
attribute [local go_sem] Oper.semAt_some
theorem info_rts : (Tryz.prog.info? 40).map (fun i => (i.zero, i.size, i.bytes)) = some (some (.slice none 0 0), 1, 24) := by kernel_rfl
def slV (n : Nat) (y : Nat × List Int) : Value := .slice (some ⟨y.1, 0, none⟩) n n
structure IB (BB n Sb : Nat) (rsOf : List Int → Rs) (pre : List (Nat × List Int)) (W : World) : Prop where
 row : ∃ v, Boxed W Sb 36 v ∧ W.ownsRow BB 40 1 v pre.length (pre.map (slV n))
 laid : ∀ y ∈ pre, RtLaid W y.1 n n (rsOf y.2) ∧ BB ≤ y.1
 lone : pre.Pairwise fun y z => y.1 ≠ z.1
theorem rt_block {W : World} {N len k : Nat} {rs : Rs} (h : RtLaid W N len k rs) : ∃ cs, W.heap[N]? = some (.cells cs 44 (0, 0)) := by
 obtain ⟨f, ⟨cur, hf, _⟩, _⟩ := h.row
 exact ⟨cur, hf⟩
theorem IB.keep {BB n Sb : Nat} {rsOf : List Int → Rs} {pre : List (Nat × List Int)} {W W' : World} (h : IB BB n Sb rsOf pre W) (hk : ∀ q cs t, W.heap[q]? = some (.cells cs t (0, 0)) → BB ≤ q → t = 36 ∨ t = 40 ∨ t = 44 → W'.heap[q]? = W.heap[q]?) (hSb : BB ≤ Sb) : IB BB n Sb rsOf pre W' := by
 obtain ⟨v, hv, ho⟩ := h.row
 refine ⟨⟨v, (hk Sb _ _ hv hSb (.inl rfl)).trans hv, hopMake.own_keep ho fun g hg => ?_⟩, fun y hy => ⟨laid_keep (h.laid y hy).1 ?_, (h.laid y hy).2⟩, h.lone⟩
 · have hl := World.ownsRow.lt ho g hg
   rcases ho.2 with ⟨e, _⟩ | ⟨g', cap, cur, e, _, hh, _⟩
   · rw [e] at hg; simp [Value.ownBlock] at hg
   · rw [e] at hg
     simp [Value.ownBlock] at hg
     subst hg
     exact hk _ _ _ hh hl.1 (.inr (.inl rfl))
 · obtain ⟨cs, hcs⟩ := rt_block (h.laid y hy).1
   exact hk _ _ _ hcs (h.laid y hy).2 (.inr (.inr rfl))
variable {sb b B : Nat} {F : Nat → Value} {p : Nat → Option Addr} {l c : Nat → Nat} {g : R} {o e : List Int} {x : R} {ea da : Option Addr} {el ec dl dc : Nat} {env : List Int} {ds : List Bool} {w0 : World}
set_option maxRecDepth 100000 in
set_option maxHeartbeats 6400000 in
theorem append_seq (n Sx : Nat) (h0 : Sc sb b B F p l c g o e x ea da el ec dl dc env ds w0) (hf0 : F 0 = .slice (p 0) (l 0) (c 0)) (hf : Fine n l g x) (hn0 : l 0 = n) (hn1 : 1 ≤ n) (hen : ∀ i, 0 ≤ zAt env i)
  (hsx : Boxed w0 Sx 63 (.pointer (some ⟨sb, 0, none⟩))) (hSb : Sx ≠ b) :
  Calls Tryz.prog 44 #[.slice none 0 0, .func (.func 45) #[] #[.pointer (some ⟨Sx, 0, none⟩)]] w0 fun e' w' => ∃ (v : Value) (ys : List (Nat × List Int)), e' = .returned v ∧ ys.map (·.2) = (prod (fun i : Nat => rowP g (l 1) o e env ds (i : Int) (n + 3)) n).filter (goodB g (l 1) o e x (l 4) env ds n) ∧
   w'.ownsRow w0.heap.size 40 1 v ys.length (ys.map (slV n)) ∧ (∀ y ∈ ys, RtLaid w' y.1 n n (valR g (l 1) o e x (l 4) env ds y.2 n) ∧ w0.heap.size ≤ y.1) ∧ (ys.Pairwise fun y z => y.1 ≠ z.1) ∧ w0.grownBy w' (some b) := by
 have hbw : b < w0.heap.size := by rcases h0.ready with ⟨h1, _⟩ | ⟨V, F', hm⟩; exact h1.lt; exact hm.row.lt
 have hn4 := hf.few
 obtain ⟨i0, hi0, hzz⟩ := Option.map_eq_some_iff.1 info_rts
 simp only [Prod.mk.injEq] at hzz
 obtain ⟨hz0, hz1, hz2⟩ := hzz
 have HIn := hid hi0
 have HZ0 := hid hz0
 have HZ1 := hid hz1
 have HZ2 := hid hz2
 have HS := hid h0
 have HSeq : Hid (SeqAll Tryz.prog 45 #[.pointer (some ⟨Sx, 0, none⟩)] (fun y : Nat × List Int => #[.slice (some ⟨y.1, 0, none⟩) n n]) (fun pre y W => AtS w0.heap.size n (fun v => valR g (l 1) o e x (l 4) env ds v n) pre y W) (KpR w0.heap.size) (RSt b) (fun ys => ys.map (·.2) = (prod (fun i : Nat => rowP g (l 1) o e env ds (i : Int) (n + 3)) n).filter (goodB g (l 1) o e x (l 4) env ds n)) (fun W => (w0.grownBy W (some b) ∧ Ready b B F W (p 1) (p 4) (l 1) (l 4) (c 1) (c 4) g x) ∧ w0.heap.size + 1 + 1 < W.heap.size)) :=
  hid (fun lB J W hs hJ hY hj => states_in n Sx lB J W h0 hf0 hf hn0 hn1 hen hsx hSb hs.1.1 hs.1.2 hJ hY hj hs.2)
 clear hi0 hz0 hz1 hz2 h0 hf0 hf hsx
 obtain ⟨rsOf, hrs⟩ : ∃ rsOf : List Int → Rs, (fun v => valR g (l 1) o e x (l 4) env ds v n) = rsOf := ⟨_, rfl⟩
 have hrs' : ∀ v, valR g (l 1) o e x (l 4) env ds v n = rsOf v := fun v => by rw [← hrs]
 rw [hrs] at HSeq
 simp only [hrs']
 clear hrs hrs'
 obtain ⟨Sf, hSf⟩ : ∃ Sf : List (List Int), (prod (fun i : Nat => rowP g (l 1) o e env ds (i : Int) (n + 3)) n).filter (goodB g (l 1) o e x (l 4) env ds n) = Sf := ⟨_, rfl⟩
 rw [hSf] at HSeq ⊢
 clear hSf
 refine (callsIn_wide (n := 9)).1 ?_
 refine callsIn_of_wp_marks Tryz.func44 rfl trivial ?_ rfl
 simp only [Tryz.ntmps44, List.size_toArray, List.length_cons, List.length_nil, Nat.reduceAdd, Nat.reduceSub, Array.replicate_succ, Array.replicate_zero, List.push_toArray, List.append_toArray, List.nil_append, List.cons_append]
 gi_wp2
 obtain ⟨W1, hW1⟩ : ∃ W1, w0.alloc (.cells #[.slice none 0 0] 36) = W1 := ⟨_, rfl⟩
 have hb1 : Below w0.heap.size w0 W1 := by rw [← hW1]; exact (by repeat (first | exact Below.refl _ _ | assumption | refine Below.drew ?_ | refine Below.alloc ?_ (by first | exact Nat.le_refl _ | omega | (simp; done) | (simp; omega)) _ | refine Below.setCell ?_ (by first | exact Nat.le_refl _ | omega | (simp; done) | (simp; omega)) _))
 have hbx : Boxed W1 w0.heap.size 36 (.slice none 0 0) := by rw [← hW1]; exact Boxed.new _ _ _
 have hz1 : W1.heap.size = w0.heap.size + 1 := by rw [← hW1]; simp
 have HB1 := hid hb1
 have HI0 : Hid (IB w0.heap.size n w0.heap.size rsOf [] W1 ∧ w0.grownBy W1 (some b)) := hid ⟨⟨⟨_, hbx, World.ownsRow_nil _ _ _ _⟩, fun y hy => (by cases hy), List.Pairwise.nil⟩, grown_of_below hb1 _⟩
 rw [hW1]
 clear hW1 hb1 hbx
 refine range_all (α := Nat × List Int) rfl (enters_of Tryz.func45 (by kernel_rfl) rfl) HSeq.out (fun r => ?start) ?kt (fun W' ob ob' h hc => ?kb) (fun A A' hr k ob h1 h2 h3 h4 => ?hR) (fun _ => rfl)
  (fun pre W => IB w0.heap.size n w0.heap.size rsOf pre W ∧ w0.grownBy W (some b)) ?hI (fun pre y => ?hAt) ?hIR HI0.out
  (fun y => ⟨#[.slice none 0 0, .func (.func 45) #[] #[.pointer (some ⟨Sx, 0, none⟩)], .pointer (some ⟨w0.heap.size, 0, none⟩), undef, .slice none 0 0, .slice (some ⟨y.1, 0, none⟩) n n, .func (.func 45) #[] #[.pointer (some ⟨Sx, 0, none⟩)], .slice (some ⟨y.1, 0, none⟩) n n, undef, undef, undef, undef, undef], []⟩) ?assign ?body ?done
 case start =>
  have hb : Below W1.heap.size W1 ((W1.alloc (.deferred (some []))).alloc (.loop r)) := (by repeat (first | exact Below.refl _ _ | assumption | refine Below.drew ?_ | refine Below.alloc ?_ (by first | exact Nat.le_refl _ | omega | (simp; done) | (simp; omega)) _ | refine Below.setCell ?_ (by first | exact Nat.le_refl _ | omega | (simp; done) | (simp; omega)) _))
  have hbb := HB1.out.trans (hb.mono HB1.out.size)
  exact ⟨⟨grown_of_below hbb _, Ready.below HS.out.ready hbb⟩, by simp [hz1]⟩
 case kt =>
  intro A1 A2 A3 h k
  exact ⟨k.os.trans h.os, k.tape.trans h.tape, k.output.trans h.output, Nat.le_trans h.size k.size, fun q hq hx => by
   have e := h.blk q hq hx
   exact (k.blk q (Nat.lt_of_lt_of_le hq h.size) (fun hB => by rw [e]; exact hx hB)).trans e⟩
 case kb =>
  have hg := grownBy_putObj' W' (W1.heap.size + 1) ob'
  refine ⟨hg.os, hg.tape, hg.output, hg.size, fun q hq hx => hg.block q hq (fun e => ?_)⟩
  injection e with e
  obtain ⟨cs, t, fr, h9⟩ := (hx (by omega)).2 (by omega)
  rw [e, h] at h9
  injection h9 with h9
  subst h9
  cases hc
 case hR => exact (hr.blk k (Array.getElem?_eq_some_iff.1 h3).1 (by omega) (fun hB => absurd hB (by omega))).trans h3
 case hI =>
  intro pre A A' row h hg hr
  refine ⟨h.1.keep (fun q cs t hq hB _ => hg.block q (Array.getElem?_eq_some_iff.1 hq).1 (fun e => ?_)) (Nat.le_refl _), ⟨hg.os.trans h.2.os, hg.tape.trans h.2.tape, hg.output.trans h.2.output, Nat.le_trans h.2.size hg.size, fun j hj hne => (hg.block j (Nat.lt_of_lt_of_le hj h.2.size) (fun e => ?_)).trans (h.2.block j hj hne)⟩⟩
  · obtain ⟨_, ob, h5, h6⟩ := hr q e.symm
    rw [hq] at h5; injection h5 with h5; subst h5; cases h6
  · have := (hr j e.symm).1
    omega
 case hAt =>
  rintro _ A A' row ⟨h1, h2, h3, h4⟩ hg hr
  refine ⟨laid_keep h1 (hg.block _ (by obtain ⟨f, hf, -⟩ := h1.row; exact hf.lt) (fun e => ?_)), h2, h3, h4⟩
  obtain ⟨_, ob, h5, h6⟩ := hr _ e.symm
  obtain ⟨cs, h7⟩ := rt_block h1
  rw [h7] at h5; injection h5 with h5; subst h5; cases h6
 case hIR =>
  intro pre A A' hr h
  refine ⟨h.1.keep (fun q cs t hq hB ht => hr.blk q (Array.getElem?_eq_some_iff.1 hq).1 (by omega) (fun _ => ⟨cs, t, (0, 0), hq, ?_⟩)) (Nat.le_refl _), ⟨hr.os.trans h.2.os, hr.tape.trans h.2.tape, hr.output.trans h.2.output, Nat.le_trans h.2.size hr.size, fun j hj hne => (hr.blk j (Nat.lt_of_lt_of_le hj h.2.size) (fun e => hne (by rw [e])) (fun hB => absurd hB (by omega))).trans (h.2.block j hj hne)⟩⟩
  rcases ht with ht | ht | ht <;> subst ht <;> decide
 case assign =>
  intro l' y W' K hK
  gi_wp2
  exact hK
 case done =>
  rintro D ys W' hD hys ⟨hi, hg⟩ hK
  obtain ⟨v, hv, ho⟩ := hi.row
  have qv := hv.cell
  have HO := hid ho
  have HV := hid hv
  have HI := hid hi
  have HG := hid hg
  have HYs := hid hys
  have HKd := hid hK
  clear hv ho hi hg hys hK
  gi_wp2
  refine leaves_marks (B := W1.heap.size) [D] W' ⟨by simp, fun D' hD' => by simp only [List.mem_singleton] at hD'; subst hD'; exact ⟨hD, HKd.out⟩⟩ (fun W'' hc => ?_)
  have hkc : ∀ (q : Nat) (cs : Array Value) (t : TypeId), W'.heap[q]? = some (Obj.cells cs t (0, 0)) → W''.heap[q]? = W'.heap[q]? := fun q cs t hq => hc.blk q (Array.getElem?_eq_some_iff.1 hq).1 (fun hm => by
   simp only [List.mem_singleton] at hm
   subst hm
   rw [HKd.out] at hq
   cases hq)
  have hib := HI.out.keep (W' := W'') (fun q cs t hq _ _ => hkc q cs t hq) (Nat.le_refl _)
  obtain ⟨v', hv', ho'⟩ := hib.row
  have e1 : v' = v := by
   have h9 := (hkc _ _ _ HV.out).trans HV.out
   rw [show W''.heap[_]? = _ from hv'] at h9
   injection h9 with h9
   injection h9 with h9 _ _
   injection h9 with h9
   injection h9
  subst e1
  exact ⟨_, results_tmp rfl _ _ _, v', ys, rfl, HYs.out, ho', hib.laid, hib.lone, ⟨hc.os.trans HG.out.os, hc.tape.trans HG.out.tape, hc.output.trans HG.out.output, Nat.le_trans HG.out.size hc.size, fun j hj hne => (hc.blk j (Nat.lt_of_lt_of_le hj HG.out.size) (fun hm => by simp only [List.mem_singleton] at hm; omega)).trans (HG.out.block j hj hne)⟩⟩
 case body =>
  rintro l' pre y W' ⟨hi, hg⟩ ⟨hl, hN, hne, hpl⟩
  obtain ⟨v, hv, ho⟩ := hi.row
  have qv := hv.cell
  have zv := hv.frozen
  have HO := hid ho
  have HV := hid hv
  have HI := hid hi
  have HG := hid hg
  have HL := hid hl
  have HNe := hid hne
  have hzw : w0.heap.size ≤ W'.heap.size := hg.size
  clear ho hi hg hl hne
  gi_wp2_with (gi_at_builtin
               refine wpListIn_append_own _ rfl _ _ 36 rfl w0.heap.size 40 i0 (.slice none 0 0) 1 24 Tryz.underlying36 HIn.out HZ0.out HZ1.out HZ2.out rfl (by decide) _ _ _ rfl (World.ownsRow.alloc HO.out _) ⟨W'.heap.size, 0, none⟩ 1 1 [.slice (some ⟨y.1, 0, none⟩) n n] rfl rfl (cell_one_new _ _ _) (by simp [Value.oneCell']) (by unfold maxLen; omega) (by omega) (by simp; omega) ?_
               intro v' w1 hown' hgrow hnil
               obtain ⟨g', cap', hv'⟩ := ownsRow_succ hown'
               subst hv'
               obtain ⟨hv1, hv2, hr2, hk2, hb2⟩ := HV.out.appended (by decide) HO.out hzw (Nat.le_refl _) hown' hgrow
               have hc1 := hv1.cell
               have hf1 := hv1.frozen
               have HV2 := hid hv2
               have HR2 := hid hr2
               have HK2 := hid hk2
               have HGw := hid hgrow
               clear hown' hnil hv1 hv2 hr2 hk2 hb2 hgrow)
  obtain ⟨W5, hW5⟩ : ∃ W5, w1.setCell ⟨w0.heap.size, 0, none⟩ (.slice (some ⟨g', 0, none⟩) (pre.length + 1) cap') = W5 := ⟨_, rfl⟩
  rw [hW5] at HV2 HR2 HK2 ⊢
  have hblk : ∀ q, q < W'.heap.size → q ≠ w0.heap.size → some q ≠ v.ownBlock → W5.heap[q]? = W'.heap[q]? := fun q hq h1 h2 => by
   rw [← hW5, Below.heap_setCell _ _ _ _ h1, HGw.out.block q (by simp; omega) h2, Below.heap_alloc _ _ _ hq]
  have hsz : W'.heap.size ≤ W5.heap.size := HK2.out.size
  have hos : W5.os = W'.os ∧ W5.tape = W'.tape ∧ W5.output = W'.output := by
   rw [← hW5]
   exact ⟨HGw.out.os, HGw.out.tape, HGw.out.output⟩
  have hown : ∀ g, v.ownBlock = some g → w0.heap.size ≤ g ∧ ∃ cs, W'.heap[g]? = some (.cells cs 40 (0, 0)) := fun g hg => by
   refine ⟨(World.ownsRow.lt HO.out g hg).1, ?_⟩
   rcases HO.out.2 with ⟨e, _⟩ | ⟨g9, cap, cur, e, _, hh, _⟩
   · rw [e] at hg; simp [Value.ownBlock] at hg
   · rw [e] at hg
     simp [Value.ownBlock] at hg
     subst hg
     exact ⟨cur, hh⟩
  have hkeep : ∀ {q : Nat} {cs : Array Value} {t : TypeId} {fr : Nat × Nat}, W'.heap[q]? = some (Obj.cells cs t fr) → t ≠ 36 → t ≠ 40 → W5.heap[q]? = W'.heap[q]? := fun {q cs t fr} hq h1 h2 => hblk q (Array.getElem?_eq_some_iff.1 hq).1 (fun e => by
   subst e
   rw [show W'.heap[_]? = _ from HV.out] at hq
   injection hq with hq
   injection hq with _ hq _
   exact h1 hq.symm) (fun e => by
   obtain ⟨_, cs', h9⟩ := hown q e.symm
   rw [h9] at hq
   injection hq with hq
   injection hq with _ hq _
   exact h2 hq.symm)
  have hrt : ∀ {z : Nat × List Int}, RtLaid W' z.1 n n (rsOf z.2) → RtLaid W5 z.1 n n (rsOf z.2) := fun h => laid_keep h (by obtain ⟨cs, hcs⟩ := rt_block h; exact hkeep hcs (by decide) (by decide))
  refine ⟨HK2.out.from _, ⟨hos.1, hos.2.1, hos.2.2, hsz, fun q hq hx => hblk q hq (fun e => ?_) (fun e => ?_)⟩, ⟨⟨_, HV2.out, ?_⟩, fun z hz => ?_, ?_⟩, ⟨hos.1.trans HG.out.os, hos.2.1.trans HG.out.tape, hos.2.2.trans HG.out.output, Nat.le_trans HG.out.size hsz, fun j hj hne => (hblk j (by omega) (by omega) (fun e => by have := (hown j e.symm).1; omega)).trans (HG.out.block j hj hne)⟩⟩
  · subst e
    exact (((hx (Nat.le_refl _)).1 _ _ _ HV.out).1 rfl).elim
  · obtain ⟨h8, cs, h9⟩ := hown q e.symm
    exact (((hx h8).1 _ _ _ h9).2 rfl).elim
  · have h9 := HR2.out
    rw [List.length_append, List.length_singleton, List.map_append]
    exact h9
  · rcases List.mem_append.1 hz with h | h
    · exact ⟨hrt (HI.out.laid z h).1, (HI.out.laid z h).2⟩
    · simp only [List.mem_singleton] at h
      subst h
      exact ⟨hrt HL.out, hN⟩
  · refine List.pairwise_append.2 ⟨HI.out.lone, List.pairwise_singleton _ _, fun z hz z' hz' => ?_⟩
    simp only [List.mem_singleton] at hz'
    subst hz'
    exact HNe.out z hz
theorem collect_impl (n Sx : Nat) (h0 : Sc sb b B F p l c g o e x ea da el ec dl dc env ds w0) (hf0 : F 0 = .slice (p 0) (l 0) (c 0)) (hf : Fine n l g x) (hn0 : l 0 = n) (hn1 : 1 ≤ n) (hen : ∀ i, 0 ≤ zAt env i)
  (hsx : Boxed w0 Sx 63 (.pointer (some ⟨sb, 0, none⟩))) (hSb : Sx ≠ b) :
  Calls Tryz.prog 24 #[.func (.func 45) #[] #[.pointer (some ⟨Sx, 0, none⟩)]] w0 fun e' w' => ∃ (v : Value) (ys : List (Nat × List Int)), e' = .returned v ∧ ys.map (·.2) = (prod (fun i : Nat => rowP g (l 1) o e env ds (i : Int) (n + 3)) n).filter (goodB g (l 1) o e x (l 4) env ds n) ∧
   w'.ownsRow w0.heap.size 40 1 v ys.length (ys.map (slV n)) ∧ (∀ y ∈ ys, RtLaid w' y.1 n n (valR g (l 1) o e x (l 4) env ds y.2 n) ∧ w0.heap.size ≤ y.1) ∧ (ys.Pairwise fun y z => y.1 ≠ z.1) ∧ w0.grownBy w' (some b) := by
 have HA := hid (append_seq n Sx h0 hf0 hf hn0 hn1 hen hsx hSb)
 clear h0 hf0 hf hsx
 go_enter Tryz.func24, Tryz.ntmps24
 go_wp2_with fail
 refine HA.out.mono ?_
 rintro e' w1 ⟨v, ys, rfl, h1, h2, h3, h4, h5⟩
 have HR := hid (And.intro h1 (And.intro h2 (And.intro h3 (And.intro h4 h5))))
 clear h1 h2 h3 h4 h5
 go_wp2
 go_ret
 exact ⟨_, ys, rfl, HR.out⟩
theorem states_impl (sb : Nat) (w : World) :
  Calls Tryz.prog 26 #[.pointer (some ⟨sb, 0, none⟩)] w fun e' w' => e' = .returned (.func (.func 45) #[] #[.pointer (some ⟨w.heap.size, 0, none⟩)]) ∧ w' = w.alloc (.cells #[.pointer (some ⟨sb, 0, none⟩)] 63) := by
 go_enter Tryz.func26, Tryz.ntmps26
 go_wp2
 go_ret
 exact ⟨rfl, rfl⟩
end Go.Proofs.YtaioffpkadmmhaaGreat.collImpl
