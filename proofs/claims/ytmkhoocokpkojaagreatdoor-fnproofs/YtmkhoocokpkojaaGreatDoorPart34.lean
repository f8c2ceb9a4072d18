import Derived.Test.YtmkhoocokpkojaaGreatDoorPart1
import Derived.OwnWalk
import Derived.WalkSpells
import Derived.Maps.AppendAt
import Derived.Laws.AppendOwnNone
import Derived.Deep.Slices
import Derived.Test.YtmkhoocokpkojaaGreatDoorCnf
import Derived.Laws.ResultCell
import Derived.Deep.RegionHeld3
namespace Go.Proofs.YtmkhoocokpkojaaGreatDoor.clsRow
open Go.RowKit Go.Deep Go base copy
set_option linter.unusedVariables false
set_option linter.unusedSimpArgs false
structure Inner (w0 : World) (vals : List Value) (zss : List (List Int)) : Prop where
 len : vals.length = zss.length
 each : ∀ i, i < zss.length → ∃ a l c, vals[i]? = some (.slice a l c) ∧ IntRow w0 a l (zss[i]?.getD [])
theorem Inner.nil (w0 : World) : Inner w0 [] [] := ⟨rfl, fun i hi => absurd hi (Nat.not_lt_zero _)⟩
theorem Inner.one {w0 : World} {vals : List Value} {zss : List (List Int)} (h : Inner w0 vals zss) : ∀ u ∈ vals, u.oneCell' = true := fun u hu => by
 obtain ⟨i, hi, rfl⟩ := List.getElem_of_mem hu
 obtain ⟨a, l, c, e, _⟩ := h.each i (by rw [← h.len]; exact hi)
 rw [List.getElem?_eq_getElem hi] at e
 injection e with e
 rw [e]; rfl
theorem Inner.add {w0 : World} {vals : List Value} {zss : List (List Int)} (h : Inner w0 vals zss) {a : Option Addr} {l c : Nat} {zs : List Int} (hr : IntRow w0 a l zs) : Inner w0 (vals ++ [.slice a l c]) (zss ++ [zs]) := by
 refine ⟨by simp [h.len], fun i hi => ?_⟩
 by_cases e : i < zss.length
 · obtain ⟨a', l', c', e1, e2⟩ := h.each i e
   refine ⟨a', l', c', ?_, ?_⟩
   · rw [List.getElem?_append_left (by rw [h.len]; exact e)]; exact e1
   · rw [List.getElem?_append_left e]; exact e2
 · have : i = zss.length := by simp at hi; omega
   subst this
   refine ⟨a, l, c, ?_, ?_⟩
   · rw [List.getElem?_append_right (by rw [h.len]; exact Nat.le_refl _), h.len]; simp
   · rw [List.getElem?_append_right (Nat.le_refl _)]; simpa using hr
theorem Inner.erase {w0 : World} {vals : List Value} {zss : List (List Int)} (h : Inner w0 vals zss) (k : Nat) : Inner w0 (vals.take k ++ vals.drop (k + 1)) (zss.eraseIdx k) := by
 have e1 : vals.take k ++ vals.drop (k + 1) = vals.eraseIdx k := (List.eraseIdx_eq_take_drop_succ vals k).symm
 rw [e1]
 refine ⟨by rw [List.length_eraseIdx, List.length_eraseIdx, h.len], fun i hi => ?_⟩
 rw [List.getElem?_eraseIdx, List.getElem?_eraseIdx]
 rw [List.length_eraseIdx] at hi
 by_cases e : i < k
 · rw [if_pos e, if_pos e]
   exact h.each i (by split at hi <;> omega)
 · rw [if_neg e, if_neg e]
   exact h.each (i + 1) (by split at hi <;> omega)
theorem rows_of {w0 w : World} {B n cap : Nat} {a : Option Addr} {vals : List Value} {zss : List (List Int)} (ho : w.ownsRow B 52 1 (.slice a n cap) n vals) (hi : Inner w0 vals zss) (hb : Below w0.heap.size w0 w) : IntRows w a n zss := by
 obtain ⟨h1, h2⟩ := ho
 have hl : zss.length = n := by rw [← hi.len, h1]; omega
 rcases h2 with ⟨e, e2⟩ | ⟨g, c, cur, e, hg, hh, hn, hm, hs, ht⟩
 · injection e with e3 e4 e5
   exact ⟨hl, by rw [e2]; exact Nat.zero_le _, fun i hi' => absurd hi' (by omega)⟩
 · injection e with e3 e4 e5
   subst e3
   refine ⟨hl, Nat.le_trans hn hm, fun i hi' => ?_⟩
   obtain ⟨a', l', c', e1, e2⟩ := hi.each i (by omega)
   refine ⟨g, 0, rfl, a', l', c', ?_, e2.below hb⟩
   rw [Nat.zero_add]
   rw [← ht, List.getElem?_take, if_pos (by omega), Array.getElem?_toList] at e1
   simp [World.cell?, hh, e1]
theorem cells_of {w : World} {B n cap g : Nat} {vals : List Value} (ho : w.ownsRow B 52 1 (.slice (some ⟨g, 0, none⟩) n cap) n vals) : ∀ i u, vals[i]? = some u → w.cell? ⟨g, i, none⟩ = some u := fun i u hu => by
 obtain ⟨h1, h2⟩ := ho
 rcases h2 with ⟨e, e2⟩ | ⟨g', c, cur, e, hg, hh, hn, hm, hs, ht⟩
 · cases e
 · injection e with e3 e4 e5
   injection e3 with e3
   injection e3 with e3
   subst e3
   have hil : i < vals.length := (List.getElem?_eq_some_iff.1 hu).1
   rw [← ht, List.getElem?_take, if_pos (by omega), Array.getElem?_toList] at hu
   simp [World.cell?, hh, hu]
theorem form_of {w : World} {B n : Nat} {v : Value} {vals : List Value} (ho : w.ownsRow B 52 1 v n vals) : ∃ a cap, v = .slice a n cap ∧ n ≤ cap ∧ cap ≤ maxLen ∧ (0 < n → ∃ g, a = some ⟨g, 0, none⟩) := by
 rcases ho.2 with ⟨e, e2⟩ | ⟨g, c, cur, e, hg, hh, hn, hm, hs, ht⟩
 · exact ⟨none, 0, by rw [e, e2], by omega, Nat.zero_le _, fun h => by omega⟩
 · exact ⟨_, c, e, hn, hm, fun _ => ⟨g, rfl⟩⟩
theorem own_same {B n : Nat} {w w1 : World} {v : Value} {vals : List Value} (h : w.ownsRow B 52 1 v n vals) (hb : ∀ k, v.ownBlock = some k → w1.heap[k]? = w.heap[k]?) : w1.ownsRow B 52 1 v n vals := by
 obtain ⟨h1, h2⟩ := h
 refine ⟨h1, ?_⟩
 rcases h2 with h2 | ⟨g, cap, cur, rfl, hg, hh, rest⟩
 · exact .inl h2
 · exact .inr ⟨g, cap, cur, rfl, hg, by rw [hb g rfl]; exact hh, rest⟩
theorem own_at {N n c k : Nat} (h : (Value.slice (some ⟨N, 0, none⟩) n c).ownBlock = some k) : k = N := by
 have h' : some N = some k := h
 injection h' with h'
 exact h'.symm
theorem add_at (g off j : Nat) : (⟨g, off, none⟩ : Addr).add j = ⟨g, off + j, none⟩ := by
 by_cases h : j = 0 <;> simp [Addr.add, h]
theorem rows_empty (B N : Nat) (w : World) (hB : B ≤ w.heap.size) (hN : w.heap.size = N) : (w.alloc (.cells #[] 52)).ownsRow B 52 1 (.slice (some ⟨N, 0, none⟩) 0 0) 0 [] := by
 subst hN
 exact ⟨rfl, .inr ⟨w.heap.size, 0, #[], rfl, hB, heap_alloc_new w _, Nat.le_refl _, Nat.zero_le _, rfl, rfl⟩⟩
theorem wpList_append_any {P : Program} {w : World} {ops : Array Oper} {rest : List Oper} {o : Oper} {a : Act} {Q : Exit → Act → World → Prop} (hgd : o.guard = none) (s x : Operand) (t : TypeId)
  (ho : o.op = .call { callee := .builtin .append, args := #[s, x], argTypes := #[t, t] })
  (base : Nat) (e : TypeId) (i : TypeInfo) (z : Value) (size bytes : Nat) (ht : P.underlying t = some (.slice e)) (hi : P.info? e = some i) (hz : i.zero = some z)
  (hsize : i.size = size) (hby : i.bytes = bytes) (hzs : z.cells.size = size) (hsz : 0 < size)
  (v : Value) (n : Nat) (xs : List Value) (hs : a.eval s = v) (hown : w.ownsRow base e size v n xs)
  (xa : Option Addr) (m c : Nat) (news : List Value) (hx : a.eval x = .slice xa m c) (hnil : xa = none → m = 0 ∧ c = 0) (hl : news.length = m * size) (hnews : ∀ ad, xa = some ad → ∀ j u, news[j]? = some u → w.cell? (ad.add j) = some u) (h1 : ∀ u ∈ news, u.oneCell' = true)
  (h63 : n + m ≤ maxLen) (hbytes : (n + m) * bytes ≤ 140737488355328) (hbase : base ≤ w.heap.size)
  (h : ∀ v' w', w'.ownsRow base e size v' (n + m) (xs ++ news) → w.grownBy w' v.ownBlock → wpList P ops Q rest (a.put o.dst v') w') : wpList P ops Q (o :: rest) a w := by
 cases xa with
 | none =>
  obtain ⟨e1, e2⟩ := hnil rfl
  subst e1 e2
  have en : news = [] := List.length_eq_zero_iff.1 (by rw [hl, Nat.zero_mul])
  subst en
  refine wpList_append_own_none hgd s x t ho base e i size ht hi v n xs hs hown hx ?_
  exact h v w (by simpa using hown) ⟨rfl, rfl, rfl, Nat.le_refl _, fun _ _ _ => rfl⟩
 | some ad => exact wpList_append_own w hgd s x t ho base e i z size bytes ht hi hz hsize hby hzs hsz v n xs hs hown ad m c news hx hl (hnews ad rfl) h1 h63 hbytes hbase fun v' w' a1 a2 _ => h v' w' a1 a2
theorem info_rows : (Tryz.prog.info? 52).map (fun i => (i.zero, i.size, i.bytes)) = some (some (.slice none 0 0), 1, 24) := by kernel_rfl
end Go.Proofs.YtmkhoocokpkojaaGreatDoor.clsRow
namespace Go.Proofs.YtmkhoocokpkojaaGreatDoor.steps
open Go.RowKit Go.Deep base copy cnf
set_option linter.unusedVariables false
abbrev St := Bool × List Int
structure StepRow (w : World) (a : Option Addr) (len : Nat) (ss : List St) : Prop where
 length : ss.length = len
 most : len ≤ maxLen
 cell : ∀ i, i < len → ∃ b off, a = some ⟨b, off, none⟩ ∧ w.cell? ⟨b, off + i * 2, none⟩ = some (.bool (ss[i]?.getD (false, [])).1) ∧
  ∃ a' l' c', w.cell? ⟨b, off + i * 2 + 1, none⟩ = some (.slice a' l' c') ∧ IntRow w a' l' (ss[i]?.getD (false, [])).2
theorem StepRow.below {W w1 : World} {a : Option Addr} {len : Nat} {ss : List St} (h : StepRow W a len ss) (hb : Below W.heap.size W w1) : StepRow w1 a len ss :=
 ⟨h.length, h.most, fun i hi => by
  obtain ⟨b, off, e, h1, a', l', c', hc, hr⟩ := h.cell i hi
  exact ⟨b, off, e, keep hb h1, a', l', c', keep hb hc, hr.below hb⟩⟩
theorem intRow_set {w : World} {M : Nat} {l : Nat} {zs : List Int} (h : IntRow w (some ⟨M, 0, none⟩) l zs) {a : Addr} (ha : a.block ≠ M) (v : Value) : IntRow (w.setCell a v) (some ⟨M, 0, none⟩) l zs :=
 ⟨h.length, h.most, fun i hi => by
  obtain ⟨b, off, e, hc⟩ := h.cell i hi
  simp at e
  obtain ⟨rfl, rfl⟩ := e
  exact ⟨_, _, rfl, (World.cell?_setCell_other _ _ _ _ (by intro h; rw [h] at ha; exact ha rfl)).trans hc⟩⟩
structure Laid (w : World) (N len k : Nat) (ss : List St) : Prop where
 row : ∃ f, w.rowIs N 79 (len * 2) f ∧ ∀ i, i < k → f (i * 2) = .bool (ss[i]?.getD (false, [])).1 ∧ ∃ M l, f (i * 2 + 1) = .slice (some ⟨M, 0, none⟩) l l ∧ N < M ∧ IntRow w (some ⟨M, 0, none⟩) l (ss[i]?.getD (false, [])).2
theorem Laid.steps {w : World} {N len : Nat} {ss : List St} (h : Laid w N len len ss) (hl : ss.length = len) (hm : len ≤ maxLen) : StepRow w (some ⟨N, 0, none⟩) len ss := by
 obtain ⟨f, hf, hc⟩ := h.row
 refine ⟨hl, hm, fun i hi => ?_⟩
 obtain ⟨h1, M, l, h2, hM, hr⟩ := hc i hi
 refine ⟨N, 0, rfl, ?_, some ⟨M, 0, none⟩, l, l, ?_, hr⟩
 · rw [← h1]; simpa using hf.cell (i := i * 2) (by omega)
 · rw [← h2]; simpa using hf.cell (i := i * 2 + 1) (by omega)
theorem Laid.below {w w1 : World} {N len k : Nat} {ss : List St} (h : Laid w N len k ss) (hb : Below w.heap.size w w1) : Laid w1 N len k ss := by
 obtain ⟨f, hf, hc⟩ := h.row
 refine ⟨f, hf.of_block (hb.block _ hf.lt), fun i hi => ?_⟩
 obtain ⟨h1, M, l, h2, hM, hr⟩ := hc i hi
 exact ⟨h1, M, l, h2, hM, hr.below hb⟩
theorem Laid.next {w : World} {N len k M l : Nat} {ss : List St} (h : Laid w N len k ss) (hk : k < len) (hN : N < M) (hr : IntRow w (some ⟨M, 0, none⟩) l (ss[k]?.getD (false, [])).2) :
  Laid ((w.setCell ⟨N, k * 2, none⟩ (.bool (ss[k]?.getD (false, [])).1)).setCell ⟨N, k * 2 + 1, none⟩ (.slice (some ⟨M, 0, none⟩) l l)) N len (k + 1) ss := by
 obtain ⟨f, hf, hc⟩ := h.row
 refine ⟨_, (hf.set (k * 2) _).set (k * 2 + 1) _, fun i hi => ?_⟩
 by_cases e : i = k
 · subst e
   refine ⟨by rw [if_neg (by omega), if_pos rfl], M, l, by rw [if_pos rfl], hN, ?_⟩
   exact intRow_set (intRow_set hr (by simp; omega) _) (by simp; omega) _
 · obtain ⟨h1, M', l', h2, hM, hr'⟩ := hc i (by omega)
   refine ⟨by rw [if_neg (by omega), if_neg (by omega)]; exact h1, M', l', by rw [if_neg (by omega), if_neg (by omega)]; exact h2, hM, ?_⟩
   exact intRow_set (intRow_set hr' (by simp; omega) _) (by simp; omega) _
end Go.Proofs.YtmkhoocokpkojaaGreatDoor.steps
