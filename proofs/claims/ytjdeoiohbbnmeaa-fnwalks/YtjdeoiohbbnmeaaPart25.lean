/- BestFace; BestAll; StabImpl; StabFace; LawNets: one text, so that the claim has fewer files. -/
import Derived.Test.YtjdeoiohbbnmeaaPart24
import Derived.Test.YtjdeoiohbbnmeaaPart20
import Derived.Test.YtjdeoiohbbnmeaaPart16
import Derived.BigRegion
import Derived.Test.YtjdeoiohbbnmeaaPart23
import Derived.Test.YtjdeoiohbbnmeaaPart1
import Derived.Test.YtjdeoiohbbnmeaaPart10
import Derived.Test.YtjdeoiohbbnmeaaPart11
/- BestRoute, of the program and of its specification: the first of the best; conditions: none. -/
namespace Go.Proofs.Ytjdeoiohbbnmeaa.bestFace
open Go.RowKit Go.Deep base routeRow compare bestRoute
set_option linter.unusedVariables false

theorem code_long {len : Nat} (h : 4096 < len) (g : Rs) : bestCode len = 2 ∧ bestOf len g = zeroRt := by
  have : bestCode len = 2 := by unfold bestCode; rw [if_pos h]
  exact ⟨this, by unfold bestOf; rw [this, if_neg (by decide)]⟩
theorem code_none (g : Rs) : bestCode 0 = 6 ∧ bestOf 0 g = zeroRt := ⟨rfl, rfl⟩
theorem code_ok {len : Nat} (h : ¬ 4096 < len) (h0 : 0 < len) (g : Rs) : bestCode len = 0 ∧ bestOf len g = bestTo g (len - 1) := by
  have : bestCode len = 0 := by unfold bestCode; rw [if_neg h, if_neg (by omega)]
  exact ⟨this, by unfold bestOf; rw [if_pos this]⟩

end Go.Proofs.Ytjdeoiohbbnmeaa.bestFace

/- What all routers choose at once, of the program; conditions: a right scene and right routes. -/
namespace Go.Proofs.Ytjdeoiohbbnmeaa.bestAll
open Go.RowKit Go.Deep Go base netSem routeRow nbSem candSem candImp hopSem intsOwn hopMake hopBetween sceneSem sceneBy candSpec sceneCand noRts rtsRow bestFace
set_option linter.unusedVariables false

variable {sb b B : Nat} {F : Nat → Value} {p : Nat → Option Addr} {l c : Nat → Nat} {g : R} {o e : List Int} {x : R} {ea da : Option Addr} {el ec dl dc : Nat} {env : List Int} {ds : List Bool} {w W W2 : World}
/-- What each of the first routers chooses; the rest has none. -/
def chosen (bs : Rs) (k : Nat) : Rs := fun i => if i < k then bs i else noRt
def bests (g : R) (nl : Nat) (o e : List Int) (x : R) (nx : Nat) (env : List Int) (ds : List Bool) (rs : Rs) (n : Nat) : Rs := fun r => bst (lst g nl o e x nx env ds rs n (r : Int) (n + 2))

theorem gtrans {w w1 w2 : World} {row : Option Nat} (h : w.grownBy w1 row) (h' : w1.grownBy w2 row) : w.grownBy w2 row :=
  ⟨h'.os.trans h.os, h'.tape.trans h.tape, h'.output.trans h.output, Nat.le_trans h.size h'.size, fun j hj hne => (h'.block j (Nat.lt_of_lt_of_le hj h.size) hne).trans (h.block j hj hne)⟩
theorem laid_congr {w : World} {N len k : Nat} {g g' : Rs} (h : RtLaid w N len k g) (he : ∀ i, i < k → g i = g' i) : RtLaid w N len k g' := by
  obtain ⟨f, hf, hc⟩ := h.row
  exact ⟨f, hf, fun i hi j hj => by rw [← he i hi]; exact hc i hi j hj⟩
theorem laid_block {w w' : World} {N len k : Nat} {g : Rs} (h : RtLaid w N len k g) (hb : w'.heap[N]? = w.heap[N]?) : RtLaid w' N len k g := by
  obtain ⟨f, hf, hc⟩ := h.row
  exact ⟨f, hf.of_block hb, hc⟩
theorem laid_set {w : World} {N n k : Nat} {g : Rs} (h : RtLaid w N n n g) (r : Rt) :
    RtLaid ((((w.setCell ⟨N, k * 4, none⟩ (.int .i64 r.via)).setCell ⟨N, k * 4 + 1, none⟩ (.int .i64 r.pref)).setCell ⟨N, k * 4 + 2, none⟩ (.int .i64 r.len)).setCell ⟨N, k * 4 + 3, none⟩ (.bool r.mark)) N n n (fun i => if i = k then r else g i) := by
  obtain ⟨f, hf, hc⟩ := h.row
  refine ⟨_, ((((hf.set (k * 4) _).set (k * 4 + 1) _).set (k * 4 + 2) _).set (k * 4 + 3) _), fun i hi j hj => ?_⟩
  by_cases e : i = k
  · subst e
    rw [if_pos rfl]
    match j, hj with
    | 0, _ => rw [if_neg (by omega), if_neg (by omega), if_neg (by omega), if_pos (by omega)]; rfl
    | 1, _ => rw [if_neg (by omega), if_neg (by omega), if_pos rfl]; rfl
    | 2, _ => rw [if_neg (by omega), if_pos rfl]; rfl
    | 3, _ => rw [if_pos rfl]; rfl
    | j + 4, hj => exact absurd hj (by omega)
  · rw [if_neg (by omega), if_neg (by omega), if_neg (by omega), if_neg (by omega), if_neg e]
    exact hc i hi j hj

end Go.Proofs.Ytjdeoiohbbnmeaa.bestAll

/- Whether routes are stable, of the program's scene; conditions: a right scene and right routes. -/
namespace Go.Proofs.Ytjdeoiohbbnmeaa.stabImpl
open Go.RowKit Go.Deep Go base netSem routeRow nbSem candSem candImp hopSem intsOwn hopMake hopBetween sceneSem sceneBy candSpec sceneCand noRts rtsRow bestFace bestAll
set_option linter.unusedVariables false

/-- Two routes are the same; two rows of routes are. -/
def eqR (a b : Rt) : Bool := a.via == b.via && a.pref == b.pref && a.len == b.len && a.mark == b.mark
theorem eqR_iff {a b : Rt} : eqR a b = true ↔ a = b := by
  cases a; cases b
  simp [eqR, and_assoc]
theorem eqR_no {a b : Rt} (h : a ≠ b) : eqR a b = false := by
  cases e : eqR a b with
  | false => rfl
  | true => exact absurd (eqR_iff.1 e) h
def sameTo (g g' : Rs) (n : Nat) : Bool := allN (fun i => eqR (g i) (g' i)) n
theorem same_yes {g g' : Rs} {n : Nat} (h : ∀ i, i < n → g i = g' i) : sameTo g g' n = true := allN_iff.2 fun i hi => eqR_iff.2 (h i hi)
theorem same_no {g g' : Rs} {n k : Nat} (hk : k < n) (h : g k ≠ g' k) : sameTo g g' n = false := allN_false hk (eqR_no h)

end Go.Proofs.Ytjdeoiohbbnmeaa.stabImpl

/- IsStable, of the program; conditions: none. -/
namespace Go.Proofs.Ytjdeoiohbbnmeaa.stabFace
open Go.RowKit Go.Deep Go base names netSem routeRow nbSem candSem candImp hopSem intsOwn hopMake hopBetween sceneSem sceneBy candSpec sceneCand sceneList sceneFault sceneNew sceneFace walkSem routesB netImpl noRts rtsRow bestFace bestAll stabImpl
set_option linter.unusedVariables false

/-- Each router has the best of what it could have. -/
def stabB (g : R) (nl : Nat) (o e : List Int) (x : R) (nx : Nat) (env : List Int) (ds : List Bool) (rs : Rs) (n : Nat) : Bool := sameTo (fun r : Nat => bst (candL g nl o e x nx env ds rs n (r : Int))) rs n
def stabA (c : Int) (s : Bool) : Bool := if c = 0 then s else false
theorem bests_cand {g : R} {nl : Nat} {o e : List Int} {x : R} {nx : Nat} {env : List Int} {ds : List Bool} {rs : Rs} {n : Nat} (hn : n ≤ 4) (hv : ∀ i, i < n → (rs i).via < n) (he : ∀ i, 0 ≤ zAt env i) : bests g nl o e x nx env ds rs n = fun r : Nat => bst (candL g nl o e x nx env ds rs n (r : Int)) := by
  funext r
  unfold bests
  rw [lst_cand _ _ _ _ _ _ _ _ _ _ _ hn hv he]
theorem two_rets {a b : Bool} {x y : Int} (h : a = b) (h' : x = y) : Ending.returned (.tuple #[.bool a, .int .i64 x]) = .returned (.tuple #[.bool b, .int .i64 y]) := by rw [h, h']

theorem one_router {l : Nat → Nat} {s : Ss} {g x f : R} {o e : List Int} (h : netB l s g o e x f = true) : 1 ≤ l 0 := by
  unfold netB routersB inB at h
  simp only [Bool.and_eq_true, decide_eq_true_eq] at h
  obtain ⟨⟨⟨⟨⟨⟨⟨h1, _⟩, _⟩, _⟩, _⟩, _⟩, _⟩, _⟩ := h
  omega
end Go.Proofs.Ytjdeoiohbbnmeaa.stabFace

/- What laws over drawn networks share: arguments of bytes, small facts of right networks; conditions: none. -/
namespace Go.Proofs.Ytjdeoiohbbnmeaa.lawNets
open Go.ChangeShapes Go.WideShapes Go.ChangeAt Go.RowKit Go.Deep Go.Joins Go base args netSem netMath routeRow rtsRow candEnv stabImpl source
set_option linter.unusedVariables false

theorem bytes_below {w w1 : World} {a : Option Addr} {len : Nat} (h : Bytes w a len) (hb : Below w.heap.size w w1) : Bytes w1 a len := fun i hi => by
  obtain ⟨b, o, e, x, hx, hc⟩ := h i hi
  exact ⟨b, o, e, x, hx, keep hb hc⟩
theorem bytes_of_trod {H : Type} {enc : TypeId × Value → H} {P : Program} {w : World} {base : Nat} {held : Bool} {t e : TypeId} {fuel : Nat} {v : Value} {x : DataW H × List MemPlace} (ht : P.underlying t = some (.slice e)) (he : P.underlying e = some (.int .u8)) (ce : P.cellsOf e = 1)
    (h : DataW.trod enc P w base (fun _ => true) held fuel t [v] = some x) : ∃ a len cap, v = .slice a len cap ∧ Bytes w a len ∧ len ≤ maxLen := by
  rcases open_ints ht he ce h with ⟨hcs, _⟩ | ⟨x, l, c, zs, hcs, _, hl, hm, hz, _, hcell, hwz⟩
  · exact ⟨none, 0, 0, by simpa using hcs, fun i hi => absurd hi (Nat.not_lt_zero _), Nat.zero_le _⟩
  · simp only [if_true] at hz
    refine ⟨some x, l, c, by simpa using hcs, fun i hi => ?_, Nat.le_trans hl hm⟩
    obtain ⟨e1, e2⟩ := at_none (hcell 0 (by omega)) (hcell i (by omega))
    have hi' : i < zs.length := by omega
    have hw := hwz zs[i] (List.getElem_mem hi')
    have hr : 0 ≤ zs[i] ∧ zs[i] < 256 := by
      simp [Lit.wf, IntKind.min, IntKind.max, IntKind.bits, IntKind.signed] at hw
      omega
    obtain ⟨y, hy⟩ := Int.eq_ofNat_of_zero_le hr.1
    refine ⟨x.block, x.off, by rw [← e1], y, by omega, ?_⟩
    rw [e2, List.getD_eq_getElem?_getD, List.getElem?_eq_getElem hi', Option.getD_some, hy]
def OwnBools (B : Nat) (w : World) (v : Value) (zs : List Bool) : Prop := w.ownsRow B 4 1 v zs.length (zs.map Value.bool)
theorem OwnBools.form {B : Nat} {w : World} {v : Value} {zs : List Bool} (h : OwnBools B w v zs) : ∃ a cap, v = .slice a zs.length cap ∧ BoolRow w a zs.length zs := by
  obtain ⟨h1, h2⟩ := h
  rcases h2 with ⟨rfl, hn⟩ | ⟨g, cap, cur, rfl, hb, hh, hn, hm, hs, ht⟩
  · exact ⟨none, 0, by rw [hn], ⟨rfl, by rw [hn]; exact Nat.zero_le _, fun i hi => by omega⟩⟩
  · refine ⟨some ⟨g, 0, none⟩, cap, rfl, ⟨rfl, Nat.le_trans hn hm, fun i hi => ⟨g, 0, rfl, ?_⟩⟩⟩
    have h3 : cur[i]? = some (.bool (zs[i]?.getD false)) := by
      have : (cur.toList.take (zs.length * 1))[i]? = (zs.map Value.bool)[i]? := by rw [ht]
      rw [List.getElem?_take, if_pos (by omega)] at this
      rw [← Array.getElem?_toList, this, List.getElem?_map, List.getElem?_eq_getElem hi]
      rfl
    simp [World.cell?, hh, h3]
theorem net_small {l : Nat → Nat} {s : Ss} {g x f : R} {o e : List Int} (h : netB l s g o e x f = true) : (1 ≤ l 0 ∧ l 0 ≤ 4) ∧ l 1 ≤ 6 ∧ l 3 ≤ 2 ∧ (∀ i, i < l 1 → 1 ≤ g i 2) := by
  unfold netB routersB linksB inB at h
  simp only [Bool.and_eq_true, decide_eq_true_eq, allN_iff] at h
  obtain ⟨⟨⟨⟨⟨⟨⟨h1, _⟩, ⟨h2, h3⟩⟩, _⟩, _⟩, h4⟩, _⟩, _⟩ := h
  refine ⟨by omega, h2, h4, fun i hi => ?_⟩
  have := h3 i hi
  unfold linkB inB at this
  simp only [Bool.and_eq_true, decide_eq_true_eq] at this
  omega
theorem env_good {zs : List Int} {dl : Nat} (h : ∀ z ∈ zs, 0 ≤ z ∧ z < 3) (hz : zs.length ≤ 4096) (hd : dl ≤ 4096) : envC true zs.length dl zs.length dl zs = 0 := by
  unfold envC
  rw [if_neg (by omega), if_neg (by decide), if_neg (by simp), if_pos ?_]
  refine allN_of fun i hi => ?_
  unfold inB zAt
  rw [List.getElem?_eq_getElem hi]
  have := h _ (List.getElem_mem hi)
  exact decide_eq_true (by simp only [Option.getD_some]; omega)
theorem env_pos {zs : List Int} (h : ∀ z ∈ zs, 0 ≤ z ∧ z < 3) (i : Nat) : 0 ≤ zAt zs i := by
  unfold zAt
  by_cases hi : i < zs.length
  · rw [List.getElem?_eq_getElem hi]; exact (h _ (List.getElem_mem hi)).1
  · rw [List.getElem?_eq_none (by omega)]; exact Int.le_refl _
theorem first_at {p : Nat → Bool} {n : Nat} (h : 0 ≤ firstAt p n) : p (firstAt p n).toNat = true := by
  unfold firstAt at h ⊢
  cases e : (List.range n).find? p with
  | none => rw [e] at h; exact absurd h (by decide)
  | some i =>
    have := List.find?_some e
    simpa using this
theorem rF_list {zs zs' : List Rt} (hl : zs.length = zs'.length) (h : ∀ i, i < zs.length → rF zs i = rF zs' i) : zs = zs' := by
  refine List.ext_getElem hl fun i h1 h2 => ?_
  have := h i h1
  unfold rF at this
  rw [List.getElem?_eq_getElem h1, List.getElem?_eq_getElem h2] at this
  exact this
theorem same_list {zs zs' : List Rt} (hl : zs.length = zs'.length) : (zs = zs' → sameTo (rF zs) (rF zs') zs.length = true) ∧ (zs ≠ zs' → sameTo (rF zs) (rF zs') zs.length = false) := by
  refine ⟨fun h => ?_, fun h => ?_⟩
  · subst h; exact same_yes fun _ _ => rfl
  · cases hb : sameTo (rF zs) (rF zs') zs.length with
    | false => rfl
    | true =>
      refine absurd (rF_list hl fun i hi => ?_) h
      unfold sameTo at hb
      exact eqR_iff.1 (allN_iff.1 hb i hi)
end Go.Proofs.Ytjdeoiohbbnmeaa.lawNets
