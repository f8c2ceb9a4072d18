/- SceneSem; WalkSem; RoutesB: one text, so that the claim has fewer files. -/
import Derived.Test.YtjdeoiohbbnmeaaPart12
import Derived.Test.YtjdeoiohbbnmeaaCandImp
import Derived.Test.YtjdeoiohbbnmeaaPart6
import Derived.Test.YtjdeoiohbbnmeaaPart11
/- A scene in memory: a network with its memo, what is announced and which links are down; what a router could have of a Via; conditions: none. -/
namespace Go.Proofs.Ytjdeoiohbbnmeaa.sceneSem
open Go.RowKit Go.Deep Go base netSem routeRow nbSem candSem candImp hopSem intsOwn hopMake hopBetween
set_option linter.unusedVariables false

variable {sb b B : Nat} {F : Nat → Value} {p : Nat → Option Addr} {l c : Nat → Nat} {g : R} {o e : List Int} {x : R} {ea da : Option Addr} {el ec dl dc : Nat} {env : List Int} {ds : List Bool} {w w' : World}
theorem rowOff {m n : Nat} {a : Option Addr} {g : R} (h : Row m w a n g) (hk : ∀ q o v, q ≠ b → w.cell? ⟨q, o, none⟩ = some v → w'.cell? ⟨q, o, none⟩ = some v) (hn : ∀ q o, 0 < n → a = some ⟨q, o, none⟩ → q ≠ b) : Row m w' a n g :=
  ⟨h.most, fun i hi => by
    obtain ⟨q, off, e, hc⟩ := h.cell i hi
    exact ⟨q, off, e, fun j hj => hk _ _ _ (hn q off (by omega) e) (hc j hj)⟩⟩
theorem intOff {n : Nat} {a : Option Addr} {z : List Int} (h : IntRow w a n z) (hk : ∀ q o v, q ≠ b → w.cell? ⟨q, o, none⟩ = some v → w'.cell? ⟨q, o, none⟩ = some v) (hn : ∀ q o, 0 < n → a = some ⟨q, o, none⟩ → q ≠ b) : IntRow w' a n z :=
  ⟨h.length, h.most, fun i hi => by
    obtain ⟨q, off, e, hc⟩ := h.cell i hi
    exact ⟨q, off, e, hk _ _ _ (hn q off (by omega) e) hc⟩⟩
theorem boolOff {n : Nat} {a : Option Addr} {z : List Bool} (h : BoolRow w a n z) (hk : ∀ q o v, q ≠ b → w.cell? ⟨q, o, none⟩ = some v → w'.cell? ⟨q, o, none⟩ = some v) (hn : ∀ q o, 0 < n → a = some ⟨q, o, none⟩ → q ≠ b) : BoolRow w' a n z :=
  ⟨h.length, h.most, fun i hi => by
    obtain ⟨q, off, e, hc⟩ := h.cell i hi
    exact ⟨q, off, e, hk _ _ _ (hn q off (by omega) e) hc⟩⟩
theorem grown_cell (hg : w.grownBy w' (some b)) (q o : Nat) (v : Value) (hq : q ≠ b) (hc : w.cell? ⟨q, o, none⟩ = some v) : w'.cell? ⟨q, o, none⟩ = some v :=
  (World.cell?_of_block (a := ⟨q, o, none⟩) (hg.block q (World.block_lt_of_cell? _ _ hc) (fun e => hq (by injection e)))).trans hc
theorem grown_of_below (hb : Below w.heap.size w w') (row : Option Nat) : w.grownBy w' row := ⟨hb.os, hb.tape, hb.output, hb.size, fun j hj _ => hb.block j hj⟩
/-- What is announced to a router. -/
def annA (e env : List Int) (router : Int) : Int := if 0 ≤ hasAt e router then zAt env (hasAt e router).toNat else 0
/-- Whether a router could have a route of a Via at all. -/
def openB (g : R) (nl : Nat) (o e env : List Int) (ds : List Bool) (router via : Int) : Bool :=
  if via = -3 then true else if via = -2 then decide (0 ≤ hasAt o router) else if via = -1 then (annA e env router != 0) else nbB g nl ds router via.toNat
/-- What a router could have of a Via. -/
def byVia (g : R) (nl : Nat) (o e : List Int) (x : R) (nx : Nat) (env : List Int) (ds : List Bool) (rs : Rs) (n : Nat) (router via : Int) : Option Rt :=
  if openB g nl o e env ds router via = false then none else if via = -3 then some noRt else if via = -2 then some ⟨-2, 200, 0, false⟩ else if via = -1 then some ⟨-1, 100, 2, annA e env router == 2⟩
  else if (rs via.toNat).via = -3 ∨ thru rs router n via = true then none else impR g nl x nx router via (rs via.toNat)

set_option maxHeartbeats 800000 in
theorem index_int (a : Option Addr) (len cap : Nat) (z : List Int) (v : Int) (w : World) (hr : IntRow w a len z) :
    Calls Try.prog 71 #[.slice a len cap, .int .i64 v] w fun e w' => e = .returned (.int .i64 (hasAt z v)) ∧ w' = w := by
  have hmost := hr.most
  unfold maxLen at hmost
  have hlen := hr.length
  unfold hasAt
  rw [hlen]
  have HC := hid hr.cell
  clear hr hlen
  go_enter Try.func71, Try.ntmps71
  go_wp2
  go_loop [8] (fun i => ∃ k : Nat, k ≤ len ∧ i = .int .i64 k ∧ ∀ j, j < k → decide (zAt z j = v) = false) (fun i => len - (intOf i).toNat)
  case atStart => exact ⟨0, Nat.zero_le _, rfl, fun j hj => absurd hj (Nat.not_lt_zero _)⟩
  case round =>
    obtain ⟨k, hk, rfl, ha⟩ := hrel
    have HA := hid ha
    clear ha
    by_cases hlt : k < len
    · obtain ⟨b, off, rfl, hc⟩ := HC.out k hlt
      have HQ : Hid (zAt z k = z[k]?.getD 0) := hid rfl
      generalize z[k]?.getD 0 = y at *
      by_cases he : y = v
      · have hq : (v == y) = true := by simp [he]
        have HE := hid (show decide (zAt z k = v) = true from decide_eq_true (by rw [HQ.out]; exact he))
        clear he
        go_wp2
        go_ret
        exact ⟨ret_int (firstAt_hit hlt HE.out HA.out).symm, rfl⟩
      · have hq : (v == y) = false := beq_eq_false_iff_ne.2 fun h => he h.symm
        have HE := hid (show decide (zAt z k = v) = false from decide_eq_false (by rw [HQ.out]; exact he))
        clear he
        go_wp2
        go_round
        case rel =>
          refine ⟨k + 1, by omega, by go_num, fun j hj => ?_⟩
          by_cases e : j = k
          · subst e; exact HE.out
          · exact HA.out j (by omega)
        case measure => simp [intOf]; omega
    · have e : k = len := by omega
      subst e
      go_wp2
      go_ret
      exact ⟨ret_int (firstAt_none HA.out).symm, rfl⟩
theorem contains_int (a : Option Addr) (len cap : Nat) (z : List Int) (v : Int) (w : World) (hr : IntRow w a len z) :
    Calls Try.prog 52 #[.slice a len cap, .int .i64 v] w fun e w' => e = .returned (.bool (decide (0 ≤ hasAt z v))) ∧ w' = w := by
  have HR := hid hr
  clear hr
  go_enter Try.func52, Try.ntmps52
  go_wp2_with fail
  refine (index_int a len cap z v _ HR.out).mono ?_
  rintro e w' ⟨rfl, hw⟩
  have hw := hw.symm
  subst hw
  go_wp2
  go_ret
  exact ⟨rfl, rfl⟩

end Go.Proofs.Ytjdeoiohbbnmeaa.sceneSem

/- The way of a packet by routes, as plain functions; of no program; conditions: none. -/
namespace Go.Proofs.Ytjdeoiohbbnmeaa.walkSem
open Go.RowKit Go.Deep base names netSem routeRow
set_option linter.unusedVariables false

def filtB (f : R) (a b port : Int) (i : Nat) : Bool := f i 0 == a && f i 1 == b && inB port (f i 2) (f i 3)
/-- A filter of a to b is for a port. -/
def filt (f : R) (m : Nat) (a b port : Int) : Bool := decide (0 ≤ firstAt (filtB f a b port) m)
theorem filt_hit {f : R} {m k : Nat} {a b port : Int} (hk : k < m) (h : filtB f a b port k = true) : filt f m a b port = true := decide_eq_true (firstAt_spec.2 ⟨k, hk, h⟩)
theorem filt_none {f : R} {m : Nat} {a b port : Int} (h : ∀ i, i < m → filtB f a b port i = false) : filt f m a b port = false := by
  unfold filt
  rw [firstAt_none h]; decide
/-- How a packet ends at a router; 0: it goes on. -/
def outAt (f : R) (m : Nat) (a via port : Int) : Int := if via = -2 then 1 else if via = -1 then 2 else if via = -3 then 3 else if filt f m a via port = true then 4 else 0
theorem out_pos (f : R) (m : Nat) (a via port : Int) : 0 ≤ outAt f m a via port ∧ outAt f m a via port ≤ 4 := by
  unfold outAt
  repeat' split
  all_goals decide
def wayR (rs : Rs) (f : R) (m : Nat) (port : Int) : Nat → Int → List Int
  | 0, _ => []
  | n + 1, a => if outAt f m a (rs a.toNat).via port = 0 then (rs a.toNat).via :: wayR rs f m port n (rs a.toNat).via else []
def wayO (rs : Rs) (f : R) (m : Nat) (port : Int) : Nat → Int → Int
  | 0, _ => 3
  | n + 1, a => if outAt f m a (rs a.toNat).via port = 0 then wayO rs f m port n (rs a.toNat).via else outAt f m a (rs a.toNat).via port
theorem way_stop {rs : Rs} {f : R} {m n : Nat} {port a : Int} (h : outAt f m a (rs a.toNat).via port ≠ 0) : wayR rs f m port (n + 1) a = [] ∧ wayO rs f m port (n + 1) a = outAt f m a (rs a.toNat).via port := by
  simp only [wayR, wayO]
  rw [if_neg h, if_neg h]
  exact ⟨rfl, rfl⟩
theorem way_go {rs : Rs} {f : R} {m n : Nat} {port a : Int} (h : outAt f m a (rs a.toNat).via port = 0) : wayR rs f m port (n + 1) a = (rs a.toNat).via :: wayR rs f m port n (rs a.toNat).via ∧ wayO rs f m port (n + 1) a = wayO rs f m port n (rs a.toNat).via := by
  simp only [wayR, wayO]
  rw [if_pos h, if_pos h]
  exact ⟨rfl, rfl⟩
theorem way_len (rs : Rs) (f : R) (m : Nat) (port : Int) : ∀ (n : Nat) (a : Int), (wayR rs f m port n a).length ≤ n := by
  intro n
  induction n with
  | zero => intro a; simp [wayR]
  | succ n ih =>
    intro a
    simp only [wayR]
    split
    · rw [List.length_cons]; have := ih (rs a.toNat).via; omega
    · simp
/-- Each Via is one that is below n, or tells an end. -/
def Viable (rs : Rs) (n : Nat) : Prop := ∀ i, i < n → -3 ≤ (rs i).via ∧ (rs i).via < n
theorem out_next {f : R} {m : Nat} {a via port : Int} (h : outAt f m a via port = 0) (hv : -3 ≤ via) : 0 ≤ via := by
  unfold outAt at h
  split at h
  · cases h
  split at h
  · cases h
  split at h
  · cases h
  omega
end Go.Proofs.Ytjdeoiohbbnmeaa.walkSem

/- When routes are right, as plain functions; of no program; conditions: none. -/
namespace Go.Proofs.Ytjdeoiohbbnmeaa.routesB
open Go.RowKit Go.Deep base names netSem routeRow walkSem
set_option linter.unusedVariables false

def noneB (r : Rt) : Bool := decide (r.via = -3) && decide (r.pref = 0) && decide (r.len = 0) && !r.mark
def routeB (g : R) (nl n : Nat) (i : Nat) (r : Rt) : Bool := inB r.via (-3) ((n : Int) - 1) && inB r.pref 0 1000 && inB r.len 0 10000 && !(decide (0 ≤ r.via) && decide (linkAt g nl (i : Int) r.via < 0)) && !(decide (r.via = -3) && !noneB r)
def routesB (g : R) (nl n rl : Nat) (rs : Rs) : Bool := decide (rl = n) && allN (fun i => routeB g nl n i (rs i)) rl
/-- As the program tells it. -/
def routeI (g : R) (nl : Nat) (i : Nat) (r : Rt) : Bool := if r.via = -3 then noneB r else (inB r.via (-2) (-1) || decide (0 ≤ linkAt g nl (i : Int) r.via)) && inB r.pref 0 1000 && inB r.len 0 10000
/-- Links are between routers. -/
def LinksIn (g : R) (nl n : Nat) : Prop := ∀ j, j < nl → 0 ≤ g j 0 ∧ g j 0 < n ∧ 0 ≤ g j 1 ∧ g j 1 < n
theorem links_in {l : Nat → Nat} {s : Ss} {g x f : R} {o e : List Int} (h : netB l s g o e x f = true) : LinksIn g (l 1) (l 0) := by
  unfold netB linksB at h
  simp only [Bool.and_eq_true, decide_eq_true_eq] at h
  obtain ⟨⟨⟨⟨⟨⟨_, _, h1⟩, _⟩, _⟩, _⟩, _⟩, _⟩ := h
  intro j hj
  have := allN_iff.1 h1 j hj
  unfold linkB inB at this
  simp only [Bool.and_eq_true, decide_eq_true_eq] at this
  omega
theorem link_in {g : R} {nl n : Nat} {a b : Int} (h : LinksIn g nl n) (hl : 0 ≤ linkAt g nl a b) : 0 ≤ b ∧ b < n := by
  obtain ⟨j, hj, hh⟩ := firstAt_spec.1 hl
  have := h j hj
  unfold hit at hh
  rw [decide_eq_true_eq] at hh
  omega
theorem route_eq {g : R} {nl n : Nat} (h : LinksIn g nl n) (i : Nat) (r : Rt) : routeB g nl n i r = routeI g nl i r := by
  unfold routeB routeI
  have hl := fun hh => link_in (a := (i : Int)) (b := r.via) h hh
  generalize linkAt g nl (i : Int) r.via = L at *
  by_cases h3 : r.via = -3
  · rw [if_pos h3, Bool.eq_iff_iff]
    simp only [noneB, inB, h3]
    simp
    intro h4 h5 h6
    omega
  · rw [if_neg h3, Bool.eq_iff_iff]
    simp [inB, h3]
    constructor
    · rintro ⟨⟨⟨h4, h5⟩, h6⟩, h7⟩
      refine ⟨⟨?_, h5⟩, h6⟩
      omega
    · rintro ⟨⟨h4, h5⟩, h6⟩
      refine ⟨⟨⟨?_, h5⟩, h6⟩, ?_⟩
      · rcases h4 with h4 | h4
        · omega
        · have := hl h4; omega
      · omega
theorem routes_viable {g : R} {nl n rl : Nat} {rs : Rs} (h : routesB g nl n rl rs = true) : rl = n ∧ Viable rs n := by
  unfold routesB at h
  simp only [Bool.and_eq_true, decide_eq_true_eq] at h
  obtain ⟨rfl, h⟩ := h
  refine ⟨rfl, fun i hi => ?_⟩
  have := allN_iff.1 h i hi
  unfold routeB inB at this
  simp only [Bool.and_eq_true, decide_eq_true_eq] at this
  omega
def downB (g : R) (nl : Nat) (ds : List Bool) (i : Nat) (r : Rt) : Bool := decide (0 ≤ linkAt g nl (i : Int) r.via) && ds[(linkAt g nl (i : Int) r.via).toNat]?.getD false
def anyDown (g : R) (nl rl : Nat) (ds : List Bool) (rs : Rs) : Bool := !allN (fun i => !downB g nl ds i (rs i)) rl
theorem down_eq {g : R} {nl n rl i : Nat} {rs : Rs} (h : routesB g nl n rl rs = true) (hin : LinksIn g nl n) (hi : i < rl) : decide (0 ≤ (rs i).via) = decide (0 ≤ linkAt g nl (i : Int) (rs i).via) := by
  unfold routesB at h
  simp only [Bool.and_eq_true, decide_eq_true_eq] at h
  have h1 := allN_iff.1 h.2 i hi
  have h2 := fun hh => link_in (a := (i : Int)) (b := (rs i).via) hin hh
  unfold routeB at h1
  generalize linkAt g nl (i : Int) (rs i).via = L at *
  simp at h1
  rw [Bool.eq_iff_iff, decide_eq_true_eq, decide_eq_true_eq]
  exact ⟨fun h3 => by omega, fun h3 => (h2 h3).1⟩
/-- The code of Forward. -/
def fwC (ok rB : Bool) (dl rl nl n : Nat) (fr port : Int) (dn : Bool) : Int := if 4096 < dl ∨ 4096 < rl then 2 else if ok = false ∨ rB = false then 1 else if dl ≠ nl ∨ inB fr 0 ((n : Int) - 1) = false ∨ inB port 0 15 = false then 5 else if dn = true then 8 else 0
end Go.Proofs.Ytjdeoiohbbnmeaa.routesB
