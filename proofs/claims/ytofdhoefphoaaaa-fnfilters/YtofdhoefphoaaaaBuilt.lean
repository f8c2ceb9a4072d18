/- Expressions that are put together: their trees, and where they lie in memory; how the program and the specification make a node; conditions: none. -/
import Derived.Test.YtofdhoefphoaaaaTrees
import Derived.Test.YtofdhoefphoaaaaDrawn
import Derived.Laws.ResultCell
import Derived.BigRegion
namespace Go.Proofs.Ytofdhoefphoaaaa.built
open Go.RowKit Go.Deep base trees
set_option linter.unusedVariables false

/-- A block of q that was there ahead of B, or a newer one whose first cell is not the number 0: no variable that was just made. -/
def Nz (q : Nat → Prop) (B : Nat) (w : World) (b : Nat) : Prop := (q b ∧ b < B) ∨ (B ≤ b ∧ ∃ v, w.cell? ⟨b, 0, none⟩ = some v ∧ v ≠ .int .i64 0)
/-- A value that is an expression: its tree lies in memory, in no variable that was just made. -/
def TV (q : Nat → Prop) (B : Nat) (w : World) (D : Nat) (t : T) (v : Value) : Prop := ∃ a l c, v = .agg #[.int .i64 (kd t), .int .i64 (nn t), .slice a l c] ∧ Rd (Nz q B w) 1048576 w D t a l
/-- A value that is an expression, wherever it lies. -/
def XV (q : Nat → Prop) (w : World) (D : Nat) (t : T) (v : Value) : Prop := ∃ a l c, Rd q 1048576 w D t a l ∧ v = .agg #[.int .i64 (kd t), .int .i64 (nn t), .slice a l c]
theorem XV.below {q : Nat → Prop} {w w' : World} {D : Nat} {t : T} {v : Value} (h : XV q w D t v) (hb : Below w.heap.size w w') : XV q w' D t v := by
  obtain ⟨a, l, c, r, e⟩ := h
  exact ⟨a, l, c, r.below hb, e⟩
/-- A value that is a row of expressions which was made just so. -/
def RV (q : Nat → Prop) (B : Nat) (w : World) (D : Nat) (t : T) (l : Nat) (v : Value) : Prop := ∃ N, v = .slice (some ⟨N, 0, none⟩) l l ∧ Rd (Nz q B w) 1048576 w D t (some ⟨N, 0, none⟩) l
/-- A value that is the address of a variable that was just made. -/
def PV (B : Nat) (w : World) (v : Value) : Prop := ∃ N, v = .pointer (some ⟨N, 0, none⟩) ∧ B ≤ N ∧ (w.cell? ⟨N, 0, none⟩ = some (.int .i64 0) ∧ w.cell? ⟨N, 1, none⟩ = some (.int .i64 0) ∧ w.cell? ⟨N, 2, none⟩ = some (.slice none 0 0)) ∧ w.frozen? ⟨N, 0, none⟩ = false ∧ w.frozen? ⟨N, 1, none⟩ = false ∧ w.frozen? ⟨N, 2, none⟩ = false
theorem nz_below {q : Nat → Prop} {B : Nat} {w w' : World} {M D : Nat} {t : T} {a : Option Addr} {l : Nat} (h : Rd (Nz q B w) M w D t a l) (hb : Below w.heap.size w w') : Rd (Nz q B w') M w' D t a l :=
  h.kept fun b o v hq hc => ⟨keep hb hc, hq.imp id fun ⟨h0, x, hx, hn⟩ => ⟨h0, x, keep hb hx, hn⟩⟩
theorem rd_old {q : Nat → Prop} {w : World} {M D : Nat} {t : T} {a : Option Addr} {l : Nat} (h : Rd q M w D t a l) : Rd (fun b => q b ∧ b < w.heap.size) M w D t a l := h.kept fun b o v hq hc => ⟨hc, hq, World.block_lt_of_cell? _ _ hc⟩
theorem nz_base {q : Nat → Prop} {B : Nat} {w w' : World} {M D : Nat} {t : T} {a : Option Addr} {l : Nat} (h : Rd (fun b => q b ∧ b < B) M w D t a l) (hb : Below w.heap.size w w') : Rd (Nz q B w') M w' D t a l := (h.below hb).imp fun b hb => .inl hb
/-- It lies in none of the variables whose first cell is 0. -/
theorem nz_not {q : Nat → Prop} {B : Nat} {w : World} {M D : Nat} {t : T} {a : Option Addr} {l R : Nat} (h : Rd (Nz q B w) M w D t a l) (hB : B ≤ R) (hc : w.cell? ⟨R, 0, none⟩ = some (.int .i64 0)) : Rd (fun b => (q b ∨ B ≤ b) ∧ b ≠ R) M w D t a l :=
  h.imp fun b hq => by
    rcases hq with ⟨h1, h2⟩ | ⟨h1, v, hv, hn⟩
    · exact ⟨.inl h1, by omega⟩
    · refine ⟨.inr h1, fun e => ?_⟩
      subst e
      rw [hc] at hv; exact hn (Option.some.inj hv).symm
theorem TV.below {q : Nat → Prop} {B : Nat} {w w' : World} {D : Nat} {t : T} {v : Value} (h : TV q B w D t v) (hb : Below w.heap.size w w') : TV q B w' D t v := by
  obtain ⟨a, l, c, e, r⟩ := h
  exact ⟨a, l, c, e, nz_below r hb⟩
theorem RV.below {q : Nat → Prop} {B : Nat} {w w' : World} {D l : Nat} {t : T} {v : Value} (h : RV q B w D t l v) (hb : Below w.heap.size w w') : RV q B w' D t l v := by
  obtain ⟨N, e, r⟩ := h
  exact ⟨N, e, nz_below r hb⟩
theorem PV.below {B : Nat} {w w' : World} {v : Value} (h : PV B w v) (hb : Below w.heap.size w w') : PV B w' v := by
  obtain ⟨N, e, hB, ⟨h0, h1, h2⟩, g0, g1, g2⟩ := h
  have hl := World.block_lt_of_cell? _ _ h0
  exact ⟨N, e, hB, ⟨keep hb h0, keep hb h1, keep hb h2⟩, (hb.frozen (p := ⟨N, 0, none⟩) hl).trans g0, (hb.frozen (p := ⟨N, 1, none⟩) hl).trans g1, (hb.frozen (p := ⟨N, 2, none⟩) hl).trans g2⟩
theorem TV.more {q : Nat → Prop} {B : Nat} {w : World} {D D' : Nat} {t : T} {v : Value} (h : TV q B w D t v) (hd : D ≤ D') : TV q B w D' t v := by
  obtain ⟨a, l, c, e, r⟩ := h
  exact ⟨a, l, c, e, r.more hd⟩

def ndT (k : Int) (l : Nat) (f : Nat → T) : T := mkT k 0 l f
theorem nd_kind {k : Int} {l : Nat} {f : Nat → T} (h : k ≠ 0) : kd (ndT k l f) ≠ 0 := h
def cT (n : Int) : T := mkT 2 n 0 fun _ _ => (0, 0, 0)
def one (x : T) : Nat → T := fun _ => x
def two (x y : T) : Nat → T := fun i => if i = 0 then x else y
def three (x y z : T) : Nat → T := fun i => if i = 0 then x else if i = 1 then y else z

variable {B : Nat} {q : Nat → Prop} {w : World} {D : Nat} {x y z : T} {ax ay az : Option Addr} {lx ly lz cx cy cz : Nat}
theorem cell_new (w : World) (cs : Array Value) (t : TypeId) {i : Nat} {v : Value} (h : cs[i]? = some v) : (w.alloc (.cells cs t)).cell? ⟨w.heap.size, i, none⟩ = some v := by
  simp [go_sem, h]
theorem nz_new (q : Nat → Prop) {B : Nat} (w : World) (hB : B ≤ w.heap.size) (cs : Array Value) (t : TypeId) {k : Int} (h : cs[0]? = some (.int .i64 k)) (hk : k ≠ 0) : Nz q B (w.alloc (.cells cs t)) w.heap.size :=
  .inr ⟨hB, _, cell_new w cs t h, fun e => hk (by injection e)⟩
theorem row1 (k : Int) (hB : B ≤ w.heap.size) (hk : kd x ≠ 0) (hx : Rd (Nz q B w) 1048576 w D x ax lx) :
    Rd (Nz q B (w.alloc (.cells #[.int .i64 (kd x), .int .i64 (nn x), .slice ax lx cx] 33))) 1048576 (w.alloc (.cells #[.int .i64 (kd x), .int .i64 (nn x), .slice ax lx cx] 33)) (D + 1) (ndT k 1 (one x)) (some ⟨w.heap.size, 0, none⟩) 1 := by
  refine ⟨rfl, by omega, fun i hi => ?_⟩
  obtain rfl : i = 0 := by omega
  exact ⟨w.heap.size, 0, rfl, nz_new q w hB _ 33 (k := kd x) rfl hk, cell_new _ _ _ rfl, cell_new _ _ _ rfl, ax, lx, cx, cell_new _ _ _ rfl, nz_below hx (by repeat (first | exact Below.refl _ _ | assumption | refine Below.drew ?_ | refine Below.alloc ?_ (by first | exact Nat.le_refl _ | omega | (simp; done) | (simp; omega)) _ | refine Below.setCell ?_ (by first | exact Nat.le_refl _ | omega | (simp; done) | (simp; omega)) _))⟩
theorem row2 (k : Int) (hB : B ≤ w.heap.size) (hk : kd x ≠ 0) (hx : Rd (Nz q B w) 1048576 w D x ax lx) (hy : Rd (Nz q B w) 1048576 w D y ay ly) :
    Rd (Nz q B (w.alloc (.cells #[.int .i64 (kd x), .int .i64 (nn x), .slice ax lx cx, .int .i64 (kd y), .int .i64 (nn y), .slice ay ly cy] 33))) 1048576 (w.alloc (.cells #[.int .i64 (kd x), .int .i64 (nn x), .slice ax lx cx, .int .i64 (kd y), .int .i64 (nn y), .slice ay ly cy] 33)) (D + 1) (ndT k 2 (two x y)) (some ⟨w.heap.size, 0, none⟩) 2 := by
  refine ⟨rfl, by omega, fun i hi => ?_⟩
  obtain rfl | rfl : i = 0 ∨ i = 1 := by omega
  · exact ⟨w.heap.size, 0, rfl, nz_new q w hB _ 33 (k := kd x) rfl hk, cell_new _ _ _ rfl, cell_new _ _ _ rfl, ax, lx, cx, cell_new _ _ _ rfl, nz_below hx (by repeat (first | exact Below.refl _ _ | assumption | refine Below.drew ?_ | refine Below.alloc ?_ (by first | exact Nat.le_refl _ | omega | (simp; done) | (simp; omega)) _ | refine Below.setCell ?_ (by first | exact Nat.le_refl _ | omega | (simp; done) | (simp; omega)) _))⟩
  · exact ⟨w.heap.size, 0, rfl, nz_new q w hB _ 33 (k := kd x) rfl hk, cell_new _ _ _ rfl, cell_new _ _ _ rfl, ay, ly, cy, cell_new _ _ _ rfl, nz_below hy (by repeat (first | exact Below.refl _ _ | assumption | refine Below.drew ?_ | refine Below.alloc ?_ (by first | exact Nat.le_refl _ | omega | (simp; done) | (simp; omega)) _ | refine Below.setCell ?_ (by first | exact Nat.le_refl _ | omega | (simp; done) | (simp; omega)) _))⟩
theorem row3 (k : Int) (hB : B ≤ w.heap.size) (hk : kd x ≠ 0) (hx : Rd (Nz q B w) 1048576 w D x ax lx) (hy : Rd (Nz q B w) 1048576 w D y ay ly) (hz : Rd (Nz q B w) 1048576 w D z az lz) :
    Rd (Nz q B (w.alloc (.cells #[.int .i64 (kd x), .int .i64 (nn x), .slice ax lx cx, .int .i64 (kd y), .int .i64 (nn y), .slice ay ly cy, .int .i64 (kd z), .int .i64 (nn z), .slice az lz cz] 33))) 1048576 (w.alloc (.cells #[.int .i64 (kd x), .int .i64 (nn x), .slice ax lx cx, .int .i64 (kd y), .int .i64 (nn y), .slice ay ly cy, .int .i64 (kd z), .int .i64 (nn z), .slice az lz cz] 33)) (D + 1) (ndT k 3 (three x y z)) (some ⟨w.heap.size, 0, none⟩) 3 := by
  refine ⟨rfl, by omega, fun i hi => ?_⟩
  obtain rfl | rfl | rfl : i = 0 ∨ i = 1 ∨ i = 2 := by omega
  · exact ⟨w.heap.size, 0, rfl, nz_new q w hB _ 33 (k := kd x) rfl hk, cell_new _ _ _ rfl, cell_new _ _ _ rfl, ax, lx, cx, cell_new _ _ _ rfl, nz_below hx (by repeat (first | exact Below.refl _ _ | assumption | refine Below.drew ?_ | refine Below.alloc ?_ (by first | exact Nat.le_refl _ | omega | (simp; done) | (simp; omega)) _ | refine Below.setCell ?_ (by first | exact Nat.le_refl _ | omega | (simp; done) | (simp; omega)) _))⟩
  · exact ⟨w.heap.size, 0, rfl, nz_new q w hB _ 33 (k := kd x) rfl hk, cell_new _ _ _ rfl, cell_new _ _ _ rfl, ay, ly, cy, cell_new _ _ _ rfl, nz_below hy (by repeat (first | exact Below.refl _ _ | assumption | refine Below.drew ?_ | refine Below.alloc ?_ (by first | exact Nat.le_refl _ | omega | (simp; done) | (simp; omega)) _ | refine Below.setCell ?_ (by first | exact Nat.le_refl _ | omega | (simp; done) | (simp; omega)) _))⟩
  · exact ⟨w.heap.size, 0, rfl, nz_new q w hB _ 33 (k := kd x) rfl hk, cell_new _ _ _ rfl, cell_new _ _ _ rfl, az, lz, cz, cell_new _ _ _ rfl, nz_below hz (by repeat (first | exact Below.refl _ _ | assumption | refine Below.drew ?_ | refine Below.alloc ?_ (by first | exact Nat.le_refl _ | omega | (simp; done) | (simp; omega)) _ | refine Below.setCell ?_ (by first | exact Nat.le_refl _ | omega | (simp; done) | (simp; omega)) _))⟩
theorem rd_const (q : Nat → Prop) (w : World) (D : Nat) (n : Int) : Rd q 1048576 w D (cT n) none 0 := by
  cases D with
  | zero => exact ⟨rfl, rfl⟩
  | succ D => exact ⟨rfl, by omega, fun i hi => by omega⟩

/-- Three cells of one block are written. -/
theorem below_set3 {N : Nat} {W w : World} (h : Below N W w) {R : Nat} (hR : N ≤ R) (v0 v1 v2 : Value) : Below N W (((w.setCell ⟨R, 0, none⟩ v0).setCell ⟨R, 1, none⟩ v1).setCell ⟨R, 2, none⟩ v2) :=
  ((h.setCell hR _).setCell hR _).setCell hR _
theorem set3_cells {w : World} {R : Nat} {x0 x1 x2 : Value} (h0 : w.cell? ⟨R, 0, none⟩ = some x0) (h1 : w.cell? ⟨R, 1, none⟩ = some x1) (h2 : w.cell? ⟨R, 2, none⟩ = some x2) (v0 v1 v2 : Value) :
    (((w.setCell ⟨R, 0, none⟩ v0).setCell ⟨R, 1, none⟩ v1).setCell ⟨R, 2, none⟩ v2).cell? ⟨R, 0, none⟩ = some v0 ∧ (((w.setCell ⟨R, 0, none⟩ v0).setCell ⟨R, 1, none⟩ v1).setCell ⟨R, 2, none⟩ v2).cell? ⟨R, 1, none⟩ = some v1 ∧ (((w.setCell ⟨R, 0, none⟩ v0).setCell ⟨R, 1, none⟩ v1).setCell ⟨R, 2, none⟩ v2).cell? ⟨R, 2, none⟩ = some v2 := by
  refine ⟨?_, ?_, ?_⟩ <;> simp [go_sem, h0, h1, h2]
theorem set3_far (w : World) {R b : Nat} (hb : b ≠ R) (o : Nat) (v0 v1 v2 : Value) : (((w.setCell ⟨R, 0, none⟩ v0).setCell ⟨R, 1, none⟩ v1).setCell ⟨R, 2, none⟩ v2).cell? ⟨b, o, none⟩ = w.cell? ⟨b, o, none⟩ := by
  rw [World.cell?_setCell_other _ _ _ _ (by intro e; cases e; exact hb rfl), World.cell?_setCell_other _ _ _ _ (by intro e; cases e; exact hb rfl), World.cell?_setCell_other _ _ _ _ (by intro e; cases e; exact hb rfl)]
theorem set3_froz (w : World) (R : Nat) (p : Addr) (v0 v1 v2 : Value) : (((w.setCell ⟨R, 0, none⟩ v0).setCell ⟨R, 1, none⟩ v1).setCell ⟨R, 2, none⟩ v2).frozen? p = w.frozen? p := by
  rw [World.frozen?_setCell, World.frozen?_setCell, World.frozen?_setCell]
theorem rd_set3 {M : Nat} {t : T} {a : Option Addr} {l : Nat} (h : Rd q M w D t a l) {R : Nat} (hR : ¬ q R) (v0 v1 v2 : Value) : Rd q M (((w.setCell ⟨R, 0, none⟩ v0).setCell ⟨R, 1, none⟩ v1).setCell ⟨R, 2, none⟩ v2) D t a l :=
  ((h.set hR _).set hR _).set hR _

theorem nz_set3 {M : Nat} {t : T} {a : Option Addr} {l R : Nat} (h : Rd (Nz q B w) M w D t a l) (hB : B ≤ R) (hc : w.cell? ⟨R, 0, none⟩ = some (.int .i64 0)) (v0 v1 v2 : Value) :
    Rd (Nz q B (((w.setCell ⟨R, 0, none⟩ v0).setCell ⟨R, 1, none⟩ v1).setCell ⟨R, 2, none⟩ v2)) M (((w.setCell ⟨R, 0, none⟩ v0).setCell ⟨R, 1, none⟩ v1).setCell ⟨R, 2, none⟩ v2) D t a l :=
  h.kept fun b o v hq hv => by
    have hne : b ≠ R := by
      intro e
      subst e
      rcases hq with ⟨_, h2⟩ | ⟨_, x, hx, hn⟩
      · omega
      · rw [hc] at hx; exact hn (Option.some.inj hx).symm
    exact ⟨(set3_far _ hne _ _ _ _).trans hv, hq.imp id fun ⟨h0, x, hx, hn⟩ => ⟨h0, x, (set3_far _ hne _ _ _ _).trans hx, hn⟩⟩

set_option maxHeartbeats 400000 in
theorem new_impl (k : Int) (a : Option Addr) (l c : Nat) (w : World) :
    Calls Try.prog 16 #[.int .i64 k, .slice a l c] w fun e w' => e = .returned (.agg #[.int .i64 k, .int .i64 0, .slice a l c]) ∧ Below w.heap.size w w' := by
  go_enter Try.func16, Try.ntmps16
  go_wp2
  refine bodyPost_ret (v := .agg #[.int .i64 k, .int .i64 0, .slice a l c]) (by simp [results, Try.results16, go_sem]) rfl ⟨rfl, (by repeat (first | exact Below.refl _ _ | assumption | refine Below.drew ?_ | refine Below.alloc ?_ (by first | exact Nat.le_refl _ | omega | (simp; done) | (simp; omega)) _ | refine Below.setCell ?_ (by first | exact Nat.le_refl _ | omega | (simp; done) | (simp; omega)) _))⟩
set_option maxHeartbeats 400000 in
theorem new_spec (k : Int) (a : Option Addr) (l c : Nat) (w : World) :
    Calls Try.prog 45 #[.int .i64 k, .slice a l c] w fun e w' => e = .returned (.agg #[.int .i64 k, .int .i64 0, .slice a l c]) ∧ Below w.heap.size w w' := by
  go_enter Try.func45, Try.ntmps45
  go_wp2
  refine bodyPost_ret (v := .agg #[.int .i64 k, .int .i64 0, .slice a l c]) (by simp [results, Try.results45, go_sem]) rfl ⟨rfl, (by repeat (first | exact Below.refl _ _ | assumption | refine Below.drew ?_ | refine Below.alloc ?_ (by first | exact Nat.le_refl _ | omega | (simp; done) | (simp; omega)) _ | refine Below.setCell ?_ (by first | exact Nat.le_refl _ | omega | (simp; done) | (simp; omega)) _))⟩
set_option maxHeartbeats 400000 in
theorem const_impl (n : Int) (w : World) :
    Calls Try.prog 15 #[.int .i64 n] w fun e w' => e = .returned (.agg #[.int .i64 2, .int .i64 n, .slice none 0 0]) ∧ Below w.heap.size w w' := by
  go_enter Try.func15, Try.ntmps15
  go_wp2
  refine bodyPost_ret (v := .agg #[.int .i64 2, .int .i64 n, .slice none 0 0]) (by simp [results, Try.results15, go_sem]) rfl ⟨rfl, (by repeat (first | exact Below.refl _ _ | assumption | refine Below.drew ?_ | refine Below.alloc ?_ (by first | exact Nat.le_refl _ | omega | (simp; done) | (simp; omega)) _ | refine Below.setCell ?_ (by first | exact Nat.le_refl _ | omega | (simp; done) | (simp; omega)) _))⟩
set_option maxHeartbeats 400000 in
theorem const_spec (n : Int) (w : World) :
    Calls Try.prog 44 #[.int .i64 n] w fun e w' => e = .returned (.agg #[.int .i64 2, .int .i64 n, .slice none 0 0]) ∧ Below w.heap.size w w' := by
  go_enter Try.func44, Try.ntmps44
  go_wp2
  refine bodyPost_ret (v := .agg #[.int .i64 2, .int .i64 n, .slice none 0 0]) (by simp [results, Try.results44, go_sem]) rfl ⟨rfl, (by repeat (first | exact Below.refl _ _ | assumption | refine Below.drew ?_ | refine Below.alloc ?_ (by first | exact Nat.le_refl _ | omega | (simp; done) | (simp; omega)) _ | refine Below.setCell ?_ (by first | exact Nat.le_refl _ | omega | (simp; done) | (simp; omega)) _))⟩
end Go.Proofs.Ytofdhoefphoaaaa.built
