import Derived.Test.YtaioffpkadmmhaaGreatPart40
import Derived.Test.YtaioffpkadmmhaaGreatCollImpl
import Derived.Test.YtaioffpkadmmhaaGreatPart25
import Derived.Test.YtaioffpkadmmhaaGreatPart28
namespace Go.Proofs.YtaioffpkadmmhaaGreat.staFace
open Go.RowKit Go.Deep Go.Shelf Go base copy names netSem netImpl netParts netFace netOKImpl routeRow routesB routesImpl nbSem candSem candImp hopSem intsOwn hopMake hopBetween sceneSem sceneBy sceneNew sceneFault sceneFace candEnv candFace noRts bestAll stabImpl stabFace rtsRow prodSem rofSem rofImpl rofSpec ssSem rRows staSpec stateSeq collImpl
set_option linter.unusedVariables false
theorem scene_code {ok : Bool} {el dl l3 l1 : Nat} {env : List Int} : (if 4096 < el ∨ 4096 < dl ∨ 4096 < 0 then 2 else arC ok el dl l3 l1 env) = envC ok el dl l3 l1 env := by
 unfold envC arC
 by_cases h1 : 4096 < el ∨ 4096 < dl
 · rw [if_pos (by omega), if_pos h1]
 · rw [if_neg (by omega), if_neg h1]
theorem env_zero {ok : Bool} {el dl l3 l1 : Nat} {env : List Int} (h : envC ok el dl l3 l1 env = 0) : ok = true ∧ el = l3 ∧ dl = l1 ∧ ∀ i, i < el → 0 ≤ zAt env i := by
 obtain ⟨h1, _, h2⟩ := rt_zero (ok := ok) (rb := true) (el := el) (dl := dl) (rl := 0) (l3 := l3) (l1 := l1) (env := env) (by rw [env_code (by omega), h, if_pos rfl, if_pos rfl])
 exact ⟨h1, h2⟩
def ssL (D : Int) (g : R) (nl : Nat) (o e : List Int) (x : R) (nx : Nat) (env : List Int) (ds : List Bool) (n : Nat) : List (List Rt) := if D = 0 then statesL g nl o e x nx env ds n (prod (fun i : Nat => optL g nl o e env ds n (i : Int)) n) else []
theorem rr_nil (B : Nat) (w : World) : OwnRR B w (.slice none 0 0) [] := ⟨World.ownsRow_nil w B 40 1, fun p hp => (by cases hp), List.Pairwise.nil⟩
theorem rr_of {B n : Nat} {w : World} {v : Value} {S : List Int → Rs} (hn : n ≤ maxLen) (ys : List (Nat × List Int)) (ho : w.ownsRow B 40 1 v ys.length (ys.map (slV n))) (hl : ∀ y ∈ ys, RtLaid w y.1 n n (S y.2) ∧ B ≤ y.1) (hp : ys.Pairwise fun y z => y.1 ≠ z.1) : OwnRR B w v (ys.map fun y => ((y.1, n), (List.range n).map (S y.2))) := by
 have hs : ∀ y : Nat × List Int, rvR ((y.1, n), (List.range n).map (S y.2)) = slV n y := fun y => by
  unfold rvR slV
  simp
 refine ⟨?_, fun q hq => ?_, ?_⟩
 · rw [List.length_map, List.map_map]
   have : ys.map (rvR ∘ fun y => ((y.1, n), (List.range n).map (S y.2))) = ys.map (slV n) := List.map_congr_left fun y _ => hs y
   rw [this]
   exact ho
 · obtain ⟨y, hy, rfl⟩ := List.mem_map.1 hq
   rw [hs]
   exact own_laid (hl y hy).1 (Nat.le_refl _) hn (hl y hy).2
 · exact List.pairwise_map.2 hp
set_option maxHeartbeats 3200000 in
set_option maxRecDepth 8000 in
theorem ss_impl (p : Nat → Option Addr) (l c : Nat → Nat) (s : Ss) (g : R) (o e : List Int) (x f : R) (ea da : Option Addr) (el ec dl dc : Nat) (env : List Int) (ds : List Bool) (w : World) (h : NetIs w p l s g o e x f) (hc0 : l 0 ≤ c 0) (hc1 : l 1 ≤ c 1) (he : IntRow w ea el env) (hd : BoolRow w da dl ds) :
  Calls Tryz.prog 9 #[netV p l c, .slice ea el ec, .slice da dl dc] w fun e' w' => ∃ v ps, e' = .returned (.tuple #[v, .int .i64 (envC (netB l s g o e x f) el dl (l 3) (l 1) env)]) ∧ OwnRR w.heap.size w' v ps ∧ ps.map Prod.snd = ssL (envC (netB l s g o e x f) el dl (l 3) (l 1) env) g (l 1) o e x (l 4) env ds (l 0) ∧ Below w.heap.size w w' := by
 have HF : Hid (∀ (W : World) (hb : Below w.heap.size w W), Calls Tryz.prog 23 #[netV p l c, .slice ea el ec, .slice da dl dc, .int .i64 0] W fun e' w' => e' = .returned (.int .i64 (envC (netB l s g o e x f) el dl (l 3) (l 1) env)) ∧ Below W.heap.size W w') := hid (fun W hb => by
  have h9 := scene_fault p l c s g o e x f ea da el ec dl dc 0 env W (h.below hb) hc0 hc1 (he.below hb) hd.most (Nat.zero_le _)
  rw [scene_code] at h9
  exact h9)
 have HN := hid h
 have HE := hid he
 have HD := hid hd
 clear h he hd hc0 hc1
 obtain ⟨ok, hok⟩ : ∃ b, netB l s g o e x f = b := ⟨_, rfl⟩
 have HOK := hid hok
 rw [hok]
 simp only [hok] at HF
 clear hok
 obtain ⟨D, hD⟩ : ∃ D, envC ok el dl (l 3) (l 1) env = D := ⟨_, rfl⟩
 have HDD := hid hD
 simp only [hD] at HF
 rw [hD]
 clear hD
 have C1 : ∀ w8 : World, Below ((w.alloc (.cells #[.slice (p 0) (l 0) (c 0), .slice (p 1) (l 1) (c 1), .slice (p 2) (l 2) (c 2), .slice (p 3) (l 3) (c 3), .slice (p 4) (l 4) (c 4), .slice (p 5) (l 5) (c 5)] 29))).heap.size (w.alloc (.cells #[.slice (p 0) (l 0) (c 0), .slice (p 1) (l 1) (c 1), .slice (p 2) (l 2) (c 2), .slice (p 3) (l 3) (c 3), .slice (p 4) (l 4) (c 4), .slice (p 5) (l 5) (c 5)] 29)) w8 → (w8.cell? ⟨w.heap.size, 0, none⟩ = some (.slice (p 0) (l 0) (c 0)) ∧ w8.cell? ⟨w.heap.size, 1, none⟩ = some (.slice (p 1) (l 1) (c 1)) ∧ w8.cell? ⟨w.heap.size, 2, none⟩ = some (.slice (p 2) (l 2) (c 2)) ∧ w8.cell? ⟨w.heap.size, 3, none⟩ = some (.slice (p 3) (l 3) (c 3)) ∧ w8.cell? ⟨w.heap.size, 4, none⟩ = some (.slice (p 4) (l 4) (c 4)) ∧ w8.cell? ⟨w.heap.size, 5, none⟩ = some (.slice (p 5) (l 5) (c 5))) ∧ Below w.heap.size w w8 :=
  fun w8 hb => ⟨⟨keep hb (by simp [go_sem]), keep hb (by simp [go_sem]), keep hb (by simp [go_sem]), keep hb (by simp [go_sem]), keep hb (by simp [go_sem]), keep hb (by simp [go_sem])⟩, (show Below w.heap.size w _ from (by repeat (first | exact Below.refl _ _ | assumption | refine Below.drew ?_ | refine Below.alloc ?_ (by first | exact Nat.le_refl _ | omega | (simp; done) | (simp; omega)) _ | refine Below.setCell ?_ (by first | exact Nat.le_refl _ | omega | (simp; done) | (simp; omega)) _))).trans (hb.mono (by simp))⟩
 have HC1 := hid C1
 clear C1
 unfold netV at HF ⊢
 go_enter Tryz.func9, Tryz.ntmps9
 go_wp2_with fail
 refine (HF.out _ (by repeat (first | exact Below.refl _ _ | assumption | refine Below.drew ?_ | refine Below.alloc ?_ (by first | exact Nat.le_refl _ | omega | (simp; done) | (simp; omega)) _ | refine Below.setCell ?_ (by first | exact Nat.le_refl _ | omega | (simp; done) | (simp; omega)) _))).mono ?_
 rintro e' w1 ⟨rfl, hb1⟩
 obtain ⟨⟨q0, q1, q2, q3, q4, q5⟩, hB⟩ := HC1.out _ hb1
 have B1 := hid hB
 have hz1 : w.heap.size < w1.heap.size := by have := hb1.size; simp at this; omega
 clear hb1 hB
 by_cases h0 : D = 0
 case neg =>
  have d1 : (D != 0) = true := by simp [h0]
  have HSL : Hid ([] = ssL D g (l 1) o e x (l 4) env ds (l 0)) := hid (by unfold ssL; rw [if_neg h0])
  clear h0
  go_wp2
  go_ret2
  exact ⟨_, [], rfl, rr_nil _ _, HSL.out, B1.out⟩
 have HSL : Hid (statesL g (l 1) o e x (l 4) env ds (l 0) (prod (fun i : Nat => optL g (l 1) o e env ds (l 0) (i : Int)) (l 0)) = ssL D g (l 1) o e x (l 4) env ds (l 0)) := hid (by unfold ssL; rw [if_pos h0])
 subst h0
 obtain ⟨f1, f3, f4, f5⟩ := env_zero HDD.out
 subst f1
 obtain ⟨n4, n12, nl, ni⟩ := net_links HOK.out
 have hgi := fun j hj => (link_facts (nl j hj) n4).1
 have hn1 : 1 ≤ l 0 := one_router HOK.out
 have HEn : Hid (∀ i, 0 ≤ zAt env i) := hid (fun i => by
  by_cases hi : i < el
  · exact f5 i hi
  · have hl := HE.out.length
    unfold zAt
    rw [List.getElem?_eq_none (by omega)]
    exact Int.le_refl _)
 have HNew := hid (new_impl0 p l c s g o e x f ea da el ec dl dc env ds w1 (HN.out.below B1.out) (HE.out.below B1.out) (HD.out.below B1.out) f3 f4 hgi (fun i h => (import_facts (ni i h) hgi).1) n12)
 have HFine : Hid (Fine (l 0) l g x) := hid ⟨n4, fun i hi => (link_facts (nl i hi) n4).2.1, fun i hi => (link_facts (nl i hi) n4).2.2, fun i h => (import_facts (ni i h) hgi).2⟩
 have hm4 : l 0 ≤ maxLen := by unfold maxLen; omega
 clear f3 f4 f5 n12 nl ni hgi HF
 unfold netV at HNew
 go_wp2_with fail
 refine HNew.out.mono ?_
 rintro e' w3 ⟨sb, b, F, rfl, hF0, hb3, hs3, hB3⟩
 have HS3 := hid hs3
 have HB3 := hid hB3
 have HF0 := hid hF0
 have hz3 := hB3.size
 have hbw3 : b < w3.heap.size := by rcases hs3.ready with ⟨h1, _⟩ | ⟨V, F', hm⟩; exact h1.lt; exact hm.row.lt
 clear hs3 hB3 hF0
 go_wp2_with fail
 refine (states_impl sb w3).mono ?_
 rintro e' w4 ⟨rfl, hw4⟩
 have HB4 : Hid (Below w3.heap.size w3 w4) := hid (by rw [hw4]; exact (by repeat (first | exact Below.refl _ _ | assumption | refine Below.drew ?_ | refine Below.alloc ?_ (by first | exact Nat.le_refl _ | omega | (simp; done) | (simp; omega)) _ | refine Below.setCell ?_ (by first | exact Nat.le_refl _ | omega | (simp; done) | (simp; omega)) _)))
 have HBx : Hid (Boxed w4 w3.heap.size 63 (.pointer (some ⟨sb, 0, none⟩))) := hid (by rw [hw4]; exact heap_alloc_new w3 _)
 clear hw4
 go_wp2_with fail
 refine (collect_impl (l 0) w3.heap.size (HS3.out.below HB4.out) HF0.out HFine.out rfl hn1 HEn.out HBx.out (by omega)).mono ?_
 rintro e' w5 ⟨v, ys, rfl, hys, how, hly, hpw, hg5⟩
 have HA := hid (B1.out.trans ((HB3.out.trans (HB4.out.mono hz3)).mono B1.out.size))
 have HBel : Hid (Below w.heap.size w w5) := hid (by
  have hA := HA.out
  have h7 := hA.size
  have h6 := B1.out.size
  exact { os := hg5.os.trans hA.os, tape := hg5.tape.trans hA.tape, output := hg5.output.trans hA.output, size := Nat.le_trans hA.size hg5.size, block := fun j hj => (hg5.block j (by omega) (fun e => by injection e with e; omega)).trans (hA.block j hj) })
 have HOw := hid ((rr_of (S := fun vs => valR g (l 1) o e x (l 4) env ds vs (l 0)) hm4 ys how hly hpw).mono HA.out.size)
 have HSe : Hid ((ys.map fun y => ((y.1, l 0), (List.range (l 0)).map (valR g (l 1) o e x (l 4) env ds y.2 (l 0)))).map Prod.snd = ssL 0 g (l 1) o e x (l 4) env ds (l 0)) := hid (by
  rw [← HSL.out, states_same HEn.out hn1]
  unfold statesL
  rw [← hys, List.map_map, List.map_map]
  rfl)
 clear hys how hly hpw hg5
 go_wp2
 go_ret2
 exact ⟨_, _, rfl, HOw.out, HSe.out, HBel.out⟩
set_option maxHeartbeats 3200000 in
set_option maxRecDepth 8000 in
theorem ss_spec (p : Nat → Option Addr) (l c : Nat → Nat) (s : Ss) (g : R) (o e : List Int) (x f : R) (ea da : Option Addr) (el ec dl dc : Nat) (env : List Int) (ds : List Bool) (w : World) (h : NetIs w p l s g o e x f) (hc0 : l 0 ≤ c 0) (hc1 : l 1 ≤ c 1) (he : IntRow w ea el env) (hd : BoolRow w da dl ds) :
  Calls Tryz.prog 10 #[netV p l c, .slice ea el ec, .slice da dl dc] w fun e' w' => ∃ v ps, e' = .returned (.tuple #[v, .int .i64 (envC (netB l s g o e x f) el dl (l 3) (l 1) env)]) ∧ OwnRR w.heap.size w' v ps ∧ ps.map Prod.snd = ssL (envC (netB l s g o e x f) el dl (l 3) (l 1) env) g (l 1) o e x (l 4) env ds (l 0) ∧ Below w.heap.size w w' := by
 have HF := hid (fun (W : World) (hb : Below w.heap.size w W) => env_spec p l c s g o e x f ea da el ec dl dc env W (h.below hb) hc0 hc1 (he.below hb) hd.most)
 have HN := hid h
 have HE := hid he
 have HD := hid hd
 clear h he hd hc0 hc1
 obtain ⟨ok, hok⟩ : ∃ b, netB l s g o e x f = b := ⟨_, rfl⟩
 have HOK := hid hok
 rw [hok]
 simp only [hok] at HF
 clear hok
 obtain ⟨D, hD⟩ : ∃ D, envC ok el dl (l 3) (l 1) env = D := ⟨_, rfl⟩
 have HDD := hid hD
 simp only [hD] at HF
 rw [hD]
 clear hD
 have C1 : ∀ w8 : World, Below ((w.alloc (.cells #[.slice (p 0) (l 0) (c 0), .slice (p 1) (l 1) (c 1), .slice (p 2) (l 2) (c 2), .slice (p 3) (l 3) (c 3), .slice (p 4) (l 4) (c 4), .slice (p 5) (l 5) (c 5)] 29))).heap.size (w.alloc (.cells #[.slice (p 0) (l 0) (c 0), .slice (p 1) (l 1) (c 1), .slice (p 2) (l 2) (c 2), .slice (p 3) (l 3) (c 3), .slice (p 4) (l 4) (c 4), .slice (p 5) (l 5) (c 5)] 29)) w8 → (w8.cell? ⟨w.heap.size, 0, none⟩ = some (.slice (p 0) (l 0) (c 0)) ∧ w8.cell? ⟨w.heap.size, 1, none⟩ = some (.slice (p 1) (l 1) (c 1)) ∧ w8.cell? ⟨w.heap.size, 2, none⟩ = some (.slice (p 2) (l 2) (c 2)) ∧ w8.cell? ⟨w.heap.size, 3, none⟩ = some (.slice (p 3) (l 3) (c 3)) ∧ w8.cell? ⟨w.heap.size, 4, none⟩ = some (.slice (p 4) (l 4) (c 4)) ∧ w8.cell? ⟨w.heap.size, 5, none⟩ = some (.slice (p 5) (l 5) (c 5))) ∧ Below w.heap.size w w8 :=
  fun w8 hb => ⟨⟨keep hb (by simp [go_sem]), keep hb (by simp [go_sem]), keep hb (by simp [go_sem]), keep hb (by simp [go_sem]), keep hb (by simp [go_sem]), keep hb (by simp [go_sem])⟩, (show Below w.heap.size w _ from (by repeat (first | exact Below.refl _ _ | assumption | refine Below.drew ?_ | refine Below.alloc ?_ (by first | exact Nat.le_refl _ | omega | (simp; done) | (simp; omega)) _ | refine Below.setCell ?_ (by first | exact Nat.le_refl _ | omega | (simp; done) | (simp; omega)) _))).trans (hb.mono (by simp))⟩
 have HC1 := hid C1
 clear C1
 unfold netV at HF ⊢
 go_enter Tryz.func10, Tryz.ntmps10
 go_wp2_with fail
 refine (HF.out _ (by repeat (first | exact Below.refl _ _ | assumption | refine Below.drew ?_ | refine Below.alloc ?_ (by first | exact Nat.le_refl _ | omega | (simp; done) | (simp; omega)) _ | refine Below.setCell ?_ (by first | exact Nat.le_refl _ | omega | (simp; done) | (simp; omega)) _))).mono ?_
 rintro e' w1 ⟨rfl, hb1⟩
 obtain ⟨⟨q0, q1, q2, q3, q4, q5⟩, hB⟩ := HC1.out _ hb1
 have B1 := hid hB
 have hz1 : w.heap.size < w1.heap.size := by have := hb1.size; simp at this; omega
 clear hb1 hB
 by_cases h0 : D = 0
 case neg =>
  have d1 : (D != 0) = true := by simp [h0]
  have HSL : Hid ([] = ssL D g (l 1) o e x (l 4) env ds (l 0)) := hid (by unfold ssL; rw [if_neg h0])
  clear h0
  go_wp2
  go_ret2
  exact ⟨_, [], rfl, rr_empty _ _ _ B1.out.size rfl, HSL.out, B1.out.alloc B1.out.size _⟩
 have HSL : Hid (statesL g (l 1) o e x (l 4) env ds (l 0) (prod (fun i : Nat => optL g (l 1) o e env ds (l 0) (i : Int)) (l 0)) = ssL D g (l 1) o e x (l 4) env ds (l 0)) := hid (by unfold ssL; rw [if_pos h0])
 subst h0
 obtain ⟨f1, f3, f4, f5⟩ := env_zero HDD.out
 subst f1
 obtain ⟨n4, n12, nl, ni⟩ := net_links HOK.out
 have hgi := fun j hj => (link_facts (nl j hj) n4).1
 have hn1 : 1 ≤ l 0 := one_router HOK.out
 have HEn : Hid (∀ i, 0 ≤ zAt env i) := hid (fun i => by
  by_cases hi : i < el
  · exact f5 i hi
  · have hl := HE.out.length
    unfold zAt
    rw [List.getElem?_eq_none (by omega)]
    exact Int.le_refl _)
 subst f3
 subst f4
 have HSt := hid (states_spec p l c s g o e x f ea da ec dc env ds w1 (HN.out.below B1.out) (HE.out.below B1.out) (HD.out.below B1.out) n4 hn1 (fun i hi => (link_facts (nl i hi) n4).2.1) (fun i hi => (link_facts (nl i hi) n4).2.2) (fun i h => (import_facts (ni i h) hgi).2) HEn.out)
 clear f5 n12 nl ni hgi HF
 unfold netV at HSt
 go_wp2_with fail
 refine HSt.out.mono ?_
 rintro e' w3 ⟨v, ps, rfl, hor, hps, hb3⟩
 have HOw := hid (hor.mono B1.out.size)
 have HSe := hid (hps.trans HSL.out)
 have HB3 := hid (B1.out.trans (hb3.mono B1.out.size))
 clear hor hps hb3
 go_wp2
 go_ret2
 exact ⟨_, _, rfl, HOw.out, HSe.out, HB3.out⟩
end Go.Proofs.YtaioffpkadmmhaaGreat.staFace
