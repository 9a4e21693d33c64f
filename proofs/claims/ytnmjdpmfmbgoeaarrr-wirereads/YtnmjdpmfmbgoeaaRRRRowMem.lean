/- Lists in memory, of elements of some cells each: what they read as; appended. -/
import Derived.Test.YtnmjdpmfmbgoeaaRRRRows
import Derived.WalkKit
import Derived.ProofKit
import Derived.OpenShut
import Derived.Handy
import Derived.Lib.Hide
import Derived.Deep.DeepMust
import Derived.Maps.AppendAt
import Derived.Below
namespace Go.Proofs.YtnmjdpmfmbgoeaaRRR
open Go.ChangeShapes Go.WideShapes Go.ChangeAt Go.RowKit
set_option linter.unusedVariables false
set_option maxRecDepth 100000

theorem below_box (w : World) (o : _) : Below w.heap.size w (w.alloc o) := Below.alloc (Below.refl _ _) (Nat.le_refl _) o
theorem ahead {w w1 w2 : World} (h1 : Below w.heap.size w w1) (h2 : Below w1.heap.size w1 w2) : Below w.heap.size w w2 := h1.trans (h2.mono h1.size)
theorem box_cells (w : World) (x y : Value) (t : TypeId) : (w.alloc (.cells #[x, y] t)).heap[w.heap.size]? = some (.cells #[x, y] t (0, 0)) := heap_alloc_new w _
theorem two_cells {A : World} {R : Nat} {x y : Value} {t : TypeId} (h : A.heap[R]? = some (.cells #[x, y] t (0, 0))) :
    A.cell? ⟨R, 0, none⟩ = some x ∧ A.cell? ⟨R, 1, none⟩ = some y ∧ ∀ i, A.frozen? ⟨R, i, none⟩ = false := by
  simp [World.cell?, World.frozen?, h]
theorem two_below {A B : World} {R : Nat} {x y : Value} {t : TypeId} (h : A.heap[R]? = some (.cells #[x, y] t (0, 0))) (hb : Below A.heap.size A B) : B.heap[R]? = some (.cells #[x, y] t (0, 0)) := by
  have hl : R < A.heap.size := (Array.getElem?_eq_some_iff.1 h).1
  rw [hb.block R hl, h]

/-- The slice v of n elements, of sz cells each, reads as xs. -/
def RS (W : World) (sz : Nat) (v : Value) (n : Nat) (xs : List Value) : Prop :=
  xs.length = n * sz ∧ ∃ p cap, v = .slice p n cap ∧ n ≤ cap ∧ cap ≤ maxLen ∧ (p = none → cap = 0) ∧ ∀ ad, p = some ad → ∀ (i : Nat) (u : Value), xs[i]? = some u → W.cell? (ad.add i) = some u
theorem add_block (ad : Addr) (i : Nat) : (ad.add i).block = ad.block := by
  cases i with
  | zero => simp [Addr.add_zero']
  | succ n => simp [Addr.add_succ']
theorem RS.keep {W W' : World} {sz : Nat} {v : Value} {n : Nat} {xs : List Value} (h : RS W sz v n xs) (hk : ∀ k, v.ownBlock = some k → k < W.heap.size → W'.heap[k]? = W.heap[k]?) : RS W' sz v n xs := by
  obtain ⟨h0, p, cap, rfl, h1, h2, h3, h4⟩ := h
  refine ⟨h0, p, cap, rfl, h1, h2, h3, fun ad hp i u hu => ?_⟩
  subst hp
  have hc := h4 ad rfl i u hu
  have hl := World.block_lt_of_cell? W _ hc
  rw [add_block] at hl
  refine (World.cell?_of_block ?_).trans hc
  rw [add_block]
  exact hk _ rfl hl
theorem RS.below {W W' : World} {sz : Nat} {v : Value} {n : Nat} {xs : List Value} (h : RS W sz v n xs) (hb : Below W.heap.size W W') : RS W' sz v n xs := h.keep fun k _ hk => hb.block k hk
theorem RS.nil (W : World) (sz : Nat) : RS W sz (.slice none 0 0) 0 [] := ⟨by simp, none, 0, rfl, Nat.le_refl _, by decide, fun _ => rfl, fun ad h => by cases h⟩
theorem RS.of_own {W : World} {base : Nat} {e : TypeId} {sz : Nat} {v : Value} {n : Nat} {xs : List Value} (h : W.ownsRow base e sz v n xs) : RS W sz v n xs := by
  have h0 := h.1
  rcases h.2 with ⟨rfl, hn⟩ | ⟨g, cap, cur, rfl, _, hh, h1, h2, h3, h4⟩
  · subst hn
    exact ⟨h0, none, 0, rfl, Nat.le_refl _, by decide, fun _ => rfl, fun ad h => by cases h⟩
  · refine ⟨h0, _, cap, rfl, h1, h2, (fun h => by cases h), fun ad hp i u hu => ?_⟩
    cases hp
    exact h.cells (g := g) rfl i _ hu
theorem RS.slice {W : World} {sz : Nat} {v : Value} {n : Nat} {xs : List Value} (h : RS W sz v n xs) : ∃ p c, v = .slice p n c ∧ n ≤ c ∧ c ≤ maxLen := by
  obtain ⟨h0, p, cap, rfl, h1, h2, _⟩ := h
  exact ⟨p, cap, rfl, h1, h2⟩

/-- A list behind another, onto a row of the call's own. -/
theorem run_append_rs (w : World) (t ty e : TypeId) (i0 : TypeInfo) (z : Value) (sz bytes : Nat) (ht : Try.prog.underlying t = some (.slice e)) (hi : Try.prog.info? e = some i0) (hz0 : i0.zero = some z) (hz1 : i0.size = sz) (hz2 : i0.bytes = bytes) (hzc : z.cells.size = sz) (hsz : 0 < sz)
    (base : Nat) (v u : Value) (k m : Nat) (xs ys : List Value) (hown : w.ownsRow base e sz v k xs) (hu : RS w sz u m ys) (h1 : ∀ u ∈ ys, u.oneCell' = true) (hb : (k + m) * bytes ≤ 140737488355328) (hb2 : k + m ≤ 140737488355328) (hbase : base ≤ w.heap.size) :
    ∃ v' w', (Builtin.append_ #[t, t] ty #[v, u]).run Try.prog w = .ok v' w' ∧ w'.ownsRow base e sz v' (k + m) (xs ++ ys) ∧ w.grownBy w' v.ownBlock := by
  obtain ⟨hl, p, cap, rfl, q1, q2, q3, q4⟩ := hu
  cases p with
  | none =>
    have hc := q3 rfl
    obtain rfl : m = 0 := by omega
    obtain rfl : ys = [] := List.eq_nil_of_length_eq_zero (by omega)
    subst hc
    exact ⟨v, w, run_append_owned_none w base t ty e i0 sz ht hi v _ _ hown, by simpa using hown, ⟨rfl, rfl, rfl, Nat.le_refl _, fun _ _ _ => rfl⟩⟩
  | some ad =>
    obtain ⟨v', w', r0, r1, r2, _⟩ := run_append_own (P := Try.prog) w base t ty e i0 z sz bytes ht hi hz0 hz1 hz2 hzc hsz v k xs hown ad m cap ys hl
      (fun j u hj => q4 ad rfl j u hj) h1 (by simp only [maxLen]; omega) hb hbase
    exact ⟨v', w', r0, r1, r2⟩
theorem wpList_append_is {P : Program} {w : World} {ops : Array Oper} {rest : List Oper} {o : Oper} {a : Act} {Q : Exit → Act → World → Prop}
    (hg : o.guard = none) (s x : Operand) (t : TypeId) (hop : o.op = Op.call { callee := Callee.builtin Builtin.append, args := #[s, x], argTypes := #[t, t] })
    (v u v' : Value) (w' : World) (hs : a.eval s = v) (hx : a.eval x = u) (hrun : (Builtin.append_ #[t, t] o.type #[v, u]).run P w = .ok v' w')
    (hK : wpList P ops Q rest (a.put o.dst v') w') : wpList P ops Q (o :: rest) a w := by
  refine wpList_plain hg fun K hK' => ?_
  unfold Oper.wp
  simp [execOp, hop, resolve, invoke, builtin, hs, hx, hrun, Result.andThen]
  exact hK' _ _ hK

theorem append_own9 (w : World) (t ty e : TypeId) (i0 : TypeInfo) (z : Value) (sz bytes : Nat) (ht : Try.prog.underlying t = some (.slice e)) (hi : Try.prog.info? e = some i0) (hz0 : i0.zero = some z) (hz1 : i0.size = sz) (hz2 : i0.bytes = bytes) (hzc : z.cells.size = sz) (hsz : 0 < sz)
    (base : Nat) (v u : Value) (k m : Nat) (xs ys : List Value) (hown : w.ownsRow base e sz v k xs) (hu : RS w sz u m ys) (h1 : ∀ u ∈ ys, u.oneCell' = true) (hb : (k + m) * bytes ≤ 140737488355328) (hb2 : k + m ≤ 140737488355328) (hbase : base ≤ w.heap.size) :
    ∃ v' w', (Builtin.append_ #[t, t] ty #[v, u]).run Try.prog w = .ok v' w' ∧ w'.ownsRow base e sz v' (k + m) (xs ++ ys) ∧ w.grownBy w' v.ownBlock ∧ ∀ g, v'.ownBlock = some g → v.ownBlock = some g ∨ w.heap.size ≤ g := by
  rcases hown.2 with ⟨rfl, rfl⟩ | ⟨g, cap, cur, rfl, hbg, hg, hnc, hcm, hcs, htake⟩
  · have hx : xs = [] := List.eq_nil_of_length_eq_zero (by simpa using hown.1)
    subst hx
    obtain ⟨v', w', r0, r1, r2⟩ := run_append_rs w t ty e i0 z sz bytes ht hi hz0 hz1 hz2 hzc hsz w.heap.size (.slice none 0 0) u 0 m [] ys (World.ownsRow_nil _ _ _ _) hu h1 hb hb2 (Nat.le_refl _)
    exact ⟨v', w', r0, ⟨r1.1, r1.2.imp _root_.id fun ⟨g, c, cur, e, hg, rest⟩ => ⟨g, c, cur, e, Nat.le_trans hbase hg, rest⟩⟩, r2, fun g hg => .inr (r1.lt g hg).1⟩
  · obtain ⟨v', w', r0, r1, r2⟩ := run_append_rs w t ty e i0 z sz bytes ht hi hz0 hz1 hz2 hzc hsz base _ u k m xs ys hown hu h1 hb hb2 hbase
    refine ⟨v', w', r0, r1, r2, ?_⟩
    obtain ⟨hl, p, c, rfl, q1, q2, q3, q4⟩ := hu
    cases p with
    | none =>
      have hc := q3 rfl
      obtain rfl : m = 0 := by omega
      subst hc
      have hr := run_append_owned_none w base t ty e i0 sz ht hi _ _ _ hown
      rw [hr] at r0
      cases r0
      exact fun g hg => .inl hg
    | some ad =>
      subst hz1
      subst hz2
      by_cases hroom : k + m ≤ cap
      · have hfit : k * i0.size + ys.length ≤ cur.size := by rw [hl, hcs, ← Nat.add_mul]; exact Nat.mul_le_mul_right _ hroom
        have hr := run_append_room (P := Try.prog) w t ty e i0 ht hi g k cap cur hg ad m c ys hl (fun j u hj => q4 ad rfl j u hj) h1 hroom hfit
        rw [hr] at r0
        cases r0
        exact fun g hg => .inl hg
      · have holds : ∀ j u, xs[j]? = some u → w.cell? ((⟨g, 0, none⟩ : Addr).add j) = some u := hown.cells (g := g) rfl
        have hr := run_append_grow (P := Try.prog) w t ty e i0 z ht hi hz0 ⟨g, 0, none⟩ k cap xs hown.1 holds ad m c ys hl (fun j u hj => q4 ad rfl j u hj) (by omega) (by omega) (growslice_fits (by omega) hb)
        rw [hr] at r0
        cases r0
        exact fun g' hg' => .inr (by simp [Value.ownBlock] at hg'; omega)

end Go.Proofs.YtnmjdpmfmbgoeaaRRR
