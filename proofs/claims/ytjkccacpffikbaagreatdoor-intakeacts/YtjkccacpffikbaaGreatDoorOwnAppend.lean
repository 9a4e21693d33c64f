/- An append onto an own row stays in its block, or makes a new one. -/
import Derived.Test.YtjkccacpffikbaaGreatDoorByteMem
import Derived.Test.YtjkccacpffikbaaGreatDoorFieldRows
namespace Go.Proofs.YtjkccacpffikbaaGreatDoor
open Go.ChangeShapes Go.WideShapes Go.ChangeAt Go.RowKit
open Oc Fl
set_option linter.unusedVariables false
set_option maxRecDepth 100000

theorem rs_of_rd {w : World} {v : Value} {xs : List UInt8} (h : RD w v xs) : RS w 1 v xs.length (bv xs) := by
  obtain ⟨p, cap, rfl, h1, h2, h3, h4⟩ := h
  refine ⟨by rw [bv_len]; omega, p, cap, rfl, h1, h2, h3, fun ad hp i u hu => ?_⟩
  obtain ⟨b, hb, rfl⟩ := bv_get _ _ _ hu
  exact h4 ad hp i b hb

theorem append_own9 (w : World) (t ty e : TypeId) (i0 : TypeInfo) (z : Value) (sz bytes : Nat) (ht : Tryz.prog.underlying t = some (.slice e)) (hi : Tryz.prog.info? e = some i0) (hz0 : i0.zero = some z) (hz1 : i0.size = sz) (hz2 : i0.bytes = bytes) (hzc : z.cells.size = sz) (hsz : 0 < sz)
    (base : Nat) (v u : Value) (k m : Nat) (xs ys : List Value) (hown : w.ownsRow base e sz v k xs) (hu : RS w sz u m ys) (h1 : ∀ u ∈ ys, u.oneCell' = true) (hb : (k + m) * bytes ≤ 140737488355328) (hb2 : k + m ≤ 140737488355328) (hbase : base ≤ w.heap.size) :
    ∃ v' w', (Builtin.append_ #[t, t] ty #[v, u]).run Tryz.prog w = .ok v' w' ∧ w'.ownsRow base e sz v' (k + m) (xs ++ ys) ∧ w.grownBy w' v.ownBlock ∧ ∀ g, v'.ownBlock = some g → v.ownBlock = some g ∨ w.heap.size ≤ g := by
  rcases hown.2 with ⟨rfl, rfl⟩ | ⟨g, cap, cur, rfl, hbg, hg, hnc, hcm, hcs, htake⟩
  · have hx : xs = [] := List.eq_nil_of_length_eq_zero (by simpa using hown.1)
    subst hx
    obtain ⟨v', w', r0, r1, r2⟩ := run_append_rs w t ty e i0 z sz bytes ht hi hz0 hz1 hz2 hzc hsz w.heap.size (.slice none 0 0) u 0 m [] ys (World.ownsRow_nil _ _ _ _) hu h1 hb hb2 (Nat.le_refl _)
    exact ⟨v', w', r0, own_base r1 hbase, r2, fun g hg => .inr (r1.lt g hg).1⟩
  · obtain ⟨v', w', r0, r1, r2⟩ := run_append_rs w t ty e i0 z sz bytes ht hi hz0 hz1 hz2 hzc hsz base _ u k m xs ys hown hu h1 hb hb2 hbase
    refine ⟨v', w', r0, r1, r2, ?_⟩
    obtain ⟨hl, p, c, rfl, q1, q2, q3, q4⟩ := hu
    cases p with
    | none =>
      have hc := q3 rfl
      obtain rfl : m = 0 := by omega
      subst hc
      have hr := run_append_owned_none w base t ty e i0 sz ht hi _ _ _ hown
      rw [hr] at r0
      cases r0
      exact fun g hg => .inl hg
    | some ad =>
      subst hz1
      subst hz2
      by_cases hroom : k + m ≤ cap
      · have hfit : k * i0.size + ys.length ≤ cur.size := by rw [hl, hcs, ← Nat.add_mul]; exact Nat.mul_le_mul_right _ hroom
        have hr := run_append_room (P := Tryz.prog) w t ty e i0 ht hi g k cap cur hg ad m c ys hl (fun j u hj => q4 ad rfl j u hj) h1 hroom hfit
        rw [hr] at r0
        cases r0
        exact fun g hg => .inl hg
      · have holds : ∀ j u, xs[j]? = some u → w.cell? ((⟨g, 0, none⟩ : Addr).add j) = some u := hown.cells (g := g) rfl
        have hr := run_append_grow (P := Tryz.prog) w t ty e i0 z ht hi hz0 ⟨g, 0, none⟩ k cap xs hown.1 holds ad m c ys hl (fun j u hj => q4 ad rfl j u hj) (by omega) (by omega) (growslice_fits (by omega) hb)
        rw [hr] at r0
        cases r0
        exact fun g' hg' => .inr (by simp [Value.ownBlock] at hg'; omega)
theorem append_rd9 (w : World) (ty : TypeId) (base : Nat) (v u : Value) (xs ys : List UInt8) (hown : w.ownsRow base 5 1 v xs.length (bv xs)) (hu : RD w u ys) (hb : xs.length + ys.length ≤ 140737488355328) (hbase : base ≤ w.heap.size) :
    ∃ v' w', (Builtin.append_ #[29, 29] ty #[v, u]).run Tryz.prog w = .ok v' w' ∧ w'.ownsRow base 5 1 v' (xs ++ ys).length (bv (xs ++ ys)) ∧ w.grownBy w' v.ownBlock ∧ ∀ g, v'.ownBlock = some g → v.ownBlock = some g ∨ w.heap.size ≤ g := by
  obtain ⟨i0, hi, hz0, hz1, hz2⟩ := info_parts byte_info
  obtain ⟨v', w', r0, r1, r2, r3⟩ := append_own9 w 29 ty 5 i0 _ 1 1 Tryz.underlying29 hi hz0 hz1 hz2 rfl (by decide) base v u _ _ _ _ hown (rs_of_rd hu) (bv_one ys) (by omega) (by omega) hbase
  exact ⟨v', w', r0, by rw [List.length_append, ← bv_app]; exact r1, r2, r3⟩
theorem append_fs9 (w : World) (ty : TypeId) (base : Nat) (v u : Value) (xs ys : List Fld) (hown : w.ownsRow base 78 2 v xs.length (fv xs)) (hu : FS w u ys) (hb : xs.length + ys.length ≤ 1099511627776) (hbase : base ≤ w.heap.size) :
    ∃ v' w', (Builtin.append_ #[53, 53] ty #[v, u]).run Tryz.prog w = .ok v' w' ∧ w'.ownsRow base 78 2 v' (xs ++ ys).length (fv (xs ++ ys)) ∧ w.grownBy w' v.ownBlock ∧ ∀ g, v'.ownBlock = some g → v.ownBlock = some g ∨ w.heap.size ≤ g := by
  obtain ⟨i0, hi, hz0, hz1, hz2⟩ := info_parts fld_info
  obtain ⟨v', w', r0, r1, r2, r3⟩ := append_own9 w 53 ty 78 i0 _ 2 32 Tryz.underlying53 hi hz0 hz1 hz2 rfl (by decide) base v u _ _ _ _ hown hu (fv_one ys) (by omega) (by omega) hbase
  exact ⟨v', w', r0, by rw [List.length_append, ← fv_app]; exact r1, r2, r3⟩

end Go.Proofs.YtjkccacpffikbaaGreatDoor
