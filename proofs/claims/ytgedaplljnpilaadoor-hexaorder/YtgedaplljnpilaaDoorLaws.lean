/- What hexa.Put writes is parsed as it was; its texts are in the numbers' order. -/
import Derived.Test.YtgedaplljnpilaaDoorFmt
import Derived.Test.YtgedaplljnpilaaDoorHexaWake
import Derived.Test.YtgedaplljnpilaaDoorLaid
namespace Go.Proofs.YtgedaplljnpilaaDoor
open Go.ChangeShapes Go.WideShapes Go.ChangeAt Go.RowKit
open Hx
set_option linter.unusedVariables false

theorem parse_of_put (n : Nat) (hn : n ≤ 18446744073709551615) (w : World) :
    Calls Tryd.prog 7 #[.string ⟨(put n).toArray⟩] w fun e w' => e = .returned (.tuple #[.int .u64 (if 4611686018427387903 < n then (0, 3) else ((n : Int), (0 : Int))).1, .int .i64 (if 4611686018427387903 < n then (0, 3) else ((n : Int), (0 : Int))).2]) ∧ w = w' := by
  have hl := put_len16 n (by omega)
  refine (parse_any _ w (by show (put n).toArray.size ≤ _; simp; omega)).mono fun e w' h => ?_
  rw [show parse (⟨(put n).toArray⟩ : ByteArray).data.toList = _ from parse_put n] at h
  exact h
theorem size_of_cell {w : World} {v : Value} (hc : w.cell? ⟨2, 15, none⟩ = some v) : 3 ≤ w.heap.size := by
  rcases Nat.lt_or_ge 2 w.heap.size with h | h
  · exact h
  · have : w.heap[2]? = none := Array.getElem?_eq_none h
    simp [World.cell?, this] at hc

set_option maxHeartbeats 400000 in
theorem puts_walk0 (n : Nat) (hn : n ≤ 18446744073709551615) (w : World) (hc : w.cell? ⟨2, 15, none⟩ = some (.int .u8 4)) :
    Calls Tryd.prog 3 #[.int .u64 n] w fun e w' => e = .returned (.bool true) ∧ Below w.heap.size w w' := by
  have h3 := size_of_cell hc
  have HP := Lib.hid fun wx => (rput_any (n + 1) n wx (by omega) (by omega) (by omega))
  rw [Int.toNat_natCast] at HP
  by_cases hb : 4611686018427387903 < n
  · have HQ := Lib.hid fun wx => parse_of_put n hn wx
    rw [if_pos hb] at HQ
    go_enter Tryd.func3, Tryd.ntmps3
    go_wp2_with fail
    refine (wakes_any _).mono ?_; rintro e w' ⟨rfl, rfl⟩
    go_wp2_with fail
    refine (put_any n hn _ hc h3).mono ?_; rintro e w' ⟨rfl, hbel⟩
    go_wp2_with fail
    refine (HQ.out _).mono ?_; rintro e w'' ⟨rfl, rfl⟩
    go_wp2_with fail
    refine (HP.out _).mono ?_; rintro e w'' ⟨rfl, m, rfl⟩
    go_wp2_with fail
    go_ret
    exact ⟨rfl, below_drewN hbel m⟩
  · have HQ := Lib.hid fun wx => parse_of_put n hn wx
    rw [if_neg hb] at HQ
    go_enter Tryd.func3, Tryd.ntmps3
    go_wp2_with fail
    refine (wakes_any _).mono ?_; rintro e w' ⟨rfl, rfl⟩
    go_wp2_with fail
    refine (put_any n hn _ hc h3).mono ?_; rintro e w' ⟨rfl, hbel⟩
    go_wp2_with fail
    refine (HQ.out _).mono ?_; rintro e w'' ⟨rfl, rfl⟩
    go_wp2_with fail
    refine (HP.out _).mono ?_; rintro e w'' ⟨rfl, m, rfl⟩
    go_wp2_with fail
    go_ret
    exact ⟨rfl, below_drewN hbel m⟩

/-- Bytes that digits are written with. -/
def sm (c : UInt8) : Prop := ∃ d : Nat, d < 16 ∧ c = hexd d
theorem hexd_lt : ∀ d : Nat, d < 16 → ∀ e : Nat, e < 16 → (hexd d < hexd e ↔ d < e) := by decide
theorem hexd_inj : ∀ d : Nat, d < 16 → ∀ e : Nat, e < 16 → (hexd d = hexd e ↔ d = e) := by decide
theorem put_sm (n : Nat) : ∀ c ∈ put n, sm c := by
  induction n using Nat.strongRecOn with
  | _ n ih =>
    rw [put]; split
    · rename_i h; intro c hc; simp at hc; exact ⟨n, h, hc⟩
    · rename_i h; intro c hc; rw [List.mem_append] at hc
      rcases hc with hc | hc
      · exact ih (n / 16) (by omega) c hc
      · simp at hc; exact ⟨n % 16, by omega, hc⟩
theorem less_val : ∀ (l m : List UInt8), l.length = m.length → (∀ c ∈ l, sm c) → (∀ c ∈ m, sm c) → (Op.bytesLess l m = true ↔ val l < val m)
  | [], [], _, _, _ => by simp [Op.bytesLess]
  | [], _ :: _, h, _, _ => by simp at h
  | _ :: _, [], h, _, _ => by simp at h
  | a :: x, b :: y, h, hl, hm => by
    have hlen : x.length = y.length := by simpa using h
    obtain ⟨d, hd, rfl⟩ := hl a (by simp)
    obtain ⟨e, he, rfl⟩ := hm b (by simp)
    have ih := less_val x y hlen (fun c hc => hl c (by simp [hc])) (fun c hc => hm c (by simp [hc]))
    have h1 := val_lt x
    have h2 := val_lt y
    rw [hlen] at h1
    simp only [Op.bytesLess, Bool.or_eq_true, Bool.and_eq_true, decide_eq_true_eq, beq_iff_eq]
    rw [hexd_lt d hd e he, hexd_inj d hd e he, ih, val_cons, val_cons, hexd_dg d hd, hexd_dg e he, hlen, Int.toNat_natCast, Int.toNat_natCast]
    generalize 16 ^ y.length = p at *
    generalize val x = X at *
    generalize val y = Y at *
    rcases Nat.lt_trichotomy d e with hlt | rfl | hgt
    · have : (d + 1) * p ≤ e * p := Nat.mul_le_mul_right _ hlt
      rw [Nat.add_mul, Nat.one_mul] at this
      constructor
      · intro _; omega
      · intro _; exact Or.inl hlt
    · simp
    · have : (e + 1) * p ≤ d * p := Nat.mul_le_mul_right _ hgt
      rw [Nat.add_mul, Nat.one_mul] at this
      constructor
      · rintro (h | ⟨h, _⟩) <;> omega
      · intro _; omega
theorem put_ge (n : Nat) : 16 ^ ((put n).length - 1) ≤ n ∨ (put n).length = 1 := by
  induction n using Nat.strongRecOn with
  | _ n ih =>
    rw [put]; split
    · right; rfl
    · rename_i h
      left
      have hp := put_len_pos (n / 16)
      rw [List.length_append]
      rcases ih (n / 16) (by omega) with g | g
      · have e : (put (n / 16)).length + [hexd (n % 16)].length - 1 = ((put (n / 16)).length - 1) + 1 := by simp; omega
        rw [e, Nat.pow_succ]; omega
      · rw [g]; simp; omega
theorem put_long {a b : Nat} (h : (put b).length < (put a).length) : b < a := by
  have h1 := val_lt (put b)
  rw [put_val] at h1
  have hp := put_len_pos b
  rcases put_ge a with g | g
  · have : 16 ^ (put b).length ≤ 16 ^ ((put a).length - 1) := Nat.pow_le_pow_right (by omega) (by omega)
    omega
  · omega
theorem put_less {a b : Nat} (h : (put a).length = (put b).length) : Op.bytesLess (put a) (put b) = decide (a < b) := by
  have := less_val _ _ h (put_sm a) (put_sm b)
  rw [put_val, put_val] at this
  rw [Bool.eq_iff_iff, this]; simp
theorem put_inj {a b : Nat} (h : put a = put b) : a = b := by rw [← put_val a, ← put_val b, h]

/-- How two texts stand to each other, in the walk's words. -/
theorem order_gt {s t : ByteArray} {a b : Nat} (hs : s = ⟨(put a).toArray⟩) (ht : t = ⟨(put b).toArray⟩) (h : b < a) : t.size < s.size ∨ (s.size ≤ t.size ∧ t.size ≤ s.size ∧ Op.bytesLess s.toList t.toList = false ∧ (s.toList == t.toList) = false) := by
  have e1 : s.toList = put a := by rw [hs]; simp
  have e2 : t.toList = put b := by rw [ht]; simp
  have s1 : s.size = (put a).length := by rw [hs]; rfl
  have s2 : t.size = (put b).length := by rw [ht]; rfl
  rcases Nat.lt_trichotomy (put a).length (put b).length with g | g | g
  · have := put_long g; omega
  · right
    refine ⟨by omega, by omega, ?_, ?_⟩
    · rw [e1, e2, put_less g, decide_eq_false_iff_not]; omega
    · rw [e1, e2, beq_eq_false_iff_ne]; intro e; have := put_inj e; omega
  · left; omega
theorem order_lt {s t : ByteArray} {a b : Nat} (hs : s = ⟨(put a).toArray⟩) (ht : t = ⟨(put b).toArray⟩) (h : a < b) : (s.toList == t.toList) = false ∧ (s.size < t.size ∨ (s.size ≤ t.size ∧ t.size ≤ s.size ∧ Op.bytesLess s.toList t.toList = true)) := by
  have e1 : s.toList = put a := by rw [hs]; simp
  have e2 : t.toList = put b := by rw [ht]; simp
  have s1 : s.size = (put a).length := by rw [hs]; rfl
  have s2 : t.size = (put b).length := by rw [ht]; rfl
  refine ⟨by rw [e1, e2, beq_eq_false_iff_ne]; intro e; have := put_inj e; omega, ?_⟩
  rcases Nat.lt_trichotomy (put a).length (put b).length with g | g | g
  · left; omega
  · right
    refine ⟨by omega, by omega, ?_⟩
    rw [e1, e2, put_less g, decide_eq_true_iff]; exact h
  · have := put_long g; omega
theorem less_self (l : List UInt8) : Op.bytesLess l l = false := by
  induction l with
  | nil => rfl
  | cons a l ih => simp [Op.bytesLess, ih]

set_option maxHeartbeats 1000000 in
theorem order_walk0 (a b : Nat) (ha : a ≤ 18446744073709551615) (hb : b ≤ 18446744073709551615) (w : World) (hc : w.cell? ⟨2, 15, none⟩ = some (.int .u8 4)) :
    Calls Tryd.prog 4 #[.int .u64 a, .int .u64 b] w fun e w' => e = .returned (.bool true) ∧ Below w.heap.size w w' := by
  have h3 := size_of_cell hc
  obtain ⟨s, hs⟩ : ∃ s : ByteArray, s = ⟨(put a).toArray⟩ := ⟨_, rfl⟩
  obtain ⟨t, ht⟩ : ∃ s : ByteArray, s = ⟨(put b).toArray⟩ := ⟨_, rfl⟩
  have HA := Lib.hid fun (wx : World) hx hz => put_any a ha wx hx hz
  have HB := Lib.hid fun (wx : World) hx hz => put_any b hb wx hx hz
  rw [← hs] at HA
  rw [← ht] at HB
  have zs : s.size ≤ 16 := by rw [hs]; exact put_len16 a (by omega)
  have zt : t.size ≤ 16 := by rw [ht]; exact put_len16 b (by omega)
  rcases Nat.lt_trichotomy a b with g | g | g
  · obtain ⟨hne, hcase⟩ := order_lt hs ht g
    clear hs ht
    have hz : ((a : Int) == (b : Int)) = false := beq_eq_false_iff_ne.2 (by omega)
    rcases hcase with hl | ⟨hl1, hl2, hl3⟩
    all_goals
      go_enter Tryd.func4, Tryd.ntmps4
      go_wp2_with fail
      refine (wakes_any _).mono ?_; rintro e w' ⟨rfl, rfl⟩
      go_wp2_with fail
      refine (HA.out _ hc h3).mono ?_; rintro e w1 ⟨rfl, hb1⟩
      go_wp2_with fail
      refine (HB.out _ ((hb1.cell (p := ⟨2, 15, none⟩) (by show 2 < _; omega)).trans hc) (by have := hb1.size; omega)).mono ?_; rintro e w2 ⟨rfl, hb2⟩
      go_wp2_with fail
      go_ret
      exact ⟨rfl, hb1.trans (hb2.mono hb1.size)⟩
  · subst g
    obtain rfl : s = t := hs.trans ht.symm
    clear hs ht
    have hl := less_self s.toList
    · skip
      go_enter Tryd.func4, Tryd.ntmps4
      go_wp2_with fail
      refine (wakes_any _).mono ?_; rintro e w' ⟨rfl, rfl⟩
      go_wp2_with fail
      refine (HA.out _ hc h3).mono ?_; rintro e w1 ⟨rfl, hb1⟩
      go_wp2_with fail
      refine (HA.out _ ((hb1.cell (p := ⟨2, 15, none⟩) (by show 2 < _; omega)).trans hc) (by have := hb1.size; omega)).mono ?_; rintro e w2 ⟨rfl, hb2⟩
      go_wp2_with fail
      go_ret
      exact ⟨rfl, hb1.trans (hb2.mono hb1.size)⟩
  · have hcase := order_gt hs ht g
    clear hs ht
    have hz : ((a : Int) == (b : Int)) = false := beq_eq_false_iff_ne.2 (by omega)
    rcases hcase with hl | ⟨hl1, hl2, hl3, hl4⟩
    · have hne : (s.toList == t.toList) = false := by
        rw [beq_eq_false_iff_ne, ByteArray.toList_eq, ByteArray.toList_eq]; intro e
        have : s.data.toList.length = t.data.toList.length := by rw [e]
        simp at this; omega
      go_enter Tryd.func4, Tryd.ntmps4
      go_wp2_with fail
      refine (wakes_any _).mono ?_; rintro e w' ⟨rfl, rfl⟩
      go_wp2_with fail
      refine (HA.out _ hc h3).mono ?_; rintro e w1 ⟨rfl, hb1⟩
      go_wp2_with fail
      refine (HB.out _ ((hb1.cell (p := ⟨2, 15, none⟩) (by show 2 < _; omega)).trans hc) (by have := hb1.size; omega)).mono ?_; rintro e w2 ⟨rfl, hb2⟩
      go_wp2_with fail
      go_ret
      exact ⟨rfl, hb1.trans (hb2.mono hb1.size)⟩
    · skip
      go_enter Tryd.func4, Tryd.ntmps4
      go_wp2_with fail
      refine (wakes_any _).mono ?_; rintro e w' ⟨rfl, rfl⟩
      go_wp2_with fail
      refine (HA.out _ hc h3).mono ?_; rintro e w1 ⟨rfl, hb1⟩
      go_wp2_with fail
      refine (HB.out _ ((hb1.cell (p := ⟨2, 15, none⟩) (by show 2 < _; omega)).trans hc) (by have := hb1.size; omega)).mono ?_; rintro e w2 ⟨rfl, hb2⟩
      go_wp2_with fail
      go_ret
      exact ⟨rfl, hb1.trans (hb2.mono hb1.size)⟩

theorem puts_walk (a0 : Int) (w0 : (Lit.int .u64 a0).wf = true) (w : World) (hL : laidMetH Tryd.prog Rows.hexaPutsRow.laid w) :
    Calls Tryd.prog 3 #[.int .u64 a0] w fun e w' => e = .returned (.bool true) ∧ Below w.heap.size w w' := by
  have b0 := bounds_u64 w0
  obtain ⟨n, rfl⟩ := Int.eq_ofNat_of_zero_le b0.1
  exact puts_walk0 n (by omega) w (of_laid hL)
theorem order_walk (a0 a1 : Int) (w0 : (Lit.int .u64 a0).wf = true) (w1 : (Lit.int .u64 a1).wf = true) (w : World) (hL : laidMetH Tryd.prog Rows.hexaPutsRow.laid w) :
    Calls Tryd.prog 4 #[.int .u64 a0, .int .u64 a1] w fun e w' => e = .returned (.bool true) ∧ Below w.heap.size w w' := by
  have b0 := bounds_u64 w0
  have b1 := bounds_u64 w1
  obtain ⟨n, rfl⟩ := Int.eq_ofNat_of_zero_le b0.1
  obtain ⟨m, rfl⟩ := Int.eq_ofNat_of_zero_le b1.1
  exact order_walk0 n m (by omega) (by omega) w (of_laid hL)

end Go.Proofs.YtgedaplljnpilaaDoor
