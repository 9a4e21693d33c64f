/- What the document's Same answers; bytes.Equal. -/
import Derived.Test.YtnmjdpmfmbgoeaaRRRByteMem
import Derived.Test.YtnmjdpmfmbgoeaaRRRFieldSame
import Derived.Deep.QuietTactic
import Derived.BigQuiet
namespace Go.Proofs.YtnmjdpmfmbgoeaaRRR
open Go.ChangeShapes Go.WideShapes Go.ChangeAt Go.RowKit
open Fl
set_option linter.unusedVariables false
set_option maxRecDepth 100000

theorem drewN_below8 (w : World) (n : Nat) : Below w.heap.size w (w.drewN n) := ⟨rfl, rfl, rfl, Nat.le_refl _, fun _ _ => rfl⟩
theorem drew_below8 (w : World) : Below w.heap.size w w.drew := drewN_below8 w 1
theorem drew_of8 {A W : World} (h : Below A.heap.size A W) : Below A.heap.size A W.drew := ahead h (drew_below8 W)
theorem RD.cellAt {W : World} {p : Option Addr} {l c : Nat} {xs : List UInt8} (h : RD W (.slice p l c) xs) {i : Nat} (hi : i < xs.length) : ∃ ad, p = some ad ∧ W.cell? (ad.add i) = some (.int .u8 (xs[i].toNat : Int)) := by
  obtain ⟨_, _, e, h1, h2, h3, h4⟩ := h
  cases e
  cases p with
  | none => have := h3 rfl; omega
  | some ad => exact ⟨ad, rfl, h4 ad rfl i _ (List.getElem?_eq_getElem hi)⟩
theorem RD.drewN {W : World} {v : Value} {xs : List UInt8} (h : RD W v xs) (m : Nat) : RD (W.drewN m) v xs := h.kept fun _ _ => rfl
theorem take_eq_succ {xs ys : List UInt8} {i : Nat} (h1 : i < xs.length) (h2 : i < ys.length) (h : xs.take i = ys.take i) (e : xs[i] = ys[i]) : xs.take (i + 1) = ys.take (i + 1) := by
  rw [List.take_succ_eq_append_getElem h1, List.take_succ_eq_append_getElem h2, h, e]

theorem same_any (w : World) (p q : Option Addr) (l c m d : Nat) (xs ys : List UInt8) (hx : RD w (.slice p l c) xs) (hy : RD w (.slice q m d) ys) :
    Calls Try.prog 10 #[.slice p l c, .slice q m d] w fun e w' => e = .returned (.bool (decide (xs = ys))) ∧ ∃ m, w' = w.drewN m := by
  have h1 := hx.len
  have h2 := hy.len
  subst h1
  subst h2
  by_cases hl : xs.length = ys.length
  · have hi : (xs.length : Int) ≤ 9223372036854775807 := by
      obtain ⟨_, _, e, h1, h2, _⟩ := hx
      cases e
      simp only [maxLen] at h2
      omega
    have HX := Lib.hid hx
    have HY := Lib.hid hy
    have HL := Lib.hid hl
    rw [← hl]
    clear hx hy hl
    go_enter Try.func10, Try.ntmps10
    go_wp2_with fail
    go_loopw [5] (fun i wr => ∃ (n u : Nat), i = .int .i64 (n : Int) ∧ n ≤ xs.length ∧ Hid (xs.take n = ys.take n) ∧ wr = w.drewN u) (fun i _ => xs.length - (intOf i).toNat)
    case atStart => exact ⟨0, 0, rfl, Nat.zero_le _, Lib.hid rfl, rfl⟩
    case round =>
      obtain ⟨n, u, rfl, hn, ht, rfl⟩ := hrel
      by_cases hlt : n < xs.length
      · have hlt2 : n < ys.length := by rw [← HL.out]; exact hlt
        obtain ⟨a1, rfl, e1⟩ := HX.out.cellAt hlt
        obtain ⟨a2, rfl, e2⟩ := HY.out.cellAt hlt2
        have g1 : (n : Int) < (xs.length : Int) := by omega
        by_cases he : xs[n] = ys[n]
        · have HT := Lib.hid (take_eq_succ hlt hlt2 ht.out he)
          rw [← he] at e2
          clear he
          generalize xs[n] = bb at e1 e2
          go_wp2_with fail
          go_quiet (fail)
          go_wp2_with fail
          go_roundw
          case rel => exact ⟨n + 1, _, by go_num, by omega, HT, rfl⟩
          case measure => simp [intOf]; omega
        · have hf : xs ≠ ys := fun e => he (by subst e; rfl)
          have hne : ¬ ((xs[n].toNat : Int) = (ys[n].toNat : Int)) := fun e => he (UInt8.toNat_inj.1 (by omega))
          have HF := Lib.hid hf
          clear he hf
          generalize xs[n] = bb at e1 hne
          generalize ys[n] = bc at e2 hne
          go_wp2_with fail
          go_quiet (fail)
          go_wp2_with fail
          go_ret
          exact ⟨by rw [decide_eq_false HF.out]; rfl, u + nq, by simp⟩
      · obtain rfl : n = xs.length := by omega
        have he : xs = ys := by
          have := ht.out
          rw [List.take_length, HL.out, List.take_length] at this
          exact this
        have HE := Lib.hid he
        clear he hn hlt
        go_wp2_with fail
        go_ret
        exact ⟨by rw [decide_eq_true HE.out]; rfl, _, rfl⟩
  · have hf : xs ≠ ys := fun e => hl (by rw [e])
    have hne : ¬ ((xs.length : Int) = (ys.length : Int)) := by omega
    have HF := Lib.hid hf
    clear hl hf hx hy
    go_enter Try.func10, Try.ntmps10
    go_wp2_with fail
    go_ret
    exact ⟨by rw [decide_eq_false HF.out]; rfl, 0, rfl⟩


end Go.Proofs.YtnmjdpmfmbgoeaaRRR
