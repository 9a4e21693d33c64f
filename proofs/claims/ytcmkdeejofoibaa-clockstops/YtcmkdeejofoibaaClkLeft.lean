/- What the document's Left answers; two lists of numbers, the same or not. -/
import Derived.Test.YtcmkdeejofoibaaClkRefB
namespace Go.Proofs.Ytcmkdeejofoibaa
open Go.ChangeShapes Go.WideShapes Go.ChangeAt Go.RowKit
open Ck
set_option linter.unusedVariables false
set_option maxRecDepth 100000

namespace Ck
/-- All times are small. -/
def Small (x : Cs) : Prop := 0 ≤ x.now ∧ x.now ≤ 1152921504606846976 ∧ ∀ t ∈ x.l, 0 ≤ t.due ∧ t.due ≤ 1152921504606846976
theorem left_hit {now : Int} {l : List Tm} {k : Nat} {t : Tm} {id : Int} (h : l[k]? = some t) (hb : t.id = id) (hn : has (l.take k) id = false) : leftF now l id = (t.due - now, true) := by
  induction l generalizing k with
  | nil => simp at h
  | cons x xs ih =>
    cases k with
    | zero =>
      simp at h
      subst h
      unfold leftF
      rw [if_pos (beq_iff_eq.2 hb)]
    | succ k =>
      simp only [List.take_succ_cons, has, List.any_cons, Bool.or_eq_false_iff] at hn
      unfold leftF
      rw [hn.1, if_neg (by decide)]
      exact ih (by simpa using h) hn.2
theorem left_miss {now : Int} {l : List Tm} {id : Int} (hn : has l id = false) : leftF now l id = (0, false) := by
  induction l with
  | nil => rfl
  | cons x xs ih =>
    simp only [has, List.any_cons, Bool.or_eq_false_iff] at hn
    unfold leftF
    rw [hn.1, if_neg (by decide)]
    exact ih hn.2
end Ck

set_option maxHeartbeats 4000000 in
theorem rleft_any (x : Cs) (id : Int) (p : Option Addr) (c : Nat) (w : World) (hL : TS w (.slice p x.l.length c) x.l) (hl : x.l.length ≤ 1000000) (hs : Small x) :
    Calls Try.prog 17 #[.agg #[.int .i64 x.now, .slice p x.l.length c], .int .i64 id] w fun e w' => e = .returned (.tuple #[.int .i64 (leftC x id).1, .bool (leftC x id).2]) ∧ Below w.heap.size w w' := by
  obtain ⟨now, l⟩ := x
  obtain ⟨hn0, hn1, hd⟩ := hs
  simp only at hn0 hn1 hd hl hL
  obtain ⟨w0, hw0⟩ : ∃ w0, w.alloc (ob15 now (.slice p l.length c)) = w0 := ⟨_, rfl⟩
  have b0 : Below w.heap.size w w0 := by rw [← hw0]; exact below_box _ _
  have h0 : w0.heap[w.heap.size]? = some (ob15 now (.slice p l.length c)) := by rw [← hw0]; exact heap_alloc_new w _
  have HL := Lib.hid (hL.below b0)
  have HD := Lib.hid hd
  have B0 := Lib.hid b0
  have H0 := Lib.hid h0
  have W0 := Lib.hid hw0
  show Calls _ _ _ _ fun e w' => e = .returned (.tuple #[.int .i64 (leftF now l id).1, .bool (leftF now l id).2]) ∧ Below w.heap.size w w'
  clear hL b0 h0 hw0 hd
  go_enter Try.func17, Try.ntmps17
  go_wp2_with fail
  rw [W0.out]
  go_loopw [6] (fun i wr => ∃ (k m : Nat), k ≤ l.length ∧ i = .int .i64 k ∧ Hid (has (l.take k) id = false) ∧ Hid (Below w0.heap.size w0 wr)) (fun i _ => l.length - (intOf i).toNat)
  case atStart => exact ⟨0, 0, Nat.zero_le _, rfl, Lib.hid rfl, Lib.hid (Below.refl _ _)⟩
  case round =>
    obtain ⟨k, m, hk, rfl, HN, HB⟩ := hrel
    obtain ⟨⟨c0, c1⟩, -⟩ := two15 ((HB.out.block _ (Array.getElem?_eq_some_iff.1 H0.out).1).trans H0.out)
    by_cases hlt : k < l.length
    · obtain ⟨t, ht⟩ : ∃ t, l[k]? = some t := ⟨_, List.getElem?_eq_getElem hlt⟩
      obtain ⟨-, ad, rfl, e0, e1⟩ := (HL.out.below HB.out).at ht
      obtain ⟨hd0, hd1⟩ := HD.out t (List.mem_of_getElem? ht)
      have hht := has_take id ht
      have hkl : (k : Int) < (l.length : Int) := by omega
      by_cases hb : t.id = id
      · have hlf := left_hit (now := now) ht hb HN.out
        have hb' : (t.id == id) = true := beq_iff_eq.2 hb
        have hw : IntKind.i64.wrap (t.due - now) = t.due - now := IntWalk.i64_in _ (by omega)
        have HLF := Lib.hid hlf
        clear ht hht hlf
        subst hb
        obtain ⟨i1, due⟩ := t
        go_wp2_with fail
        go_region
        all_goals
          go_wp2_with fail
          go_ret2
          exact ⟨by rw [HLF.out]; rfl, (ahead B0.out HB.out).drew⟩
      · have hb' : (t.id == id) = false := beq_eq_false_iff_ne.2 hb
        rw [hb', Bool.or_false, HN.out] at hht
        have HN2 := Lib.hid hht
        clear ht hht
        go_wp2_with fail
        go_roundw
        case rel => exact ⟨k + 1, 0, by omega, by go_num, HN2, HB⟩
        case measure => simp [intOf]; omega
    · obtain rfl : k = l.length := by omega
      rw [List.take_length] at HN
      go_wp2_with fail
      go_ret2
      exact ⟨by rw [left_miss HN.out]; rfl, ahead B0.out HB.out⟩

set_option maxHeartbeats 4000000 in
theorem numbers_any (xs ys : List Int) (p q : Option Addr) (c d : Nat) (w : World) (hX : IS w (.slice p xs.length c) xs) (hY : IS w (.slice q ys.length d) ys) (hx : xs.length ≤ 1000000) (hy : ys.length ≤ 1000000) :
    Calls Try.prog 15 #[.slice p xs.length c, .slice q ys.length d] w fun e w' => e = .returned (.bool (decide (xs = ys))) ∧ Below w.heap.size w w' := by
  by_cases hl : xs.length = ys.length
  · have HX := Lib.hid hX
    rw [← hl] at hY
    have HY := Lib.hid hY
    have HL := Lib.hid hl
    have hlb : ((xs.length : Int) == (ys.length : Int)) = true := by rw [hl]; exact beq_iff_eq.2 rfl
    rw [← hl]
    clear hX hY hl hlb hy
    go_enter Try.func15, Try.ntmps15
    go_wp2_with fail
    go_loopw [13] (fun i wr => ∃ (k : Nat), k ≤ xs.length ∧ i = .int .i64 k ∧ Hid (xs.take k = ys.take k) ∧ Hid (Below w.heap.size w wr)) (fun i _ => xs.length - (intOf i).toNat)
    case atStart => exact ⟨0, Nat.zero_le _, rfl, Lib.hid rfl, Lib.hid (Below.refl _ _)⟩
    case round =>
      obtain ⟨k, hk, rfl, HT, HB⟩ := hrel
      by_cases hlt : k < xs.length
      · obtain ⟨a, ha⟩ : ∃ a, xs[k]? = some a := ⟨_, List.getElem?_eq_getElem hlt⟩
        obtain ⟨b, hb⟩ : ∃ b, ys[k]? = some b := ⟨_, List.getElem?_eq_getElem (by rw [← HL.out]; exact hlt)⟩
        obtain ⟨-, ad, rfl, e0⟩ := (HX.out.below HB.out).at ha
        have hY2 : IS w (.slice q ys.length d) ys := by have := HY.out; rw [HL.out] at this; exact this
        obtain ⟨-, ae, rfl, e1⟩ := (hY2.below HB.out).at hb
        have hkl : (k : Int) < (xs.length : Int) := by omega
        clear hY2
        by_cases hab : a = b
        · have hT2 : xs.take (k + 1) = ys.take (k + 1) := by rw [List.take_add_one, List.take_add_one, ha, hb, HT.out, hab]
          have HT2 := Lib.hid hT2
          subst hab
          clear ha hb hT2
          go_wp2_with fail
          go_region
          all_goals
            go_wp2_with fail
            go_roundw
            case rel => exact ⟨k + 1, by omega, by go_num, HT2, Lib.hid HB.out.drew⟩
            case measure => simp [intOf]; omega
        · have hbe : (a == b) = false := beq_eq_false_iff_ne.2 hab
          have hne : decide (xs = ys) = false := decide_eq_false (fun e => by rw [e, hb] at ha; exact hab (Option.some.inj ha).symm)
          have HNE := Lib.hid hne
          clear ha hb hab hne
          go_wp2_with fail
          go_region
          all_goals
            go_wp2_with fail
            go_ret
            exact ⟨by rw [HNE.out]; rfl, HB.out.drew⟩
      · obtain rfl : k = xs.length := by omega
        have he : xs = ys := by have := HT.out; rw [List.take_length, HL.out, List.take_length] at this; exact this
        have HE := Lib.hid he
        clear he
        go_wp2_with fail
        go_ret
        exact ⟨by rw [decide_eq_true HE.out]; rfl, HB.out⟩
  · have hne : decide (xs = ys) = false := decide_eq_false (fun e => hl (by rw [e]))
    rw [hne]
    have hlb : ((xs.length : Int) == (ys.length : Int)) = false := beq_eq_false_iff_ne.2 (by omega)
    generalize xs.length = n at *
    generalize ys.length = m at *
    clear hX hY hne hl
    go_enter Try.func15, Try.ntmps15
    go_wp2_with fail
    go_ret
    exact ⟨rfl, Below.refl _ _⟩

end Go.Proofs.Ytcmkdeejofoibaa
