/- A piece cut in two, in plain words. -/
import Derived.Test.YtjkccacpffikbaaDoorIntMath
namespace Go.Proofs.YtjkccacpffikbaaDoor
namespace Ik
open Oc Fl Bk Hx Bd Dk

theorem cont_data (l : Lim) (x : St × Nat × Nat) (b : List UInt8) : ∃ d, (cont l x b).1.data = x.1.data ++ d := by
  by_cases h4 : x.2.2 = 4
  · obtain ⟨s, i, e⟩ := x
    simp only at h4
    subst h4
    rw [cont_go]
    exact go_data _ _ _ _
  · rw [cont_end _ h4]
    exact ⟨[], by simp⟩
/-- All of the first part was taken, and nothing went wrong: the second goes on. -/
theorem cut_on (k : Kd) (a b : List UInt8) (hn : numK k a = a.length) (he : errK k a = 0) :
    nextK k (a ++ b) = nextK (nextK k a) b ∧ dataK k (a ++ b) = dataK k a ++ dataK (nextK k a) b ∧ errK k (a ++ b) = errK (nextK k a) b := by
  cases k with
  | fix n c =>
    replace hn : min n a.length = a.length := hn
    have hle : a.length ≤ n := by omega
    refine ⟨?_, ?_, rfl⟩
    · show Kd.fix (n - (a ++ b).length) (c + min n (a ++ b).length) = Kd.fix (n - a.length - b.length) (c + min n a.length + min (n - a.length) b.length)
      rw [List.length_append]
      congr 1 <;> omega
    · show (a ++ b).take n = a.take n ++ b.take (n - a.length)
      rw [List.take_append]
  | unt d c =>
    cases d with
    | true =>
      replace hn : (0 : Nat) = a.length := hn
      obtain rfl : a = [] := List.eq_nil_of_length_eq_zero hn.symm
      exact ⟨rfl, rfl, rfl⟩
    | false =>
      refine ⟨?_, rfl, rfl⟩
      show Kd.unt false (c + (a ++ b).length) = Kd.unt false (c + a.length + b.length)
      rw [List.length_append, Nat.add_assoc]
  | dec l x =>
    refine ⟨?_, ?_, ?_⟩
    · show Kd.dec l (cont l x (a ++ b)) = Kd.dec l (cont l (cont l x a) b)
      rw [cont_app]
    · show (cont l x (a ++ b)).1.data.drop x.1.data.length = (cont l x a).1.data.drop x.1.data.length ++ (cont l (cont l x a) b).1.data.drop (cont l x a).1.data.length
      rw [cont_app]
      obtain ⟨d1, e1⟩ := cont_data l x a
      obtain ⟨d2, e2⟩ := cont_data l (cont l x a) b
      rw [e2, e1]
      simp
    · show told (cont l x (a ++ b)).2.2 = told (cont l (cont l x a) b).2.2
      rw [cont_app]
/-- Otherwise the second part makes no difference. -/
theorem cut_off (k : Kd) (a b : List UInt8) (h : numK k a ≠ a.length ∨ errK k a ≠ 0) :
    nextK k (a ++ b) = nextK k a ∧ dataK k (a ++ b) = dataK k a ∧ errK k (a ++ b) = errK k a := by
  cases k with
  | fix n c =>
    have hn : min n a.length ≠ a.length := by
      rcases h with h | h
      · exact h
      · exact absurd rfl h
    have hlt : n < a.length := by omega
    refine ⟨?_, ?_, rfl⟩
    · show Kd.fix (n - (a ++ b).length) (c + min n (a ++ b).length) = Kd.fix (n - a.length) (c + min n a.length)
      rw [List.length_append]
      congr 1 <;> omega
    · show (a ++ b).take n = a.take n
      rw [List.take_append_of_le_length (by omega)]
  | unt d c =>
    cases d with
    | true => exact ⟨rfl, rfl, rfl⟩
    | false =>
      rcases h with h | h
      · exact absurd rfl h
      · exact absurd rfl h
  | dec l x =>
    have h4 : (cont l x a).2.2 ≠ 4 := fun h4 => by
      have hx : x.2.2 = 4 := by
        by_cases hx : x.2.2 = 4
        · exact hx
        · rw [cont_end _ hx] at h4; exact h4
      rcases h with h | h
      · refine h ?_
        show (cont l x a).2.1 - x.2.1 = a.length
        obtain ⟨s, i, e⟩ := x
        simp only at hx
        subst hx
        rw [cont_go] at h4 ⊢
        have := (go_at l s a i).2.2 h4
        show (go l s a i).2.1 - i = a.length
        omega
      · refine h ?_
        show told (cont l x a).2.2 = 0
        rw [h4]; rfl
    have hc : cont l x (a ++ b) = cont l x a := by rw [cont_app, cont_end _ h4]
    refine ⟨?_, ?_, ?_⟩
    · show Kd.dec l (cont l x (a ++ b)) = _
      rw [hc]; rfl
    · show (cont l x (a ++ b)).1.data.drop x.1.data.length = _
      rw [hc]; rfl
    · show told (cont l x (a ++ b)).2.2 = _
      rw [hc]; rfl
theorem num_le (k : Kd) (a : List UInt8) : numK k a ≤ a.length := by
  cases k with
  | fix n c => exact Nat.min_le_right _ _
  | unt d c =>
    show (if d = true then 0 else a.length) ≤ a.length
    split <;> omega
  | dec l x =>
    show (cont l x a).2.1 - x.2.1 ≤ a.length
    by_cases h4 : x.2.2 = 4
    · have := cont_num (l := l) (T := a) h4; omega
    · rw [cont_end _ h4]; omega
theorem taken_next (k : Kd) (a : List UInt8) : takenK (nextK k a) ≤ takenK k + a.length := by
  cases k with
  | fix n c => show c + min n a.length ≤ c + a.length; omega
  | unt d c =>
    show (if d = true then c else c + a.length) ≤ c + a.length
    split <;> omega
  | dec l x =>
    show (cont l x a).2.1 ≤ x.2.1 + a.length
    by_cases h4 : x.2.2 = 4
    · exact (cont_num (l := l) (T := a) h4).2
    · rw [cont_end _ h4]; omega

end Ik
end Go.Proofs.YtjkccacpffikbaaDoor
