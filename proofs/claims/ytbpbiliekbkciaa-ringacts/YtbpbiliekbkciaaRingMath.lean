/- What a ring holds, as a list. -/
import Derived.Test.YtbpbiliekbkciaaByteMem
namespace Go.Proofs.Ytbpbiliekbkciaa
set_option linter.unusedVariables false

/-- The k bytes from place h on, round. -/
def held (cs : List UInt8) (h k : Nat) : List UInt8 := (cs.take (min (h + k) cs.length)).drop h ++ cs.take (k - (min (h + k) cs.length - h))
theorem held_len (cs : List UInt8) (h k : Nat) (hh : h < cs.length) (hk : k ≤ cs.length) : (held cs h k).length = k := by
  simp only [held, List.length_append, List.length_drop, List.length_take]
  omega
theorem held_get (cs : List UInt8) (h k i : Nat) (hh : h < cs.length) (hk : k ≤ cs.length) (hi : i < k) : (held cs h k)[i]? = cs[(h + i) % cs.length]? := by
  unfold held
  by_cases hr : h + i < cs.length
  · rw [Nat.mod_eq_of_lt hr, List.getElem?_append_left (by simp; omega), List.getElem?_drop, List.getElem?_take, if_pos (by omega)]
  · have e : (h + i) % cs.length = h + i - cs.length := by rw [Nat.mod_eq_sub_mod (by omega), Nat.mod_eq_of_lt (by omega)]
    rw [e, List.getElem?_append_right (by simp; omega), List.getElem?_take, if_pos (by simp; omega)]
    congr 1
    simp
    omega
theorem held_take (cs : List UInt8) (h k u : Nat) (hh : h < cs.length) (hk : k ≤ cs.length) (hu : u ≤ k) : (held cs h k).take u = held cs h u := by
  apply List.ext_getElem?
  intro i
  by_cases hi : i < u
  · rw [List.getElem?_take, if_pos hi, held_get cs h k i hh hk (by omega), held_get cs h u i hh (by omega) hi]
  · rw [List.getElem?_take, if_neg hi, List.getElem?_eq_none (by rw [held_len cs h u hh (by omega)]; omega)]
theorem held_drop (cs : List UInt8) (h k u : Nat) (hh : h < cs.length) (hk : k ≤ cs.length) (hu : u ≤ k) : (held cs h k).drop u = held cs ((h + u) % cs.length) (k - u) := by
  have hm : (h + u) % cs.length < cs.length := Nat.mod_lt _ (by omega)
  apply List.ext_getElem?
  intro i
  rw [List.getElem?_drop]
  by_cases hi : i < k - u
  · rw [held_get cs h k _ hh hk (by omega), held_get cs _ _ i hm (by omega) hi]
    congr 1
    rw [Nat.mod_add_mod, Nat.add_assoc]
  · rw [List.getElem?_eq_none (by rw [held_len cs h k hh hk]; omega), List.getElem?_eq_none (by rw [held_len cs _ _ hm (by omega)]; omega)]
theorem held_zero (cs : List UInt8) (h : Nat) (hh : h < cs.length) : held cs h 0 = [] := List.eq_nil_of_length_eq_zero (held_len cs h 0 hh (Nat.zero_le _))

def sel {α : Type} (a b : α) : Nat → α
  | 0 => a
  | _ => b
def acc (A B : List UInt8) : Nat → List UInt8
  | 0 => []
  | 1 => A
  | _ => A ++ B
theorem acc_succ (A B : List UInt8) (k : Nat) (hk : k < 2) : acc A B (k + 1) = acc A B k ++ sel A B k := by
  match k, hk with
  | 0, _ => simp [acc, sel]
  | 1, _ => simp [acc, sel]
theorem sel_get {α : Type} (a b : α) (k : Nat) (hk : k < 2) : [a, b][k]? = some (sel a b k) := by
  match k, hk with
  | 0, _ => rfl
  | 1, _ => rfl
theorem sel_of {α : Type} {a b x : α} {k : Nat} (h : [a, b][k]? = some x) : x = sel a b k ∧ k < 2 := by
  match k with
  | 0 => exact ⟨by simpa [sel] using h.symm, by decide⟩
  | 1 => exact ⟨by simpa [sel] using h.symm, by decide⟩
  | k + 2 => simp at h
/-- Bytes written and the array, behind j parts. -/
def wst (xs cs : List UInt8) (f t r : Nat) : Nat → Nat × List UInt8
  | 0 => (0, cs)
  | j + 1 => ((wst xs cs f t r j).1 + min (xs.drop (wst xs cs f t r j).1).length (sel t r j - sel f 0 j), spl (wst xs cs f t r j).2 (sel f 0 j) ((xs.drop (wst xs cs f t r j).1).take (min (xs.drop (wst xs cs f t r j).1).length (sel t r j - sel f 0 j))))
theorem wst_le (xs cs : List UInt8) (f t r : Nat) (h1 : f ≤ t) (h2 : t ≤ cs.length) (h3 : r ≤ cs.length) (j : Nat) (hj : j ≤ 2) : (wst xs cs f t r j).1 ≤ xs.length ∧ (wst xs cs f t r j).2.length = cs.length := by
  match j, hj with
  | 0, _ => exact ⟨Nat.zero_le _, rfl⟩
  | 1, _ =>
    simp only [wst, sel]
    refine ⟨by simp; omega, spl_len _ _ _ (by simp; omega)⟩
  | 2, _ =>
    simp only [wst, sel]
    have hl : (spl cs f ((xs.drop 0).take (min (xs.drop 0).length (t - f)))).length = cs.length := spl_len _ _ _ (by simp; omega)
    refine ⟨by simp; omega, ?_⟩
    rw [spl_len _ _ _ (by rw [hl]; simp; omega), hl]
theorem mod_wrap {N a : Nat} (h : a < N + N) : a % N = if a < N then a else a - N := by
  split
  · exact Nat.mod_eq_of_lt (by assumption)
  · rw [Nat.mod_eq_sub_mod (by omega), Nat.mod_eq_of_lt (by omega)]
theorem wst_end (xs cs : List UInt8) (N h k : Nat) (hl : cs.length = N) (hh : h < N) (hk : k ≤ N) (f t r : Nat) (hf : f = (h + k) % N) (ht : t = min (f + (N - k)) N) (hr : r = N - k - (t - f)) :
    (wst xs cs f t r 2).1 = min xs.length (N - k) ∧ held (wst xs cs f t r 2).2 h (k + min xs.length (N - k)) = held cs h k ++ xs.take (min xs.length (N - k)) := by
  have hf' : f = if h + k < N then h + k else h + k - N := by rw [hf]; exact mod_wrap (by omega)
  have hfN : f < N := by rw [hf]; exact Nat.mod_lt _ (by omega)
  clear hf
  have e1 : (wst xs cs f t r 2).1 = min xs.length (N - k) := by
    simp only [wst, sel, List.length_drop, Nat.zero_add, Nat.sub_zero]
    omega
  have hc1 : (spl cs f ((xs.drop 0).take (min (xs.drop 0).length (t - f)))).length = cs.length := spl_len _ _ _ (by simp; omega)
  have hlen2 := (wst_le xs cs f t r (by omega) (by omega) (by omega) 2 (Nat.le_refl _)).2
  refine ⟨e1, ?_⟩
  have hg : ∀ q, q < N → (wst xs cs f t r 2).2[q]? = if q < min (xs.length - min xs.length (t - f)) r then xs[min xs.length (t - f) + q]? else if f ≤ q ∧ q < f + min xs.length (t - f) then xs[q - f]? else cs[q]? := by
    intro q hq
    have en : (0 + min (xs.drop 0).length (t - f)) = min xs.length (t - f) := by simp
    simp only [wst, sel, Nat.sub_zero]
    rw [en]
    have el : ((xs.drop (min xs.length (t - f))).take (min (xs.drop (min xs.length (t - f))).length r)).length = min (xs.length - min xs.length (t - f)) r := by simp
    rw [spl_get _ _ _ (by rw [hc1, el]; omega), el, spl_get _ _ _ (by simp; omega)]
    have el2 : ((xs.drop 0).take (min (xs.drop 0).length (t - f))).length = min xs.length (t - f) := by simp
    rw [el2]
    by_cases h1 : q < min (xs.length - min xs.length (t - f)) r
    · rw [if_pos ⟨Nat.zero_le _, by omega⟩, if_pos h1, List.getElem?_take, if_pos (by simp; omega), List.getElem?_drop]
      congr 1
    · rw [if_neg (by omega), if_neg h1]
      by_cases h2 : f ≤ q ∧ q < f + min xs.length (t - f)
      · rw [if_pos h2, if_pos h2, List.getElem?_take, if_pos (by simp; omega), List.drop_zero]
      · rw [if_neg h2, if_neg h2]
  apply List.ext_getElem?
  intro i
  by_cases hi : i < k + min xs.length (N - k)
  · have hq : (h + i) % N < N := Nat.mod_lt _ (by omega)
    have hq' : (h + i) % N = if h + i < N then h + i else h + i - N := mod_wrap (by omega)
    rw [held_get _ _ _ _ (by omega) (by omega) hi, hlen2, hl, hg _ hq]
    by_cases hik : i < k
    · rw [List.getElem?_append_left (by rw [held_len cs h k (by omega) (by omega)]; exact hik), held_get cs h k i (by omega) (by omega) hik, hl]
      rw [if_neg (by split at hq' <;> split at hf' <;> omega), if_neg (by split at hq' <;> split at hf' <;> omega)]
    · have hti : (xs.take (min xs.length (N - k)))[i - k]? = xs[i - k]? := by rw [List.getElem?_take, if_pos (by omega)]
      rw [List.getElem?_append_right (by rw [held_len cs h k (by omega) (by omega)]; omega), held_len cs h k (by omega) (by omega), hti]
      by_cases h1 : (h + i) % N < min (xs.length - min xs.length (t - f)) r
      · rw [if_pos h1]
        congr 1
        split at hq' <;> split at hf' <;> omega
      · rw [if_neg h1, if_pos (by split at hq' <;> split at hf' <;> omega)]
        congr 1
        split at hq' <;> split at hf' <;> omega
  · rw [List.getElem?_eq_none (by rw [held_len _ _ _ (by omega) (by omega)]; omega), List.getElem?_eq_none (by rw [List.length_append, held_len cs h k (by omega) (by omega)]; simp; omega)]
end Go.Proofs.Ytbpbiliekbkciaa
