/- Fields, lists of fields, texts and bytes that came in as arguments, opened. -/
import Derived.Test.YtjdbgdlkbdpojaaDoorFieldRows
import Derived.Test.YtjdbgdlkbdpojaaDoorOctetLaid
import Derived.Deep.Slices
import Derived.Deep.Strs
import Derived.SizedLaws
namespace Go.Proofs.YtjdbgdlkbdpojaaDoor
open Go.ChangeShapes Go.WideShapes Go.ChangeAt Go.RowKit Go.Deep
open Oc Fl
set_option linter.unusedVariables false
set_option maxRecDepth 100000

theorem cells_str : Tryd.prog.cellsOf 9 = 1 := by kernel_rfl

/-- A byte. -/
theorem open_byte {H : Type} {enc : TypeId × Value → H} {W : World} {base : Nat} {v : Value} {d : DataW H} {p : List MemPlace} (u : Value.okWide Tryd.prog W .any base 5 v)
    (h : DataW.Trod enc Tryd.prog W 0 (fun _ => true) true 5 v d p) : ∃ b : UInt8, v = .int .u8 (b.toNat : Int) := by
  obtain ⟨a, rfl, _, _, w0⟩ := open_int Tryd.underlying5 u h
  have b := bounds_u8 w0
  refine ⟨UInt8.ofNat a.toNat, ?_⟩
  congr 1
  simp
  omega

theorem gather2 {α : Type} {P : Nat → α → Prop} (n : Nat) (h : ∀ i, i < n → ∃ o, P i o) : ∃ os : List α, os.length = n ∧ ∀ i o, os[i]? = some o → P i o := by
  induction n with
  | zero => exact ⟨[], rfl, fun i o hi => by simp at hi⟩
  | succ n ih =>
    obtain ⟨os, h1, h2⟩ := ih (fun i hi => h i (by omega))
    obtain ⟨o, ho⟩ := h n (by omega)
    refine ⟨os ++ [o], by simp [h1], fun i o' hi => ?_⟩
    by_cases e : i < n
    · rw [List.getElem?_append_left (by omega)] at hi
      exact h2 i o' hi
    · rw [List.getElem?_append_right (by omega)] at hi
      have hi0 : i - os.length = 0 := by
        have := (List.getElem?_eq_some_iff.1 hi).1
        simp at this
        omega
      rw [hi0] at hi
      cases hi
      obtain rfl : i = n := by omega
      exact ho

theorem fv_cases {l : List Fld} {i : Nat} {u : Value} (h : (fv l)[i]? = some u) : ∃ f, l[i / 2]? = some f ∧ (i % 2 = 0 ∧ u = .string f.name ∨ i % 2 = 1 ∧ u = .string f.value) := by
  have hi := (List.getElem?_eq_some_iff.1 h).1
  rw [fv_len] at hi
  have hlt : i / 2 < l.length := by omega
  refine ⟨l[i / 2], List.getElem?_eq_getElem hlt, ?_⟩
  have := fv_get (List.getElem?_eq_getElem hlt)
  rcases Nat.mod_two_eq_zero_or_one i with e | e
  · left
    rw [show i / 2 * 2 = i by omega, h] at this
    exact ⟨e, Option.some.inj this.1⟩
  · right
    have h2 := this.2
    rw [show i / 2 * 2 + 1 = i by omega, h] at h2
    exact ⟨e, Option.some.inj h2⟩
theorem fs_of {W : World} {a : Addr} {cap : Nat} {l : List Fld} (h1 : l.length ≤ cap) (h2 : cap ≤ maxLen) (h : ∀ i f, l[i]? = some f → W.cell? (a.add (i * 2)) = some (.string f.name) ∧ W.cell? (a.add (i * 2 + 1)) = some (.string f.value)) : FS W (.slice (some a) l.length cap) l := by
  refine ⟨fv_len l, some a, cap, rfl, h1, h2, (fun h => by cases h), fun ad hp i u hu => ?_⟩
  cases hp
  obtain ⟨f, hf, ⟨e, rfl⟩ | ⟨e, rfl⟩⟩ := fv_cases hu
  · have := (h _ _ hf).1
    rw [show i / 2 * 2 = i by omega] at this
    exact this
  · have := (h _ _ hf).2
    rw [show i / 2 * 2 + 1 = i by omega] at this
    exact this

theorem weights_all {H : Type} {P : Program} {e : TypeId} : ∀ {l : List (DataW H)} {d : DataW H}, d ∈ l → ∀ n ∈ d.weights P e, n ∈ DataW.weightsAll P e l
  | x :: l, d, h, n, hn => by
    simp only [DataW.weightsAll, List.mem_append]
    rcases List.mem_cons.1 h with rfl | h
    · exact .inl hn
    · exact .inr (weights_all h n hn)

theorem each_weight {H : Type} {P : Program} {ts : List TypeId} {ds : List (DataW H)} (hz : (DataW.weightsEach P ts ds).all (· ≤ reachBytes) = true) {j : Nat} {t : TypeId} {d : DataW H} (ht : ts[j]? = some t) (hd : ds[j]? = some d) : ∀ n ∈ d.weights P t, n ≤ reachBytes := fun n hn => by
  have := List.all_eq_true.1 hz _ (DataW.weights_mem_each ht hd n hn)
  simpa using this
theorem open_text {H : Type} {enc : TypeId × Value → H} {W : World} {base : Nat} {v : Value} {d : DataW H} {p : List MemPlace} (u : Value.okWide Tryd.prog W .any base 9 v)
    (h : DataW.Trod enc Tryd.prog W 0 (fun _ => true) true 9 v d p) : ∃ s : ByteArray, v = .string s ∧ s.size ≤ 9223372036854775807 := by
  obtain ⟨s, rfl, _, _, w0⟩ := Go.ChangeMaps.open_string Tryd.underlying9 u h
  exact ⟨s, rfl, by unfold maxLen at w0; omega⟩


end Go.Proofs.YtjdbgdlkbdpojaaDoor
