/- Fields, and lists of fields and of texts, that came in as arguments, opened. -/
import Derived.Test.YtpjmeikeliiepaaDoorFieldPuts
import Derived.Test.YtpjmeikeliiepaaDoorOctetLaid
import Derived.Deep.Slices
import Derived.Deep.Strs
import Derived.SizedLaws
namespace Go.Proofs.YtpjmeikeliiepaaDoor
open Go.ChangeShapes Go.WideShapes Go.ChangeAt Go.RowKit Go.Deep
open Oc Fl
set_option linter.unusedVariables false

theorem cells_fld : Tryd.prog.cellsOf 24 = 2 := by kernel_rfl
theorem cells_str : Tryd.prog.cellsOf 9 = 1 := by kernel_rfl

/-- A field. -/
theorem open_fld {H : Type} {enc : TypeId × Value → H} {W : World} {base : Nat} {v : Value} {d : DataW H} {p : List MemPlace} (u : Value.okWide Tryd.prog W .any base 24 v)
    (h : DataW.Trod enc Tryd.prog W 0 (fun _ => true) true 24 v d p) : ∃ f : Fld, v = fld f ∧ f.name.size ≤ maxLen ∧ f.value.size ≤ maxLen := by
  obtain ⟨cs, rfl, hcs⟩ := okWide_struct Tryd.underlying24 u
  obtain ⟨fuel, hf⟩ := h
  obtain ⟨y0, y1, n', _, hl, t0, t1⟩ := trod_struct2 Tryd.underlying24 hf
  rw [cells_fld] at hcs
  obtain ⟨l⟩ := cs
  match l, hcs with
  | [c0, c1], _ =>
    simp only [cells_str, Value.cells, List.drop_zero, List.drop_succ_cons, List.take_succ_cons, List.take_zero] at t0 t1
    obtain ⟨s0, e0, _, b0⟩ := DataW.trod_string Tryd.underlying9 t0
    obtain ⟨s1, e1, _, b1⟩ := DataW.trod_string Tryd.underlying9 t1
    simp only [List.cons.injEq, and_true] at e0 e1
    subst e0
    subst e1
    exact ⟨⟨s0, s1⟩, rfl, b0, b1⟩
/-- A byte. -/
theorem open_byte {H : Type} {enc : TypeId × Value → H} {W : World} {base : Nat} {v : Value} {d : DataW H} {p : List MemPlace} (u : Value.okWide Tryd.prog W .any base 5 v)
    (h : DataW.Trod enc Tryd.prog W 0 (fun _ => true) true 5 v d p) : ∃ b : UInt8, v = .int .u8 (b.toNat : Int) := by
  obtain ⟨a, rfl, _, _, w0⟩ := open_int Tryd.underlying5 u h
  have b := bounds_u8 w0
  refine ⟨UInt8.ofNat a.toNat, ?_⟩
  congr 1
  simp
  omega

theorem puts_data {H : Type} {enc : TypeId × Value → H} {W : World} {base : Nat} {v0 : Value} {d0 : DataW H} {p0 : List MemPlace} (u0 : Value.okWide Tryd.prog W .any base 24 v0)
    (h0 : DataW.Trod enc Tryd.prog W 0 (fun _ => true) true 24 v0 d0 p0) (hsp : Spans W) :
    Calls Tryd.prog 4 #[v0] W fun e w' => e = .returned (.bool true) ∧ Below W.heap.size W w' := by
  obtain ⟨f, rfl, _, _⟩ := open_fld u0 h0
  exact puts_walk f W hsp
theorem blanks_data {H : Type} {enc : TypeId × Value → H} {W : World} {base : Nat} {v0 v1 v2 : Value} {d0 d1 d2 : DataW H} {p0 p1 p2 : List MemPlace} (u0 : Value.okWide Tryd.prog W .any base 24 v0)
    (h0 : DataW.Trod enc Tryd.prog W 0 (fun _ => true) true 24 v0 d0 p0) (u1 : Value.okWide Tryd.prog W .any base 5 v1) (h1 : DataW.Trod enc Tryd.prog W 0 (fun _ => true) true 5 v1 d1 p1)
    (u2 : Value.okWide Tryd.prog W .any base 5 v2) (h2 : DataW.Trod enc Tryd.prog W 0 (fun _ => true) true 5 v2 d2 p2) (hsp : Spans W) :
    Calls Tryd.prog 6 #[v0, v1, v2] W fun e w' => e = .returned (.bool true) ∧ Below W.heap.size W w' := by
  obtain ⟨f, rfl, _, _⟩ := open_fld u0 h0
  obtain ⟨a, rfl⟩ := open_byte u1 h1
  obtain ⟨b, rfl⟩ := open_byte u2 h2
  exact blanks_walk f a b W hsp

end Go.Proofs.YtpjmeikeliiepaaDoor
