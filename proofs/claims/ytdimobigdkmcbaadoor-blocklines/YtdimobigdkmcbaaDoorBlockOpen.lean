/- The laws of layer 6 from what came in. -/
import Derived.Test.YtdimobigdkmcbaaDoorBlockPuts
import Derived.Test.YtdimobigdkmcbaaDoorBlockRefScan
import Derived.Test.YtdimobigdkmcbaaDoorBlockLinesLaw
import Derived.Test.YtdimobigdkmcbaaDoorFieldOpenIn
namespace Go.Proofs.YtdimobigdkmcbaaDoor
open Go.ChangeShapes Go.WideShapes Go.ChangeAt Go.RowKit Go.Deep
open Oc Fl Bk
set_option linter.unusedVariables false
set_option maxRecDepth 100000

/-- A number of 16 bits. -/
theorem open_u16 {H : Type} {enc : TypeId × Value → H} {W : World} {base : Nat} {v : Value} {d : DataW H} {p : List MemPlace} (u : Value.okWide Tryd.prog W .any base 39 v)
    (h : DataW.Trod enc Tryd.prog W 0 (fun _ => true) true 39 v d p) : ∃ n : Nat, v = .int .u16 (n : Int) ∧ n ≤ 65535 := by
  obtain ⟨a, rfl, _, _, w0⟩ := open_int Tryd.underlying39 u h
  have b := bounds_u16 w0
  exact ⟨a.toNat, by congr 1; omega, by omega⟩

theorem scans6_data {H : Type} {enc : TypeId × Value → H} {W : World} {base : Nat} {v0 : Value} {d0 : DataW H} {p0 : List MemPlace}
    (u0 : Value.okWide Tryd.prog W .any base 9 v0) (h0 : DataW.Trod enc Tryd.prog W 0 (fun _ => true) true 9 v0 d0 p0) (hsp : Spans W) (hbd : Bound W) :
    Calls Tryd.prog 3 #[v0] W fun e w' => e = .returned (.bool true) ∧ Below W.heap.size W w' := by
  obtain ⟨s, rfl, _⟩ := open_text u0 h0
  exact scans6_walk s W hsp hbd
theorem joins6_data {H : Type} {enc : TypeId × Value → H} {W : World} {base : Nat} {v0 v1 : Value} {d0 d1 : DataW H} {p0 p1 : List MemPlace}
    (u0 : Value.okWide Tryd.prog W .any base 9 v0) (h0 : DataW.Trod enc Tryd.prog W 0 (fun _ => true) true 9 v0 d0 p0)
    (u1 : Value.okWide Tryd.prog W .any base 9 v1) (h1 : DataW.Trod enc Tryd.prog W 0 (fun _ => true) true 9 v1 d1 p1) (hsp : Spans W) (hbd : Bound W) :
    Calls Tryd.prog 7 #[v0, v1] W fun e w' => e = .returned (.bool true) ∧ Below W.heap.size W w' := by
  obtain ⟨s, rfl, _⟩ := open_text u0 h0
  obtain ⟨t, rfl, _⟩ := open_text u1 h1
  exact joins6_walk s t W hsp hbd
theorem lines6_data {H : Type} {enc : TypeId × Value → H} {W : World} {base : Nat} {v0 v1 : Value} {d0 d1 : DataW H} {p0 p1 : List MemPlace}
    (u0 : Value.okWide Tryd.prog W .any base 9 v0) (h0 : DataW.Trod enc Tryd.prog W 0 (fun _ => true) true 9 v0 d0 p0)
    (u1 : Value.okWide Tryd.prog W .any base 5 v1) (h1 : DataW.Trod enc Tryd.prog W 0 (fun _ => true) true 5 v1 d1 p1) (hsp : Spans W) (hbd : Bound W) :
    Calls Tryd.prog 6 #[v0, v1] W fun e w' => e = .returned (.bool true) ∧ Below W.heap.size W w' := by
  obtain ⟨s, rfl, _⟩ := open_text u0 h0
  obtain ⟨b, rfl⟩ := open_byte u1 h1
  exact lines6_walk s b.toNat (by have := b.toNat_lt; omega) W hsp hbd
theorem puts6_data {H : Type} {enc : TypeId × Value → H} {W : World} {base : Nat} {v0 v1 : Value} {d0 d1 : DataW H} {p0 p1 : List MemPlace}
    (u0 : Value.okWide Tryd.prog W .any base 23 v0) (h0 : DataW.Trod enc Tryd.prog W 0 (fun _ => true) true 23 v0 d0 p0)
    (u1 : Value.okWide Tryd.prog W .any base 9 v1) (h1 : DataW.Trod enc Tryd.prog W 0 (fun _ => true) true 9 v1 d1 p1)
    (hz : (DataW.weightsEach Tryd.prog [23, 9] [d0, d1]).all (· ≤ reachBytes) = true) (hsp : Spans W) (hbd : Bound W) :
    Calls Tryd.prog 4 #[v0, v1] W fun e w' => e = .returned (.bool true) ∧ Below W.heap.size W w' := by
  obtain ⟨l, q, c, rfl, hF, hl, hfs⟩ := open_flds u0 h0 (each_weight hz (j := 0) rfl rfl)
  obtain ⟨t, rfl, _⟩ := open_text u1 h1
  exact puts6_walk l t q c W hsp hbd hF hl hfs
theorem cuts6_data {H : Type} {enc : TypeId × Value → H} {W : World} {base : Nat} {v0 v1 : Value} {d0 d1 : DataW H} {p0 p1 : List MemPlace}
    (u0 : Value.okWide Tryd.prog W .any base 23 v0) (h0 : DataW.Trod enc Tryd.prog W 0 (fun _ => true) true 23 v0 d0 p0)
    (u1 : Value.okWide Tryd.prog W .any base 39 v1) (h1 : DataW.Trod enc Tryd.prog W 0 (fun _ => true) true 39 v1 d1 p1)
    (hz : (DataW.weightsEach Tryd.prog [23, 39] [d0, d1]).all (· ≤ reachBytes) = true) (hsp : Spans W) (hbd : Bound W) :
    Calls Tryd.prog 5 #[v0, v1] W fun e w' => e = .returned (.bool true) ∧ Below W.heap.size W w' := by
  obtain ⟨l, q, c, rfl, hF, hl, hfs⟩ := open_flds u0 h0 (each_weight hz (j := 0) rfl rfl)
  obtain ⟨n, rfl, hn⟩ := open_u16 u1 h1
  exact cuts6_walk l n hn q c W hsp hbd hF hl hfs
theorem sizes6_data {H : Type} {enc : TypeId × Value → H} {W : World} {base : Nat} {v0 : Value} {d0 : DataW H} {p0 : List MemPlace}
    (u0 : Value.okWide Tryd.prog W .any base 23 v0) (h0 : DataW.Trod enc Tryd.prog W 0 (fun _ => true) true 23 v0 d0 p0)
    (hz : (DataW.weightsEach Tryd.prog [23] [d0]).all (· ≤ reachBytes) = true) (hsp : Spans W) (hbd : Bound W) :
    Calls Tryd.prog 8 #[v0] W fun e w' => e = .returned (.bool true) ∧ Below W.heap.size W w' := by
  obtain ⟨l, q, c, rfl, hF, hl, hfs⟩ := open_flds u0 h0 (each_weight hz (j := 0) rfl rfl)
  exact sizes6_walk l q c W hsp hbd hF hl hfs

end Go.Proofs.YtdimobigdkmcbaaDoor
