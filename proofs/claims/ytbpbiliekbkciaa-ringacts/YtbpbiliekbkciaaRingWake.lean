/- The law's own small functions: wakes. -/
import Derived.Test.YtbpbiliekbkciaaRingPeek
import Derived.Test.YtbpbiliekbkciaaRingWrite
import Derived.Lib.SlBytesConst
namespace Go.Proofs.Ytbpbiliekbkciaa
open Go.ChangeShapes Go.WideShapes Go.ChangeAt Go.RowKit
set_option linter.unusedVariables false

theorem conv_rd {w : World} {v : Value} {xs : List UInt8} (h : RD w v xs) : (convert 29 9 v).run Try.prog w = .ok (.string ⟨xs.toArray⟩) w := by
  obtain ⟨p, cap, rfl, h1, h2, h3, h4⟩ := h
  cases p with
  | none =>
    have := h3 rfl
    subst this
    obtain rfl : xs = [] := List.eq_nil_of_length_eq_zero (by omega)
    exact run_convert_bytes_nil (P := Try.prog) w 29 5 Try.underlying29 Try.underlying5 0 0 9 Try.underlying9
  | some ad =>
    exact run_convert_bytes_back (P := Try.prog) w 29 9 5 ad cap xs Try.underlying29 Try.underlying5 Try.underlying9 (fun j hj => h4 ad rfl j _ (List.getElem?_eq_getElem hj))
theorem rd_lit (w : World) (xs : List UInt8) (fr : Nat × Nat) (h : xs.length ≤ 1000) : RD (w.alloc (.cells (bv xs).toArray 5 fr)) (.slice (some ⟨w.heap.size, 0, none⟩) xs.length xs.length) xs := by
  refine ⟨_, _, rfl, Nat.le_refl _, by simp only [maxLen]; omega, (fun h => by cases h), fun ad hp i b hb => ?_⟩
  cases hp
  rw [Addr.add_lit]
  have := World.alloc_heap_new w (.cells (bv xs).toArray 5 fr)
  generalize w.alloc (.cells (bv xs).toArray 5 fr) = w1 at this ⊢
  simp [World.cell?, this, bv, hb]

theorem row_rd {w : World} {p : Option Addr} {l c : Nat} {zs : List Int} (h : (p = none ∧ l = 0 ∧ c = 0 ∧ zs = []) ∨
    ∃ x, p = some x ∧ l ≤ c ∧ c ≤ maxLen ∧ zs.length = c ∧ (∀ i, i < zs.length → w.cell? (x.add i) = some (.int .u8 (zs.getD i 0))) ∧ ∀ n ∈ zs, (Lit.int .u8 n).wf = true) : ∃ xs, RD w (.slice p l c) xs := by
  rcases h with ⟨rfl, rfl, rfl, rfl⟩ | ⟨x, rfl, h1, h2, h3, h4, h5⟩
  · exact ⟨[], RD.nil w⟩
  · refine ⟨(zs.take l).map (fun n => UInt8.ofNat n.toNat), some x, c, by simp; omega, by simp; omega, h2, (fun h => by cases h), fun ad hp i b hb => ?_⟩
    cases hp
    have hi : i < l := by
      have := (List.getElem?_eq_some_iff.1 hb).1
      simp at this
      omega
    have hiz : i < zs.length := by omega
    rw [List.getElem?_map, List.getElem?_take, if_pos hi, List.getElem?_eq_getElem hiz] at hb
    simp only [Option.map_some, Option.some.injEq] at hb
    have hw := bounds_u8 (h5 zs[i] (List.getElem_mem hiz))
    rw [h4 i hiz, ← hb]
    have e : zs.getD i 0 = zs[i] := by simp [List.getD, List.getElem?_eq_getElem hiz]
    rw [e]
    congr 2
    simp
    omega

set_option maxHeartbeats 1000000 in
theorem wakes_any (w : World) : Calls Try.prog 8 #[] w fun e w' => e = .returned (.bool true) ∧ Below w.heap.size w w' := by
  go_enter Try.func8, Try.ntmps8
  go_wp2_with fail
  refine (new_any w 3 (by decide) (by decide)).mono ?_
  rintro e w1 ⟨R, M, rfl, hr1, hR, hM, b1⟩
  have HR1 := Lib.hid hr1
  have hl1 := hr1.lt
  have hne := hr1.ne
  clear hr1
  have hcv := fun (w : World) (C : Array Value) (n c : Nat) => Lib.run_convert_bytes_const (P := Try.prog) w 29 5 C n c Try.underlying29 Try.underlying5
  have rd1 := rd_lit w1 [97, 98, 99, 100] (4, 5) (by decide)
  have hw1 := write_any _ R M 3 0 0 _ (HR1.out.alloc (.cells (bv [97, 98, 99, 100]).toArray 5 (4, 5))) _ _ _ _ rd1 (fun _ => by simp [Value.ownBlock]; omega)
  have HW1 := Lib.hid hw1
  clear hw1 rd1
  go_wp2_with fail
  refine HW1.out.mono ?_
  clear HW1
  rintro e w2 ⟨rfl, ⟨cs1, hr2, hh2⟩, o2⟩
  have hz2 : held cs1 0 3 = [97, 98, 99] := by
    have := hh2
    rw [held_zero _ _ (by simp)] at this
    simpa using this
  have hl1c := hr2.len
  have hlt2 := hr2.lt
  have hrd := read_any w2 R M 3 0 3 cs1 2 hr2
  have e2 : held cs1 0 (upTo 2 3) = [97, 98] := by
    rw [← held_take cs1 0 3 _ (by omega) (by omega) (by decide), hz2]; rfl
  rw [e2] at hrd
  have HRD := Lib.hid hrd
  have H2 := Lib.hid hz2
  clear hrd e2 hz2 hh2 hr2
  go_wp2_with fail
  refine HRD.out.mono ?_
  clear HRD
  rintro e w3 ⟨v3, rfl, hv3, hb3, hr3, o3⟩
  have hc3 := conv_rd hv3
  obtain ⟨p3, c3, rfl, _⟩ := hv3
  have hc4 : (convert 29 9 (.slice p3 2 c3)).run Try.prog w3 = .ok (.string ⟨#[97, 98]⟩) w3 := hc3
  have rd4 := rd_lit w3 [100, 101] (2, 3) (by decide)
  have hlt3 := hr3.lt
  have hw4 := write_any _ R M 3 _ _ _ (hr3.alloc (.cells (bv [100, 101]).toArray 5 (2, 3))) _ _ _ _ rd4 (fun _ => by simp [Value.ownBlock]; omega)
  have HW4 := Lib.hid hw4
  clear hw4 rd4 hc3 hr3
  go_wp2_with fail
  refine HW4.out.mono ?_
  clear HW4
  rintro e w5 ⟨rfl, ⟨cs5, hr5, hh5⟩, o5⟩
  have hd := head_any w5 R M 3 _ _ _ hr5
  have HD := Lib.hid hd
  clear hd hh5 hr5
  go_wp2_with fail
  refine HD.out.mono ?_
  rintro e w6 ⟨rfl, rfl⟩
  go_wp2_with fail
  go_ret
  refine ⟨rfl, ?_⟩
  have z1 := b1.size
  have z2 := o2.size
  have z3 := o3.size
  have c1 : Below w.heap.size w (w1.alloc (.cells (bv [97, 98, 99, 100]).toArray 5 (4, 5))) := b1.alloc z1 _
  have c2 := o2.below c1 hR hM c1.size
  have c3' := o3.below c2 hR hM c2.size
  have c4 : Below w.heap.size w (w3.alloc (.cells (bv [100, 101]).toArray 5 (2, 3))) := c3'.alloc c3'.size _
  exact o5.below c4 hR hM c4.size

end Go.Proofs.Ytbpbiliekbkciaa
