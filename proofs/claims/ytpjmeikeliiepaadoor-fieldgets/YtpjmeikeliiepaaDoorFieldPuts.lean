/- The laws FieldPuts, FieldBlanks. -/
import Derived.Test.YtpjmeikeliiepaaDoorFieldLaws
import Derived.Deep.RegionHeld3
namespace Go.Proofs.YtpjmeikeliiepaaDoor
open Go.ChangeShapes Go.WideShapes Go.ChangeAt Go.RowKit
open Oc Fl
set_option linter.unusedVariables false

/-- What a field's block reads as, and that it lies there. -/
def Reads (w W : World) (x y : Value) : Prop := W.cell? ⟨w.heap.size, 0, none⟩ = some x ∧ W.cell? ⟨w.heap.size, 1, none⟩ = some y ∧ TwoAt w W x y
theorem TwoAt.reads {w W : World} {x y : Value} (h : TwoAt w W x y) : Reads w W x y := ⟨(two_cells h.1).1, (two_cells h.1).2.1, h⟩
theorem Reads.next {w W W' : World} {x y : Value} (h : Reads w W x y) (hb : Below W.heap.size W W') : Reads w W' x y := (h.2.2.below hb).reads
theorem Reads.two {w W : World} {x y : Value} (h : Reads w W x y) : W.cell? ⟨w.heap.size, 0, none⟩ = some x ∧ W.cell? ⟨w.heap.size, 1, none⟩ = some y := ⟨h.1, h.2.1⟩
theorem Reads.b {w W : World} {x y : Value} (h : Reads w W x y) : Below w.heap.size w W := h.2.2.2
theorem Reads.drew {w W : World} {x y : Value} (h : Reads w W x y) : Reads w W.drew x y := TwoAt.reads (w := w) (W := W.drew) ⟨h.2.2.1, h.2.2.2.drew⟩

set_option maxHeartbeats 4000000 in
theorem puts_walk (f : Fld) (w : World) (hsp : Spans w) :
    Calls Tryd.prog 4 #[fld f] w fun e w' => e = .returned (.bool true) ∧ Below w.heap.size w w' := by
  have hW : Hid (∀ W, Below w.heap.size w W → _) := Lib.hid fun W hb => wakes5 W (hsp.below hb)
  have h0 : Hid (Reads w (w.alloc (.cells #[.string f.name, .string f.value] 24)) (.string f.name) (.string f.value)) := Lib.hid (TwoAt.reads (TwoAt.drew w _ _ 0))
  by_cases hn : (300 : Int) < (f.name.size : Int)
  · clear hsp
    obtain ⟨x, y⟩ := f
    simp only at hn h0
    go_enter Tryd.func4, Tryd.ntmps4
    go_wp2_with fail
    refine (hW.out _ h0.out.b).mono ?_
    rintro e w1 ⟨rfl, hb⟩
    replace h0 := Lib.hid (h0.out.next hb)
    obtain ⟨c0, c1, _⟩ := h0.out
    clear hb
    go_wp2_with fail
    go_ret
    exact ⟨rfl, h0.out.b⟩
  by_cases hv : (300 : Int) < (f.value.size : Int)
  · clear hsp
    obtain ⟨x, y⟩ := f
    simp only at hn hv h0
    go_enter Tryd.func4, Tryd.ntmps4
    go_wp2_with fail
    refine (hW.out _ h0.out.b).mono ?_
    rintro e w1 ⟨rfl, hb⟩
    replace h0 := Lib.hid (h0.out.next hb)
    obtain ⟨c0, c1, _⟩ := h0.out
    clear hb
    go_wp2_with fail
    go_ret
    exact ⟨rfl, h0.out.b⟩
  have hn' : f.name.size ≤ 1099511627776 := by omega
  have hv' : f.value.size ≤ 1099511627776 := by omega
  have hR : Hid (∀ W, Below w.heap.size w W → _) := Lib.hid fun W hb => right_any f W hn' hv' (hsp.below hb)
  have hRR : Hid (∀ W, _) := Lib.hid fun W => rright_any f W hn' hv'
  cases hr : right f
  · have hP : Hid (∀ W, Below w.heap.size w W → _) := Lib.hid fun W hb => put_bad f W hn' hv' (hsp.below hb) hr
    rw [hr] at hR hRR
    clear hsp hr hn' hv'
    obtain ⟨x, y⟩ := f
    simp only at hn hv h0
    go_enter Tryd.func4, Tryd.ntmps4
    go_wp2_with fail
    refine (hW.out _ h0.out.b).mono ?_
    rintro e w1 ⟨rfl, hb⟩
    replace h0 := Lib.hid (h0.out.next hb)
    obtain ⟨c0, c1, _⟩ := h0.out
    clear hb hW
    go_wp2_with fail
    refine (hP.out _ h0.out.b).mono ?_
    rintro e w2 ⟨rfl, hb⟩
    replace h0 := Lib.hid (h0.out.next hb)
    clear hb hP c0 c1
    obtain ⟨c0, c1, _⟩ := h0.out
    have K6 := Lib.hid h0.out.drew
    go_wp2_with fail
    go_region_held3 (fun w' => w'.cell? ⟨w.heap.size, 0, none⟩ = some (.string x) ∧ w'.cell? ⟨w.heap.size, 1, none⟩ = some (.string y))
      (first | exact K6.out.two | exact K7.out.two | exact K8.out.two)
      (first
      | (go_at_call 11; first | (refine (hR.out _ K8.out.b).mono ?_; rintro e w7 ⟨rfl, hb7⟩; have K7 := Lib.hid (K8.out.next hb7); clear hb7) | (refine (hR.out _ K6.out.b).mono ?_; rintro e w7 ⟨rfl, hb7⟩; have K7 := Lib.hid (K6.out.next hb7); clear hb7))
      | (go_at_call 13; first | (refine (hRR.out _).mono ?_; rintro e w8 ⟨rfl, hb8⟩; have K8 := Lib.hid (K7.out.next hb8); clear hb8) | (refine (hRR.out _).mono ?_; rintro e w8 ⟨rfl, hb8⟩; have K8 := Lib.hid (K6.out.next hb8); clear hb8)))
    clear c0 c1 hR
    obtain ⟨c0, c1, _⟩ := K8.out
    go_wp2_with fail
    refine (hRR.out _).mono ?_
    rintro e w9 ⟨rfl, hb9⟩
    replace K8 := Lib.hid (K8.out.next hb9)
    clear c0 c1 hRR hb9
    go_wp2_with fail
    go_ret
    exact ⟨rfl, K8.out.b⟩
  · have hP : Hid (∀ W, Below w.heap.size w W → _) := Lib.hid fun W hb => put_good f W hn' hv' (hsp.below hb) hr
    have hL := line_size f
    have hlp := line_parse hr
    have hG : Hid (∀ W, Below w.heap.size w W → _) := Lib.hid fun W hb => parse_good (line f) W (by omega) (hsp.below hb) hlp.1
    have hPP : Hid (∀ W, _) := Lib.hid fun W => rput_any f W hn' hv'
    rw [hlp.2] at hG
    rw [hr] at hR hRR
    clear hsp hr hn' hv' hL hlp
    generalize line f = z at *
    obtain ⟨x, y⟩ := f
    simp only at hn hv h0
    go_enter Tryd.func4, Tryd.ntmps4
    go_wp2_with fail
    refine (hW.out _ h0.out.b).mono ?_
    rintro e w1 ⟨rfl, hb⟩
    replace h0 := Lib.hid (h0.out.next hb)
    obtain ⟨c0, c1, _⟩ := h0.out
    clear hb hW
    go_wp2_with fail
    refine (hP.out _ h0.out.b).mono ?_
    rintro e w2 ⟨rfl, hb⟩
    replace h0 := Lib.hid (h0.out.next hb)
    clear hb hP c0 c1
    obtain ⟨c0, c1, _⟩ := h0.out
    have K6 := Lib.hid h0.out.drew
    go_wp2_with fail
    go_region_held3 (fun w' => w'.cell? ⟨w.heap.size, 0, none⟩ = some (.string x) ∧ w'.cell? ⟨w.heap.size, 1, none⟩ = some (.string y))
      (first | exact K6.out.two | exact K7.out.two | exact K8.out.two)
      (first
      | (go_at_call 11; first | (refine (hR.out _ K8.out.b).mono ?_; rintro e w7 ⟨rfl, hb7⟩; have K7 := Lib.hid (K8.out.next hb7); clear hb7) | (refine (hR.out _ K6.out.b).mono ?_; rintro e w7 ⟨rfl, hb7⟩; have K7 := Lib.hid (K6.out.next hb7); clear hb7))
      | (go_at_call 13; first | (refine (hRR.out _).mono ?_; rintro e w8 ⟨rfl, hb8⟩; have K8 := Lib.hid (K7.out.next hb8); clear hb8) | (refine (hRR.out _).mono ?_; rintro e w8 ⟨rfl, hb8⟩; have K8 := Lib.hid (K6.out.next hb8); clear hb8)))
    clear c0 c1 hR
    obtain ⟨c0, c1, _⟩ := K8.out
    go_wp2_with fail
    refine (hRR.out _).mono ?_
    rintro e w9 ⟨rfl, hb9⟩
    replace K8 := Lib.hid (K8.out.next hb9)
    clear c0 c1 hRR hb9
    go_wp2_with fail
    refine (hG.out _ K8.out.b).mono ?_
    rintro e w10 ⟨rfl, hb9⟩
    replace K8 := Lib.hid (K8.out.next hb9)
    clear hG hb9
    obtain ⟨c0, c1, _⟩ := K8.out
    have hlt : w.heap.size < w10.heap.size := (Array.getElem?_eq_some_iff.1 K8.out.2.2.1).1
    go_wp2_with fail
    have hA := Lib.hid (TwoAt.reads (TwoAt.drew w10 (.string x) (.string y) 0))
    simp only [World.drewN_zero] at hA
    replace K8 := Lib.hid (K8.out.next (below_box w10 (.cells #[.string x, .string y] 24)))
    clear c0 c1
    generalize w10.alloc _ = W at hA K8 ⊢
    refine (hPP.out _).mono ?_
    rintro e W1 ⟨rfl, hb9⟩
    replace K8 := Lib.hid (K8.out.next hb9)
    replace hA := Lib.hid (hA.out.next hb9)
    clear hb9 hPP
    obtain ⟨c0, c1, _⟩ := K8.out
    obtain ⟨d0, d1, _⟩ := hA.out
    have hzz : (z.toList == z.toList) = true := beq_self_eq_true _
    go_wp2_with fail
    go_ret
    exact ⟨rfl, K8.out.b⟩

/-- A text with k bytes c behind it. -/
def more (x : ByteArray) (c : UInt8) (k : Nat) : ByteArray := x ++ ⟨(List.replicate k c).toArray⟩
theorem more_zero (x : ByteArray) (c : UInt8) : more x c 0 = x := by refine b_ext ?_; simp [more]
theorem more_succ (x : ByteArray) (c : UInt8) (k : Nat) : more x c k ++ ⟨#[c]⟩ = more x c (k + 1) := by
  refine b_ext ?_
  simp [more, List.replicate_succ']
theorem more_size (x : ByteArray) (c : UInt8) (k : Nat) : (more x c k).size = x.size + k := by
  rw [← blen', more]
  simp
theorem more_list (x : ByteArray) (c : UInt8) (k : Nat) : (more x c k).data.toList = x.data.toList ++ List.replicate k c := by simp [more]
theorem blanks_parse (f : Fld) (i j : Nat) (hr : right f = true) :
    good (more (more (f.name ++ ⟨#[58]⟩) 32 i ++ f.value) 9 j) = true ∧ parsed (more (more (f.name ++ ⟨#[58]⟩) 32 i ++ f.value) 9 j) = f :=
  parse_line hr (b := List.replicate i 32) (c := List.replicate j 9) (fun x hx => by rw [(List.mem_replicate.1 hx).2]; decide) (fun x hx => by rw [(List.mem_replicate.1 hx).2]; decide) (by
    rw [more_list]
    simp [more_list])

set_option maxHeartbeats 4000000 in
theorem blanks_walk (f : Fld) (a b : UInt8) (w : World) (hsp : Spans w) :
    Calls Tryd.prog 6 #[fld f, .int .u8 (a.toNat : Int), .int .u8 (b.toNat : Int)] w fun e w' => e = .returned (.bool true) ∧ Below w.heap.size w w' := by
  have hW : Hid (∀ W, Below w.heap.size w W → _) := Lib.hid fun W hb => wakes5 W (hsp.below hb)
  have h0 : Hid (Reads w (w.alloc (.cells #[.string f.name, .string f.value] 24)) (.string f.name) (.string f.value)) := Lib.hid (TwoAt.reads (TwoAt.drew w _ _ 0))
  by_cases hn : (300 : Int) < (f.name.size : Int)
  · clear hsp
    obtain ⟨x, y⟩ := f
    simp only at hn h0
    go_enter Tryd.func6, Tryd.ntmps6
    go_wp2_with fail
    refine (hW.out _ h0.out.b).mono ?_
    rintro e w1 ⟨rfl, hb⟩
    replace h0 := Lib.hid (h0.out.next hb)
    obtain ⟨c0, c1, _⟩ := h0.out
    clear hb
    go_wp2_with fail
    go_ret
    exact ⟨rfl, h0.out.b⟩
  by_cases hv : (300 : Int) < (f.value.size : Int)
  · clear hsp
    obtain ⟨x, y⟩ := f
    simp only at hn hv h0
    go_enter Tryd.func6, Tryd.ntmps6
    go_wp2_with fail
    refine (hW.out _ h0.out.b).mono ?_
    rintro e w1 ⟨rfl, hb⟩
    replace h0 := Lib.hid (h0.out.next hb)
    obtain ⟨c0, c1, _⟩ := h0.out
    clear hb
    go_wp2_with fail
    go_ret
    exact ⟨rfl, h0.out.b⟩
  have hn' : f.name.size ≤ 1099511627776 := by omega
  have hv' : f.value.size ≤ 1099511627776 := by omega
  have hRR : Hid (∀ W, _) := Lib.hid fun W => rright_any f W hn' hv'
  cases hr : right f
  · rw [hr] at hRR
    clear hsp hr hn' hv'
    obtain ⟨x, y⟩ := f
    simp only at hn hv h0
    go_enter Tryd.func6, Tryd.ntmps6
    go_wp2_with fail
    refine (hW.out _ h0.out.b).mono ?_
    rintro e w1 ⟨rfl, hb⟩
    replace h0 := Lib.hid (h0.out.next hb)
    obtain ⟨c0, c1, _⟩ := h0.out
    clear hb hW
    go_wp2_with fail
    refine (hRR.out _).mono ?_
    rintro e w2 ⟨rfl, hb⟩
    replace h0 := Lib.hid (h0.out.next hb)
    clear hb c0 c1
    go_wp2_with fail
    go_ret
    exact ⟨rfl, h0.out.b⟩
  · obtain ⟨m, hm, em⟩ : ∃ m : Nat, m < 5 ∧ (a.toNat : Int).tmod 5 = (m : Int) := ⟨a.toNat % 5, Nat.mod_lt _ (by decide), by rw [Int.tmod_eq_emod_of_nonneg (by omega)]; omega⟩
    obtain ⟨l, hl, el⟩ : ∃ l : Nat, l < 5 ∧ (b.toNat : Int).tmod 5 = (l : Int) := ⟨b.toNat % 5, Nat.mod_lt _ (by decide), by rw [Int.tmod_eq_emod_of_nonneg (by omega)]; omega⟩
    have a0 := byte_lo a
    have a1 := byte_hi a
    have b0 := byte_lo b
    have b1 := byte_hi b
    have hbp := blanks_parse f m l hr
    have hsz : (more (more (f.name ++ ⟨#[58]⟩) 32 m ++ f.value) 9 l).size ≤ 1099511627776 := by
      rw [more_size, ByteArray.size_append, more_size, ByteArray.size_append]
      have : (⟨#[58]⟩ : ByteArray).size = 1 := rfl
      omega
    have hG : Hid (∀ W, Below w.heap.size w W → _) := Lib.hid fun W hb => parse_good (more (more (f.name ++ ⟨#[58]⟩) 32 m ++ f.value) 9 l) W hsz (hsp.below hb) hbp.1
    rw [hbp.2] at hG
    rw [hr] at hRR
    clear hsp hr hbp hsz
    obtain ⟨x, y⟩ := f
    simp only at hn hv hn' hv' h0 hG
    obtain ⟨P, hP⟩ : ∃ P : Nat → ByteArray, P = fun k => more (x ++ ⟨#[58]⟩) 32 k := ⟨_, rfl⟩
    have P0 : Hid (P 0 = x ++ ⟨#[58]⟩) := Lib.hid (by rw [hP]; exact more_zero _ _)
    have P1 : Hid (∀ k, P k ++ ⟨#[32]⟩ = P (k + 1)) := Lib.hid fun k => by rw [hP]; exact more_succ _ _ _
    have P2 : Hid (∀ k, (P k).size = x.size + 1 + k) := Lib.hid fun k => by rw [hP]; show (more _ _ _).size = _; rw [more_size, ByteArray.size_append]; rfl
    obtain ⟨Q, hQ⟩ : ∃ Q : Nat → ByteArray, Q = fun k => more (P m ++ y) 9 k := ⟨_, rfl⟩
    have Q0 : Hid (Q 0 = P m ++ y) := Lib.hid (by rw [hQ]; exact more_zero _ _)
    have Q1 : Hid (∀ k, Q k ++ ⟨#[9]⟩ = Q (k + 1)) := Lib.hid fun k => by rw [hQ]; exact more_succ _ _ _
    have Q2 : Hid (∀ k, (Q k).size = x.size + 1 + m + y.size + k) := Lib.hid fun k => by rw [hQ]; show (more _ _ _).size = _; rw [more_size, ByteArray.size_append, P2.out]
    have hQl : more (more (x ++ ⟨#[58]⟩) 32 m ++ y) 9 l = Q l := by rw [hQ, hP]
    rw [hQl] at hG
    clear hQl hQ hP
    go_enter Tryd.func6, Tryd.ntmps6
    go_wp2_with fail
    refine (hW.out _ h0.out.b).mono ?_
    rintro e w1 ⟨rfl, hb⟩
    replace h0 := Lib.hid (h0.out.next hb)
    obtain ⟨c0, c1, _⟩ := h0.out
    clear hb hW
    go_wp2_with fail
    refine (hRR.out _).mono ?_
    rintro e w2 ⟨rfl, hb⟩
    replace h0 := Lib.hid (h0.out.next hb)
    clear hb c0 c1 hRR
    obtain ⟨c0, c1, _⟩ := h0.out
    go_wp2_with fail
    go_loop [7, 33] (fun s i => ∃ k : Nat, k ≤ m ∧ i = .int .i64 k ∧ s = .string (P k)) (fun s i => m - (intOf i).toNat)
    case atStart => exact ⟨0, Nat.zero_le _, rfl, by rw [P0.out]⟩
    case round =>
      obtain ⟨k, hk, rfl, rfl⟩ := hrel
      have hz := P2.out k
      by_cases hkm : k < m
      · go_wp2_with fail
        go_round
        case rel => exact ⟨k + 1, by omega, by go_num, by rw [← P1.out]⟩
        case measure => simp [intOf]; omega
      · obtain rfl : k = m := by omega
        go_wp2_with fail
        go_loop [7, 45] (fun s i => ∃ k : Nat, k ≤ l ∧ i = .int .i64 k ∧ s = .string (Q k)) (fun s i => l - (intOf i).toNat)
        case atStart => exact ⟨0, Nat.zero_le _, rfl, by rw [Q0.out]⟩
        case round =>
          obtain ⟨j, hj, rfl, rfl⟩ := hrel
          have hz := Q2.out j
          by_cases hjl : j < l
          · go_wp2_with fail
            go_round
            case rel => exact ⟨j + 1, by omega, by go_num, by rw [← Q1.out]⟩
            case measure => simp [intOf]; omega
          · obtain rfl : j = l := by omega
            go_wp2_with fail
            refine (hG.out _ h0.out.b).mono ?_
            rintro e w10 ⟨rfl, hb9⟩
            replace h0 := Lib.hid (h0.out.next hb9)
            clear hG hb9 c0 c1
            obtain ⟨c0, c1, _⟩ := h0.out
            have hlt : w.heap.size < w10.heap.size := (Array.getElem?_eq_some_iff.1 h0.out.2.2.1).1
            go_wp2_with fail
            go_ret
            exact ⟨rfl, ahead h0.out.b (below_box _ _)⟩

end Go.Proofs.YtpjmeikeliiepaaDoor
