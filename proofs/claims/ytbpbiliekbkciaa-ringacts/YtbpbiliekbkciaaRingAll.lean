/- The ring's iterator over places and bytes. -/
import Derived.Test.YtbpbiliekbkciaaRingSpans
namespace Go.Proofs.Ytbpbiliekbkciaa
open Go.ChangeShapes Go.WideShapes Go.ChangeAt Go.RowKit
open Go.Shelf
set_option linter.unusedVariables false
attribute [local go_sem] Oper.semAt_some

theorem all_any (w : World) (R : Nat) :
    Calls Try.prog 22 #[.pointer (some ⟨R, 0, none⟩)] w fun e w' => e = .returned (.func (.func 29) #[] #[.pointer (some ⟨w.heap.size, 0, none⟩)]) ∧ w' = w.alloc (.cells #[.pointer (some ⟨R, 0, none⟩)] 25) := by
  go_enter Try.func22, Try.ntmps22
  go_wp2_with fail
  go_ret
  exact ⟨rfl, rfl⟩

/-- What it hands over. -/
def pairs (N h : Nat) (l : List UInt8) : List (Array Value) := (List.range l.length).map fun i => #[.int .i64 (((h + i) % N : Nat) : Int), .int .u8 ((l.getD i 0).toNat : Int)]
theorem pairs_len (N h : Nat) (l : List UInt8) : (pairs N h l).length = l.length := by simp [pairs]
theorem pairs_get (N h : Nat) (l : List UInt8) (i : Nat) (b : UInt8) (hb : l[i]? = some b) : (pairs N h l)[i]? = some #[.int .i64 (((h + i) % N : Nat) : Int), .int .u8 (b.toNat : Int)] := by
  have hlt := (List.getElem?_eq_some_iff.1 hb).1
  have : l[i] = b := by rw [List.getElem?_eq_getElem hlt] at hb; exact Option.some.inj hb
  simp [pairs, hlt, this]

theorem all_seq (Bx R M N h k : Nat) (cs : List UInt8) :
    Seq Try.prog 29 #[.pointer (some ⟨Bx, 0, none⟩)] (pairs N h (held cs h k)) (fun W => W.cell? ⟨Bx, 0, none⟩ = some (.pointer (some ⟨R, 0, none⟩)) ∧ RingAt W R M N h k cs) True := by
  intro l J Jx W hJ hJx hSt hY h0
  obtain ⟨b0, H⟩ := hSt 0 W h0
  have hsp := spans_any W R M N h k cs H
  have h1 := H.c1
  have hh := H.hh
  have hk := H.hk
  have hN := H.hN
  have hlen : (pairs N h (held cs h k)).length = k := by rw [pairs_len, held_len cs h k (by rw [H.len]; exact hh) (by rw [H.len]; exact hk)]
  have HY := Lib.hid hY
  have HJ := Lib.hid hJ
  have HL := Lib.hid hlen
  clear hY hJ hJx hSt H hlen
  refine callsIn_of_wp Try.func29 rfl trivial ?_ rfl
  simp only [Try.ntmps29, List.size_toArray, List.length_cons, List.length_nil, Nat.reduceAdd, Nat.reduceSub, Array.replicate_succ, Array.replicate_zero, List.push_toArray, List.append_toArray, List.nil_append, List.cons_append]
  gi_wp2_with fail
  refine ⟨trivial, rfl, (callsIn_wide.2 hsp).mono ?_⟩
  rintro e W1 ⟨v1, v2, A, B, rfl, hAB, hlA, hr1, hr2, hf1, hf2, hb1⟩
  have hJ1 := HJ.out 0 W W1 h0 hb1
  have hz1 := hb1.size
  obtain ⟨p1, c1, rfl, q1, q2, q3, q4⟩ := hr1
  obtain ⟨p2, c2, rfl, t1, t2, t3, t4⟩ := hr2
  clear hsp b0 h1
  have HAB := Lib.hid hAB
  have hAN : h + A.length ≤ N := by omega
  have hABl : A.length + B.length = k := by
    have := HL.out
    rw [pairs_len, ← hAB, List.length_append] at this
    exact this
  have hBN : B.length ≠ 0 → h + A.length = N := by omega
  have HKL := Lib.hid hABl
  have HBN := Lib.hid hBN
  have hkk : A.length + B.length ≤ 65536 := by omega
  have HF1 := Lib.hid hf1
  have HF2 := Lib.hid hf2
  clear hAB hlA hABl hBN hf1 hf2
  gi_wp2_with fail
  gi_loopw [21] (fun i wr => ∃ n : Nat, i = .int .i64 (n : Int) ∧ n ≤ A.length ∧ J n wr ∧ RD wr (.slice p1 A.length c1) A ∧ RD wr (.slice p2 B.length c2) B ∧ W.heap.size ≤ wr.heap.size) (fun i _ => A.length - (intOf i).toNat)
  case atStart => exact ⟨0, rfl, Nat.zero_le _, hJ1, ⟨_, _, rfl, q1, q2, q3, q4⟩, ⟨_, _, rfl, t1, t2, t3, t4⟩, hz1⟩
  case round =>
    obtain ⟨n, rfl, hn, hJn, hA, hB, hz⟩ := hrel
    by_cases hlt : n < A.length
    · cases p1 with
      | none => have := q3 rfl; omega
      | some ad =>
        have hbn : A[n]? = some A[n] := List.getElem?_eq_getElem hlt
        have hcell := (show ∀ i b, A[i]? = some b → wr.cell? (ad.add i) = some (.int .u8 (b.toNat : Int)) by
          obtain ⟨_, _, e, _, _, _, h4⟩ := hA
          cases e
          exact h4 ad rfl) n _ hbn
        obtain ⟨fn, tm, asg, bo, hy, hR⟩ := HY.out n wr #[.int .i64 ((h : Int) + (n : Int)), .int .u8 (A[n].toNat : Int)] hJn hz (by
          rw [pairs_get N h (held cs h k) n A[n] (by rw [← HAB.out, List.getElem?_append_left hlt]; exact hbn), Nat.mod_eq_of_lt (by omega)]
          simp)
        have HA := Lib.hid hA
        have HB := Lib.hid hB
        generalize A[n] = bb at hcell hy hR
        clear hbn hA hB q4 t4
        gi_wp2_with fail
        refine ⟨rfl, hR.mono ?_⟩
        rintro e W2 (⟨rfl, hJ2, hs2, hk2⟩ | ⟨rfl, hx2⟩)
        · have HA2 := Lib.hid (HA.out.same (W' := W2) fun r hr hlt => hk2 trivial r (HF1.out r hr) hlt)
          have HB2 := Lib.hid (HB.out.same (W' := W2) fun r hr hlt => hk2 trivial r (HF2.out r hr) hlt)
          clear hk2 hcell hy
          gi_wp2_with fail
          go_roundw
          case rel => exact ⟨n + 1, by go_num, by omega, hJ2, HA2.out, HB2.out, by omega⟩
          case measure => simp [intOf]; omega
        · clear hcell hy
          gi_wp2_with fail
          refine bodyPost_ret (results_none rfl _ _ _) rfl ?_
          exact ⟨⟨_, rfl⟩, .inr ⟨n + 1, by rw [HL.out, ← HKL.out]; omega, hx2⟩⟩
    · obtain rfl : n = A.length := by omega
      clear hn hlt q4 t4
      gi_wp2_with fail
      gi_loopw [36] (fun i wr => ∃ n : Nat, i = .int .i64 (n : Int) ∧ n ≤ B.length ∧ J (A.length + n) wr ∧ RD wr (.slice p2 B.length c2) B ∧ W.heap.size ≤ wr.heap.size) (fun i _ => B.length - (intOf i).toNat)
      case atStart => exact ⟨0, rfl, Nat.zero_le _, hJn, hB, hz⟩
      case round =>
        clear hJn hA hB hz
        obtain ⟨n, rfl, hn, hJn, hB, hz⟩ := hrel
        by_cases hlt : n < B.length
        · cases p2 with
          | none => have := t3 rfl; omega
          | some ad =>
            have hbn : B[n]? = some B[n] := List.getElem?_eq_getElem hlt
            have hcell := (show ∀ i b, B[i]? = some b → wr.cell? (ad.add i) = some (.int .u8 (b.toNat : Int)) by
              obtain ⟨_, _, e, _, _, _, h4⟩ := hB
              cases e
              exact h4 ad rfl) n _ hbn
            have hrnd : h + A.length = N := HBN.out (by omega)
            obtain ⟨fn, tm, asg, bo, hy, hR⟩ := HY.out (A.length + n) wr #[.int .i64 (n : Int), .int .u8 (B[n].toNat : Int)] hJn hz (by
              have e : (h + (A.length + n)) % N = n := by
                rw [← Nat.add_assoc, hrnd, Nat.add_mod_left, Nat.mod_eq_of_lt]
                have := HKL.out
                omega
              rw [pairs_get N h (held cs h k) (A.length + n) B[n] (by rw [← HAB.out, List.getElem?_append_right (by omega), Nat.add_sub_cancel_left]; exact hbn), e])
            have HB := Lib.hid hB
            generalize B[n] = bb at hcell hy hR
            clear hbn hB hrnd
            gi_wp2_with fail
            refine ⟨rfl, hR.mono ?_⟩
            rintro e W2 (⟨rfl, hJ2, hs2, hk2⟩ | ⟨rfl, hx2⟩)
            · have HB2 := Lib.hid (HB.out.same (W' := W2) fun r hr hlt => hk2 trivial r (HF2.out r hr) hlt)
              clear hk2 hcell hy
              gi_wp2_with fail
              go_roundw
              case rel => exact ⟨n + 1, by go_num, by omega, hJ2, HB2.out, by omega⟩
              case measure => simp [intOf]; omega
            · clear hcell hy
              gi_wp2_with fail
              refine bodyPost_ret (results_none rfl _ _ _) rfl ?_
              exact ⟨⟨_, rfl⟩, .inr ⟨A.length + n + 1, by rw [HL.out, ← HKL.out]; omega, hx2⟩⟩
        · obtain rfl : n = B.length := by omega
          clear hn hlt
          gi_wp2_with fail
          go_end0
          exact ⟨⟨_, rfl⟩, .inl (by rw [HL.out, ← HKL.out]; exact hJn)⟩

end Go.Proofs.Ytbpbiliekbkciaa
