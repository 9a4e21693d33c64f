/- The law RingTurns. -/
import Derived.Test.YtbpbiliekbkciaaRingWake
namespace Go.Proofs.Ytbpbiliekbkciaa
open Go.ChangeShapes Go.WideShapes Go.ChangeAt Go.RowKit
set_option linter.unusedVariables false

set_option maxHeartbeats 2000000 in
theorem turns_walk (a b : Int) (a0 : 0 ≤ a) (a1 : a ≤ 255) (b0 : 0 ≤ b) (b1 : b ≤ 65535) (w : World) :
    Calls Try.prog 7 #[.int .u8 a, .int .u16 b] w fun e w' => e = .returned (.bool true) ∧ Below w.heap.size w w' := by
  obtain ⟨N, hN⟩ : ∃ N : Nat, a % 20 + 1 = (N : Int) := ⟨(a % 20 + 1).toNat, by omega⟩
  have hN1 : 1 ≤ N := by omega
  have hN2 : N ≤ 20 := by omega
  obtain ⟨T, hT⟩ : ∃ T : Nat, b % 200 = (T : Int) := ⟨(b % 200).toNat, by omega⟩
  have hT2 : T < 200 := by omega
  go_enter Try.func7, Try.ntmps7
  go_wp2_with (go_at_call 8; refine (wakes_any _).mono ?_; rintro e w0 ⟨rfl, hb0⟩)
  refine (new_any w0 N hN1 (by omega)).mono ?_
  rintro e w1 ⟨R, M, rfl, hr1, hR, hM, hb1⟩
  have hB1 : Below w.heap.size w w1 := hb0.trans (hb1.mono hb0.size)
  have hRw : w.heap.size ≤ R := Nat.le_trans hb0.size hR
  have hMw : w.heap.size ≤ M := Nat.le_trans hb0.size hM
  have HR1 := Lib.hid hr1
  clear hr1 hb1 hb0
  go_wp2_with fail
  go_loopw [30] (fun i wr => ∃ (n : Nat) (cs : List UInt8), i = .int .i64 (n : Int) ∧ n ≤ T ∧ RingAt wr R M N (n % N) 0 cs ∧ Below w.heap.size w wr) (fun i _ => T - (intOf i).toNat)
  case atStart => exact ⟨0, _, rfl, Nat.zero_le _, by rw [Nat.zero_mod]; exact HR1.out, hB1⟩
  case round =>
    clear HR1 hB1
    obtain ⟨n, cs, rfl, hn, hr, hB⟩ := hrel
    have HH := Lib.hid hr
    have hl := hr.lt
    clear hr
    by_cases hlt : n < T
    · have hlt' : (n : Int) < b % 200 := by omega
      clear hT
      have e8 : (UInt8.ofNat n).toNat = n := by simp; omega
      have hu8 : IntKind.u8.wrap (n : Int) = (n : Int) := IntWalk.u8_in _ (by omega)
      have hz : ¬ (N = 0) := by omega
      have htm : (n : Int).tmod (N : Int) = (n : Int) % (N : Int) := Int.tmod_eq_emod_of_nonneg (by omega)
      have hrem : IntKind.i64.wrap ((n : Int).tmod (N : Int)) = ((n % N : Nat) : Int) := by
        have : (n : Int).tmod (N : Int) = ((n % N : Nat) : Int) := rfl
        rw [this]
        have := Nat.mod_lt n (show 0 < N by omega)
        exact IntWalk.i64_in _ (by omega)
      have rd1 : RD (wr.alloc (.cells #[.int .u8 (n : Int)] 5)).drew (.slice (some ⟨wr.heap.size, 0, none⟩) 1 1) [UInt8.ofNat n] := by
        have := rd_lit wr [UInt8.ofNat n] (0, 0) (by simp)
        simp only [bv, List.map_cons, List.map_nil, e8] at this
        exact this.kept (fun _ _ => rfl)
      have hw1 := write_any _ R M N (n % N) 0 cs (HH.out.alloc (.cells #[.int .u8 (n : Int)] 5)).drew _ _ _ _ rd1 (fun _ => by simp [Value.ownBlock]; omega)
      have e1 : min [UInt8.ofNat n].length (N - 0) = 1 := by simp; omega
      rw [e1] at hw1
      have HW := Lib.hid hw1
      have E8 := Lib.hid e8
      clear hw1 rd1 e1 e8
      go_wp2_with fail
      go_region_with (first
        | (go_at_call 13; refine HW.out.mono ?_; rintro e w2 ⟨rfl, ⟨cs2, hr2, hh2⟩, o2⟩)
        | (go_at_call 24; refine (head_any _ R M N (n % N) (0 + 1) cs2 hr2).mono ?_; rintro e w3 ⟨rfl, rfl⟩))
      simp only [Act.put, List.getElem_toArray, List.getElem_cons_zero, List.getElem_cons_succ, List.setIfInBounds_toArray, List.set_cons_succ, List.set_cons_zero]
      have hcl := hr2.len
      have hhN := hr2.hh
      have hx2 : held cs2 (n % N) 1 = [UInt8.ofNat n] := by
        have := hh2
        rw [held_zero _ _ (by rw [HH.out.len]; exact HH.out.hh)] at this
        simpa using this
      have hrd := read_any w2 R M N (n % N) 1 cs2 1 hr2
      have e1 : upTo 1 1 = 1 := rfl
      rw [e1, hx2] at hrd
      have HRD := Lib.hid hrd
      have hl2 := hr2.lt
      clear hrd hx2 hh2 hr2 e1 hcl hhN
      go_wp2_with fail
      refine HRD.out.mono ?_
      clear HRD
      rintro e w3 ⟨v3, rfl, hv3, hbl3, hr3, o3⟩
      obtain ⟨p3, c3, rfl, _, _, h3, h4⟩ := hv3
      cases p3 with
      | none => simp [Value.ownBlock] at hbl3
      | some ad =>
        have hcell : w3.cell? ad = some (.int .u8 (n : Int)) := by
          have := h4 ad rfl 0 _ rfl
          rwa [E8.out, Addr.add_zero'] at this
        have hsz : Below w.heap.size w w3 := by
          have c1 : Below w.heap.size w (wr.alloc (.cells #[.int .u8 (n : Int)] 5)).drew := (hB.alloc hB.size _).drew
          have c2 := o2.below c1 hRw hMw c1.size
          exact o3.below c2 hRw hMw c2.size
        have e5 : (n % N + 1) % N = (n + 1) % N := by rw [Nat.mod_add_mod]
        rw [e5] at hr3
        have H3 := Lib.hid hr3
        clear h4 hr3 e5
        go_wp2_with fail
        go_roundw
        case rel => exact ⟨n + 1, cs2, by go_num, by omega, H3.out, hsz⟩
        case measure => simp [intOf]; omega
    · have hlt' : ¬ ((n : Int) < b % 200) := by omega
      clear hT
      have hln := len_any wr R M N (n % N) 0 cs HH.out
      go_wp2_with fail
      refine hln.mono ?_
      rintro e w4 ⟨rfl, rfl⟩
      go_wp2_with fail
      go_ret
      exact ⟨rfl, hB⟩

theorem turns_said (a b : Int) (wa : (Lit.int .u8 a).wf = true) (wb : (Lit.int .u16 b).wf = true) (w : World) :
    Calls Try.prog 7 #[.int .u8 a, .int .u16 b] w fun e w' => e = .returned (.bool true) ∧ Below w.heap.size w w' := by
  have h1 := bounds_u8 wa
  have h2 := bounds_u16 wb
  exact turns_walk a b h1.1 h1.2 h2.1 h2.2 w

end Go.Proofs.Ytbpbiliekbkciaa
