/- The law RingOrder. -/
import Derived.Test.YtbpbiliekbkciaaRingWake
import Derived.Test.YtbpbiliekbkciaaRingRef
namespace Go.Proofs.Ytbpbiliekbkciaa
open Go.ChangeShapes Go.WideShapes Go.ChangeAt Go.RowKit
set_option linter.unusedVariables false

/-- Behind n rounds. -/
def OrdI (w w1 wr : World) (R M N : Nat) (v0 : Value) (xs : List UInt8) (n : Nat) (vo vr : Value) : Prop :=
  ∃ cs h k os rs, RingAt wr R M N h k cs ∧ os ++ held cs h k ++ rs = xs ∧ k + rs.length ≤ xs.length - n ∧ wr.ownsRow w1.heap.size 5 1 vo os.length (bv os) ∧ RD wr vr rs ∧
    (∀ g, vr.ownBlock = some g → v0.ownBlock = some g) ∧ Below w.heap.size w wr ∧ w1.heap.size ≤ wr.heap.size

set_option maxHeartbeats 2000000 in
theorem order_walk (a c : Int) (a0 : 0 ≤ a) (a1 : a ≤ 255) (c0 : 0 ≤ c) (c1 : c ≤ 255) (p : Option Addr) (l d : Nat) (xs : List UInt8) (w : World) (hx : RD w (.slice p l d) xs) :
    Calls Try.prog 4 #[.int .u8 a, .slice p l d, .int .u8 c] w fun e w' => e = .returned (.bool true) ∧ Below w.heap.size w w' := by
  have h1 := hx.len
  subst h1
  have hd : xs.length ≤ 9223372036854775807 := by
    obtain ⟨_, _, e, h1, h2, _⟩ := hx
    cases e
    simp only [maxLen] at h2
    omega
  by_cases hg : (400 : Int) < (xs.length : Int)
  · go_enter Try.func4, Try.ntmps4
    go_wp2_with (go_at_call 8; refine (wakes_any _).mono ?_; rintro e w0 ⟨rfl, hb0⟩)
    go_ret
    exact ⟨rfl, hb0⟩
  · obtain ⟨N, hN⟩ : ∃ N : Nat, a + 1 = (N : Int) := ⟨(a + 1).toNat, by omega⟩
    have hN1 : 1 ≤ N := by omega
    have hN2 : N ≤ 256 := by omega
    have hlo : (xs.length : Int) ≤ 400 := by omega
    clear hg hd
    have HX := Lib.hid hx
    clear hx
    go_enter Try.func4, Try.ntmps4
    go_wp2_with (go_at_call 8; refine (wakes_any _).mono ?_; rintro e w0 ⟨rfl, hb0⟩)
    refine (new_any w0 N hN1 (by omega)).mono ?_
    rintro e w1 ⟨R, M, rfl, hr1, hR, hM, hb1⟩
    have hB1 : Below w.heap.size w w1 := hb0.trans (hb1.mono hb0.size)
    have hRw : w.heap.size ≤ R := Nat.le_trans hb0.size hR
    have hMw : w.heap.size ≤ M := Nat.le_trans hb0.size hM
    have hl1 := hr1.lt
    have HI : Hid (OrdI w w1 w1 R M N (.slice p xs.length d) xs 0 (.slice none 0 0) (.slice p xs.length d)) :=
      Lib.hid ⟨_, _, _, [], xs, hr1, by rw [held_zero _ _ (by simp; omega)]; rfl, by omega, World.ownsRow_nil _ _ _ _, HX.out.below hB1, fun g h => h, hB1, Nat.le_refl _⟩
    clear hr1 hb1 hb0 hB1
    go_wp2_with fail
    go_loopw [9, 10, 35] (fun vo vr i wr => ∃ (n : Nat), i = .int .i64 (n : Int) ∧ n ≤ 2 * xs.length + 2 ∧ OrdI w w1 wr R M N (.slice p xs.length d) xs n vo vr) (fun _ _ i _ => 2 * xs.length + 2 - (intOf i).toNat)
    case atStart => exact ⟨0, rfl, Nat.zero_le _, HI.out⟩
    case round =>
      clear HI
      obtain ⟨n, rfl, hn, hI⟩ := hrel
      obtain ⟨cs, h, k, os, rs, j1, j2, j3, j4, j5, j6, j7, j8⟩ := hI
      have q1 := j1.lt
      have q2 := j1.hk
      have q3 := j1.hh
      have q4 := j1.len
      have q5 := j1.hN
      obtain ⟨pr, cr, rfl, _⟩ := id j5
      have hM2 : rs ≠ [] → (Value.slice pr rs.length cr).ownBlock ≠ some M := fun hne e => by
        have hxn : xs ≠ [] := fun e3 => by
          have h3 : xs.length = 0 := by rw [e3]; rfl
          exact hne (List.eq_nil_of_length_eq_zero (by omega))
        obtain ⟨g, e1, e2⟩ := HX.out.lt hxn
        have := j6 M e
        rw [this] at e1
        cases e1
        omega
      by_cases hlt : n < 2 * xs.length + 2
      · have hlt' : (n : Int) < 2 * (xs.length : Int) + 2 := by omega
        obtain ⟨m, hm⟩ : ∃ m, min rs.length (N - k) = m := ⟨_, rfl⟩
        have hw := write_any wr R M N h k cs j1 pr rs.length cr rs j5 hM2
        rw [hm] at hw
        have hcut := cut_l pr rs.length cr m (by omega)
        have hcp := j5.part (i := m) (j := rs.length) (m := cr) (by omega) (Nat.le_refl _) (by obtain ⟨_, _, e, h1, _⟩ := j5; cases e; exact h1) (Nat.le_refl _)
        rw [List.take_length] at hcp
        have hcb : ∀ g, (sliced pr m rs.length cr 1).ownBlock = some g → (Value.slice pr rs.length cr).ownBlock = some g := fun g e => by
          obtain ⟨ad, e1, e2⟩ := sliced_ownBlock e
          subst e1
          simpa [Value.ownBlock] using e2
        obtain ⟨pz, lz, cz, ez⟩ : ∃ p l c, sliced pr m rs.length cr 1 = .slice p l c := ⟨_, _, _, rfl⟩
        rw [ez] at hcut hcp hcb
        have J1 := Lib.hid j1
        have J2 := Lib.hid j2
        have J4 := Lib.hid j4
        have J6 := Lib.hid j6
        have HC := Lib.hid hcp
        have HCB := Lib.hid hcb
        have hmr : (m : Int) ≤ (rs.length : Int) := by omega
        have HM := Lib.hid hm
        have HM2 := Lib.hid hM2
        have Q4 := Lib.hid q4
        clear j1 j2 j4 j5 j6 hcp hcb ez hm hM2 q4
        go_wp2_with fail
        refine hw.mono ?_
        clear hw
        rintro e w2 ⟨rfl, ⟨cs2, hr2, hh2⟩, o2⟩
        have hsum : (k : Int) + (m : Int) + ((N - (k + m) : Nat) : Int) = (N : Int) := by
          have := hr2.hk
          omega
        have hln := len_any w2 R M N h (k + m) cs2 hr2
        have hfr := free_any w2 R M N h (k + m) cs2 hr2
        have R2 := Lib.hid hr2
        have H2 := Lib.hid hh2
        clear hr2 hh2
        go_wp2_with (first
          | (go_at_call 20; refine hln.mono ?_; rintro e w' ⟨rfl, rfl⟩)
          | (go_at_call 21; refine hfr.mono ?_; rintro e w' ⟨rfl, mm, rfl⟩))
        obtain ⟨u, hu⟩ : ∃ u, upTo (c + 1) (k + m) = u := ⟨_, rfl⟩
        have hrd := read_any (w2.drewN mm) R M N h (k + m) cs2 (c + 1) (R2.out.drewN mm)
        rw [hu] at hrd
        have hu1 : u ≤ k + m := by rw [← hu]; unfold upTo; omega
        have hu2 : k + m ≠ 0 → 1 ≤ u := by intro h0; rw [← hu]; unfold upTo; omega
        clear hu hsum hln hfr
        refine hrd.mono ?_
        clear hrd
        rintro e w3 ⟨v3, rfl, hv3, hb3, hr3, o3⟩
        have R3 := Lib.hid hr3
        clear hr3
        have o23 : Only R M wr w3 := o2.trans ((Only.of_below (show Below w2.heap.size w2 (w2.drewN mm) from ⟨rfl, rfl, rfl, Nat.le_refl _, fun _ _ => rfl⟩)).trans o3)
        have hown3 : w3.ownsRow w1.heap.size 5 1 u9 os.length (bv os) := own_same J4.out (fun g hg => by
          have := J4.out.lt g hg
          exact o23.block g this.2 (by omega) (by omega))
        have hl2 : (held cs2 h u).length = u := held_len cs2 h u (by rw [R2.out.len]; exact q3) (by rw [R2.out.len]; have := R2.out.hk; omega)
        have hos : os.length + k + rs.length = xs.length := by
          have := congrArg List.length J2.out
          rw [List.length_append, List.length_append, held_len cs h k (by rw [Q4.out]; exact q3) (by rw [Q4.out]; exact q2)] at this
          exact this
        have hlo3 : os.length + (held cs2 h u).length ≤ 140737488355328 := by rw [hl2]; have := R2.out.hk; omega
        obtain ⟨p3, c3, rfl, _⟩ := id hv3
        have hz3 := o23.size
        clear hl2 hos
        go_wp2_with (at_builtin; refine wpList_append_rd rfl (.tmp 58) (.tmp 63) rfl w1.heap.size _ _ os.length os (held cs2 h u) rfl rfl hown3 hv3 hlo3 ?_ ?_; omega; intro v4 w4 hown4 hg4)
        have HO4 := Lib.hid hown4
        have HG4 := Lib.hid hg4
        have HV3 := Lib.hid hv3
        clear hown4 hg4 hown3 hlo3 hcut
        go_roundw
        case rel =>
          have hb4 : Below w.heap.size w w3 := o23.below j7 hRw hMw j7.size
          have z4 := HG4.out.size
          have k4 : ∀ r, r < w3.heap.size → r < w1.heap.size → w4.heap[r]? = w3.heap[r]? := fun r h1 h2 => HG4.out.block r h1 (fun e => by have := (J4.out.lt r e.symm).1; omega)
          have hkk := R2.out.hk
          refine ⟨n + 1, by go_num, by omega, cs2, (h + u) % N, k + m - u, os ++ held cs2 h u, rs.drop m, ?_, ?_, ?_, HO4.out, ?_, ?_, ?_, by omega⟩
          · exact R3.out.kept (k4 _ (by omega) (by omega)) (k4 _ (by omega) (by omega))
          · have e1 := held_take cs2 h (k + m) u (by rw [R2.out.len]; exact q3) (by rw [R2.out.len]; exact hkk) hu1
            have e2 := held_drop cs2 h (k + m) u (by rw [R2.out.len]; exact q3) (by rw [R2.out.len]; exact hkk) hu1
            rw [R2.out.len] at e2
            rw [← e1, ← e2, List.append_assoc os, List.take_append_drop, H2.out, ← J2.out]
            simp [List.append_assoc, List.take_append_drop]
          · have := HM.out
            rw [List.length_drop]
            omega
          · refine (HC.out.keep fun hne g hg => ?_)
            have hrs : rs ≠ [] := fun e => hne (by rw [e]; simp)
            have hgb := HCB.out g hg
            have hg2 := J6.out g hgb
            have hxn : xs ≠ [] := fun e3 => by
              have h3 : xs.length = 0 := by rw [e3]; rfl
              exact hrs (List.eq_nil_of_length_eq_zero (by omega))
            obtain ⟨g', e1, e2⟩ := HX.out.lt hxn
            rw [hg2] at e1
            cases e1
            have := j7.size
            exact (k4 g (by omega) (by omega)).trans (o23.block g (by omega) (by omega) (by omega))
          · exact fun g hg => J6.out g (HCB.out g hg)
          · exact hb4.trans ⟨HG4.out.os, HG4.out.tape, HG4.out.output, HG4.out.size, fun r hr => k4 r (by have := hb4.size; omega) (by omega)⟩
        case measure => simp [intOf]; omega
      · have hlt' : ¬ ((n : Int) < 2 * (xs.length : Int) + 2) := by omega
        obtain rfl : k = 0 := by omega
        obtain rfl : rs = [] := List.eq_nil_of_length_eq_zero (by omega)
        obtain rfl : os = xs := by
          rw [held_zero cs h (by rw [q4]; exact q3)] at j2
          simpa using j2
        have hln := len_any wr R M N h 0 cs j1
        obtain ⟨po, lo, co, rfl⟩ := own_slice j4
        have hsm := same_any wr po p lo co os.length d os os (RD.of_own j4) (HX.out.below j7)
        have HSM := Lib.hid hsm
        clear hsm j1 j4 j5 q4 hM2
        go_wp2_with (first
          | (go_at_call 20; refine hln.mono ?_; rintro e w' ⟨rfl, rfl⟩)
          | (go_at_call 15; refine HSM.out.mono ?_; rintro e w' ⟨rfl, mm, rfl⟩))
        go_ret
        exact ⟨by simp, ⟨j7.os, j7.tape, j7.output, j7.size, j7.block⟩⟩

theorem order_said (a c : Int) (wa : (Lit.int .u8 a).wf = true) (wc : (Lit.int .u8 c).wf = true) (p : Option Addr) (l d : Nat) (zs : List Int) (w : World) (h : (p = none ∧ l = 0 ∧ d = 0 ∧ zs = []) ∨
    ∃ x, p = some x ∧ l ≤ d ∧ d ≤ maxLen ∧ zs.length = d ∧ (∀ i, i < zs.length → w.cell? (x.add i) = some (.int .u8 (zs.getD i 0))) ∧ ∀ n ∈ zs, (Lit.int .u8 n).wf = true) :
    Calls Try.prog 4 #[.int .u8 a, .slice p l d, .int .u8 c] w fun e w' => e = .returned (.bool true) ∧ Below w.heap.size w w' := by
  have h1 := bounds_u8 wa
  have h2 := bounds_u8 wc
  obtain ⟨xs, hx⟩ := row_rd h
  exact order_walk a c h1.1 h1.2 h2.1 h2.2 p l d xs w hx

end Go.Proofs.Ytbpbiliekbkciaa
