/- The law IntakeFixed. -/
import Derived.Test.YtjkccacpffikbaaDoorIntWake
import Derived.Test.YtjkccacpffikbaaDoorBytesOpen
namespace Go.Proofs.YtjkccacpffikbaaDoor
open Go.ChangeShapes Go.WideShapes Go.ChangeAt Go.RowKit Go.Deep
open Oc Fl Bk Bd Dk Ik
set_option linter.unusedVariables false
set_option maxRecDepth 100000

set_option maxHeartbeats 8000000 in
theorem fixed12_walk (size : Nat) {p : Option Addr} {cap : Nat} {T : List UInt8} (w : World) (hs : size ≤ 65535) (hT : RD w (.slice p T.length cap) T) (hv : ∀ g, (Value.slice p T.length cap).ownBlock = some g → g < w.heap.size) (hsp : Spans w) :
    Calls Tryd.prog 5 #[.int .u16 (size : Int), .slice p T.length cap] w fun e w' => e = .returned (.bool true) ∧ Below w.heap.size w w' := by
  have HW := Lib.hid (wakes12 w hsp)
  have HT := Lib.hid hT
  have HV := Lib.hid hv
  have HSP := Lib.hid hsp
  have hw1 : IntKind.u64.wrap (size : Int) = (size : Int) := IntWalk.u64_in _ (by omega)
  have hw2 : IntKind.i64.wrap (size : Int) = (size : Int) := IntWalk.i64_in _ (by omega)
  clear hT hv hsp
  go_enter Tryd.func5, Tryd.ntmps5
  go_wp2_with fail
  refine HW.out.mono ?_
  rintro e w1 ⟨rfl, hb1⟩
  have B1 := Lib.hid hb1
  have HN := Lib.hid (newI 1 size ⟨0, 0, 0⟩ w1 (by decide) (fun h => absurd rfl h) (by omega) (by decide) (HSP.out.below hb1))
  unfold fr12 lim3 at HN
  rw [show newK 1 size ⟨0, 0, 0⟩ = .fix size 0 from rfl] at HN
  clear hb1 HW
  by_cases h400 : (400 : Int) < (T.length : Int)
  · go_wp2_with fail
    go_ret
    exact ⟨rfl, B1.out⟩
  have h400' : (T.length : Int) ≤ 400 := by omega
  go_wp2_with fail
  refine HN.out.mono ?_
  rintro e w4 ⟨R, M, rfl, hi4, hm4, hb4⟩
  have hz1 := B1.out.size
  have b4 := ahead B1.out hb4
  have HP := Lib.hid (putI (b := T) p cap hi4 (HT.out.below b4) (fun _ g hg hm => by have h1 := hm4 g hm; have h2 := HV.out g hg; omega) (by omega) (Nat.zero_le _))
  have B4 := Lib.hid b4
  have HM4 := Lib.hid (fun g hg => Nat.le_trans hz1 (hm4 g hg))
  clear hi4 hm4 hb4 b4 HN hz1
  go_wp2_with fail
  refine HP.out.mono ?_
  rintro e w6 ⟨M6, p6, c6, rfl, hi6, m6, hrd6, hown6⟩
  rw [show dataP (.fix size 0) 0 T = T.take size from rfl] at hrd6
  rw [show dataP (.fix size 0) 0 T = T.take size from rfl, show numP (.fix size 0) 0 T = min size T.length from rfl, show errP (.fix size 0) 0 T = 0 from rfl]
  rw [show nextP (.fix size 0) 0 T = .fix (size - T.length) (0 + min size T.length) from rfl, show errP (.fix size 0) 0 T = 0 from rfl] at hi6
  obtain ⟨B6, -⟩ := Moves.low B4.out m6 (by have := B4.out.size; omega) HM4.out
  have hT6 := HT.out.same (W' := w6) (fun g hg hlt => by
    have h2 := HV.out g hg
    exact B6.block g h2 |>.trans rfl)
  obtain ⟨m, hm⟩ : ∃ m, min size T.length = m := ⟨_, rfl⟩
  have hbk : T.length ≤ cap := by obtain ⟨_, _, e, h1, _⟩ := HT.out; cases e; exact h1
  obtain ⟨uv, huv⟩ : ∃ uv, sliced p 0 m cap 1 = uv := ⟨_, rfl⟩
  have hcut : ∀ W, (Instr.slice 25 (.slice p T.length cap) none (some (.int .i64 (m : Int))) none).run Tryd.prog W = .ok uv W := fun W => huv ▸ cut_h p T.length cap m (by omega) W
  have hu := hT6.part (i := 0) (j := m) (m := cap) (by omega) (by omega) (by omega) (Nat.le_refl _)
  rw [huv, List.drop_zero] at hu
  have htk : T.take size = T.take m := by
    rw [← hm]
    rcases Nat.le_total size T.length with hle | hle
    · rw [Nat.min_eq_left hle]
    · rw [Nat.min_eq_right hle, List.take_length, List.take_of_length_le hle]
  have hml : (T.take m).length = m := by simp; omega
  rw [htk] at hrd6 ⊢
  obtain ⟨pu, cu, huu, -⟩ := id hu
  subst huu
  have HSM := Lib.hid (same_any w6 p6 pu _ c6 _ cu _ _ hrd6 hu)
  rw [decide_eq_true rfl] at HSM
  rw [hm] at hi6 ⊢
  have HB6 := Lib.hid B6
  have HDN : Hid (∀ W, Below w6.heap.size w6 W → _) := Lib.hid fun W hW => doneI (hi6.below hW)
  have HWA : Hid (∀ W, Below w6.heap.size w6 W → _) := Lib.hid fun W hW => wantsI (hi6.below hW)
  have hwn : wantsK (.fix (size - T.length) (0 + m)) 0 = size - m := by
    unfold wantsK
    by_cases h0 : size - T.length = 0
    · rw [if_pos (.inr (decide_eq_true h0))]; omega
    · rw [if_neg (by rintro (h | h); exact h rfl; exact h0 (of_decide_eq_true h))]
      show size - T.length = size - m
      omega
  rw [hwn] at HWA
  have hdn : doneK (.fix (size - T.length) (0 + m)) = ((m : Int) == (size : Int)) := by
    show decide (size - T.length = 0) = _
    rw [Bool.eq_iff_iff]; simp; omega
  rw [hdn] at HDN
  have hmin : min (size : Int) (T.length : Int) = (m : Int) := by omega
  have hsub : IntKind.i64.wrap ((size : Int) - (m : Int)) = ((size - m : Nat) : Int) := by rw [IntWalk.i64_in _ (by omega)]; omega
  have hsub2 : IntKind.u64.wrap ((size - m : Nat) : Int) = ((size - m : Nat) : Int) := IntWalk.u64_in _ (by omega)
  have hms : m ≤ size := by omega
  rw [hml] at HSM hcut ⊢
  have hbb : (((m : Int) == (size : Int)) == ((m : Int) == (size : Int))) = true := beq_self_eq_true _
  clear hi6 m6 hrd6 hown6 B6 HP HT HV hT6 hm hbk huv hu htk hml hwn hdn HM4
  generalize size - m = q at *
  go_wp2_with fail
  refine HSM.out.mono ?_
  rintro e w7 ⟨rfl, mm, rfl⟩
  have HB7 := Lib.hid (drewN_below8 w6 mm)
  go_wp2_with fail
  refine (HDN.out _ HB7.out).mono ?_
  rintro e w8 ⟨rfl, rfl⟩
  go_wp2_with fail
  refine (HWA.out _ HB7.out).mono ?_
  rintro e w8 ⟨rfl, rfl⟩
  go_wp2_with fail
  go_ret
  exact ⟨rfl, ahead HB6.out HB7.out⟩

set_option maxRecDepth 100000 in
theorem fixed12_data {H : Type} {enc : TypeId × Value → H} {W : World} {base : Nat} {v0 v1 : Value} {d0 d1 : DataW H} {p0 p1 : List MemPlace} (u0 : Value.okWide Tryd.prog W .any base 26 v0) (h0 : DataW.Trod enc Tryd.prog W 0 (fun _ => true) true 26 v0 d0 p0)
    (u1 : Value.okWide Tryd.prog W .any base 25 v1) (h1 : DataW.Trod enc Tryd.prog W 0 (fun _ => true) true 25 v1 d1 p1) (hsp : Spans W) :
    Calls Tryd.prog 5 #[v0, v1] W fun e w' => e = .returned (.bool true) ∧ Below W.heap.size W w' := by
  obtain ⟨a, rfl, _, _, w0⟩ := open_int Tryd.underlying26 u0 h0
  have b := bounds_u16 w0
  obtain ⟨n, rfl⟩ : ∃ n : Nat, a = (n : Int) := ⟨a.toNat, by omega⟩
  obtain ⟨T, hT, hv⟩ := open_bytes u1 h1
  obtain ⟨p, cap, rfl, -⟩ := id hT
  exact fixed12_walk n W (by omega) hT hv hsp

end Go.Proofs.YtjkccacpffikbaaDoor
