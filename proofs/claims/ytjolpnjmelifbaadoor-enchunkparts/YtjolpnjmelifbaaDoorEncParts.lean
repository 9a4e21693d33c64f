/- What the document's Chunk and Last answer; the law EnchunkParts. -/
import Derived.Test.YtjolpnjmelifbaaDoorEncWake
import Derived.Deep.RegionHeld3
namespace Go.Proofs.YtjolpnjmelifbaaDoor
open Go.ChangeShapes Go.WideShapes Go.ChangeAt Go.RowKit
open Oc Fl Bk Bd
set_option linter.unusedVariables false
set_option maxRecDepth 100000

/-- A text as bytes, in any world. -/
theorem bytes_all (x : List UInt8) (W : World) : (convert 9 22 (.string (arr x))).run Tryd.prog W = .ok (.slice (some ⟨W.heap.size, 0, none⟩) x.length (grownCap W x.length 0 5)) (Lib.bytesWorld W 5 (arr x)) := by
  have hc := Lib.run_convert_string_bytes (P := Tryd.prog) W 9 22 5 (arr x) Tryd.underlying9 Tryd.underlying22 Tryd.underlying5
  rw [arr_size] at hc
  exact hc
theorem bytes_own (x : List UInt8) (W : World) (h : x.length ≤ 1099511627776) : Own10 W (Lib.bytesWorld W 5 (arr x)) (.slice (some ⟨W.heap.size, 0, none⟩) x.length (grownCap W x.length 0 5)) x := by
  obtain ⟨c, w', hcv, hrd, hb⟩ := bytes_rd W x h
  rw [bytes_all] at hcv
  simp only [Result.ok.injEq] at hcv
  obtain ⟨h1, h2⟩ := hcv
  rw [h1, h2]
  refine ⟨hrd, hb, fun g hg => ?_⟩
  simp [Value.ownBlock] at hg
  subst hg
  rw [← h2, Lib.bytesWorld_size]
  omega

theorem bytes_below (s : ByteArray) (W : World) : Below W.heap.size W (Lib.bytesWorld W 5 s) := ⟨rfl, rfl, rfl, by rw [Lib.bytesWorld_size]; omega, fun j hj => Lib.bytesWorld_at_old W _ s j hj⟩
theorem rhex10 (n : Nat) (W : World) (h : n ≤ 1000000) : Calls Tryd.prog 26 #[.int .u64 (n : Int)] W fun e w' => e = .returned (.string (arr (Hx.put n))) ∧ ∃ m, w' = W.drewN m :=
  (H8.rput_any (n + 1) (n : Int) W (by omega) (by omega) (by omega)).mono fun e w' ⟨h1, h2⟩ => ⟨h1, h2⟩
theorem arr_app10 (a b : List UInt8) : arr a ++ arr b = arr (a ++ b) := b_ext (by rw [arr_list]; simp [arr])

set_option maxHeartbeats 4000000 in
theorem rchunk_any (xs : List UInt8) (p : Option Addr) (c : Nat) (w : World) (hx : RD w (.slice p xs.length c) xs) (hl : xs.length ≤ 1000000) :
    Calls Tryd.prog 13 #[.slice p xs.length c] w fun e w' => ∃ v, e = .returned v ∧ Own10 w w' v (ck [] xs) := by
  by_cases h0 : xs.length = 0
  · obtain rfl : xs = [] := List.eq_nil_of_length_eq_zero h0
    have HQ := Lib.hid (Own10.nil w)
    clear hx hl h0
    go_enter Tryd.func13, Tryd.ntmps13
    go_wp2_with fail
    go_ret
    exact ⟨_, rfl, HQ.out⟩
  · have hne : xs ≠ [] := fun h => h0 (by rw [h]; rfl)
    have hp := Hx.put_len16 xs.length (by omega)
    have hw : IntKind.u64.wrap (xs.length : Int) = (xs.length : Int) := IntWalk.u64_in _ (by omega)
    have hz0 : ((xs.length : Int) == 0) = false := beq_eq_false_iff_ne.2 (by omega)
    have HC : Hid (∀ W, _) := Lib.hid fun W => rhex10 xs.length W hl
    have KC : Hid (∀ W, Below w.heap.size w W → (convert 22 9 (.slice p xs.length c)).run Tryd.prog W = .ok (.string (arr xs)) W) := Lib.hid fun W hW => conv_rd (hx.below hW)
    have BA : Hid (Below w.heap.size w w.drew) := Lib.hid (below_drewN (Below.refl _ w) 1)
    have hA : arr (Hx.put xs.length) ++ ⟨#[13, 10]⟩ ++ arr xs ++ ⟨#[13, 10]⟩ = arr (ck [] xs) := by
      rw [show (⟨#[13, 10]⟩ : ByteArray) = arr [13, 10] from rfl]
      simp only [arr_app10, ck, if_neg hne, List.append_assoc, List.append_nil]
    have hcl := ck_len xs
    have hcs := cst_pos (n := xs.length) (by omega)
    have hcv2 := bytes_all (ck [] xs)
    rw [← hA] at hcv2
    have HQ : Hid (∀ W, Below w.heap.size w W → Own10 w (Lib.bytesWorld W 5 (arr (ck [] xs))) (.slice (some ⟨W.heap.size, 0, none⟩) (ck [] xs).length (grownCap W (ck [] xs).length 0 5)) (ck [] xs)) := Lib.hid fun W hW => (bytes_own (ck [] xs) W (by omega)).after hW
    rw [← hA] at HQ
    have z1 := arr_size (Hx.put xs.length)
    have z2 := arr_size xs
    generalize (ck [] xs).length = cn at *
    generalize hph : arr (Hx.put xs.length) = ph at *
    generalize hxb : arr xs = xb at *
    have z3 : ph.size ≤ 16 := by omega
    have z4 : xb.size ≤ 1000000 := by omega
    clear hx hne h0 hp hA hcl hcs z1 z2 hph hxb
    obtain ⟨s1, e1⟩ : ∃ s, ph ++ ⟨#[13, 10]⟩ = s := ⟨_, rfl⟩
    obtain ⟨s2, e2⟩ : ∃ s, s1 ++ xb = s := ⟨_, rfl⟩
    obtain ⟨s3, e3⟩ : ∃ s, s2 ++ ⟨#[13, 10]⟩ = s := ⟨_, rfl⟩
    rw [e1, e2, e3] at hcv2 HQ
    have y0 : (⟨#[13, 10]⟩ : ByteArray).size = 2 := rfl
    have y1 : s1.size = ph.size + 2 := by rw [← e1, ByteArray.size_append, y0]
    have y2 : s2.size = s1.size + xb.size := by rw [← e2, ByteArray.size_append]
    have a1 : ∀ W, (Op.stringOp .add ph ⟨#[13, 10]⟩).run Tryd.prog W = .ok (.string s1) W := fun W => by rw [run_string_add_sum (P := Tryd.prog) (w := W) _ _ (by rw [y0]; omega), e1]
    have a2 : ∀ W, (Op.stringOp .add s1 xb).run Tryd.prog W = .ok (.string s2) W := fun W => by rw [run_string_add_sum (P := Tryd.prog) (w := W) _ _ (by omega), e2]
    have a3 : ∀ W, (Op.stringOp .add s2 ⟨#[13, 10]⟩).run Tryd.prog W = .ok (.string s3) W := fun W => by rw [run_string_add_sum (P := Tryd.prog) (w := W) _ _ (by rw [y0]; omega), e3]
    clear e1 e2 e3 y0 y1 y2
    go_enter Tryd.func13, Tryd.ntmps13
    go_wp2_with fail
    have k0 := KC.out _ BA.out
    have k1 := fun n => KC.out (w.drewN n) (below_drewN (Below.refl _ _) n)
    go_region_with (go_at_call 26; refine (HC.out _).mono ?_; rintro e w' ⟨rfl, m, rfl⟩)
    all_goals
      go_wp2_with fail
      go_ret
      exact ⟨_, rfl, HQ.out _ (by first | exact below_drewN (Below.refl _ _) _ | exact BA.out)⟩

set_option maxHeartbeats 2000000 in
theorem rlast_any (l : List Fld) (p : Option Addr) (c : Nat) (w : World) (hF : FS w (.slice p l.length c) l) (hl : bulk l ≤ 2000) :
    Calls Tryd.prog 10 #[.slice p l.length c] w fun e w' => ∃ v, e = .returned (.tuple #[v, .bool (rights l)]) ∧ Own10 w w' v (lastB l) := by
  have HP := Lib.hid (rput6_any l p c w hF hl)
  clear hF
  cases hr : rights l with
  | false =>
    rw [hr, putB_no hr] at HP
    rw [lastB_no hr]
    clear hr
    go_enter Tryd.func10, Tryd.ntmps10
    go_wp2_with fail
    refine HP.out.mono ?_
    rintro e w1 ⟨rfl, hb1⟩
    have HQ := Lib.hid ((Own10.nil w1).after hb1)
    clear hb1 HP
    go_wp2_with fail
    go_ret2
    exact ⟨_, rfl, HQ.out⟩
  | true =>
    rw [hr, putB_yes hr] at HP
    rw [lastB_yes hr]
    have hsl := sec_len l hl
    have hss := arr_size (sec l)
    have HA := Lib.hid (show (⟨#[48, 13, 10]⟩ : ByteArray) ++ arr (sec l) = arr ([48, 13, 10] ++ sec l) by rw [← arr_app]; rfl)
    clear hr
    go_enter Tryd.func10, Tryd.ntmps10
    go_wp2_with fail
    refine HP.out.mono ?_
    rintro e w1 ⟨rfl, hb1⟩
    have hcv := bytes_all ([48, 13, 10] ++ sec l) w1
    have HQ := Lib.hid ((bytes_own ([48, 13, 10] ++ sec l) w1 (by simp; omega)).after hb1)
    rw [← HA.out] at hcv HQ
    generalize arr (sec l) = sb at *
    have hsb : sb.size ≤ 9000 := by omega
    clear hb1 HP hsl hss
    generalize ([48, 13, 10] ++ sec l).length = nb at *
    go_wp2_with fail
    go_ret2
    exact ⟨_, rfl, HQ.out⟩

end Go.Proofs.YtjolpnjmelifbaaDoor
