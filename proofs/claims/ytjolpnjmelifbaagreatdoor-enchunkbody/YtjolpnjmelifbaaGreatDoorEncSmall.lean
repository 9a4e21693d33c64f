/- What enchunk's Cost, Chunk and Last answer. -/
import Derived.Test.YtjolpnjmelifbaaGreatDoorTabLaid
import Derived.Test.YtjolpnjmelifbaaGreatDoorBlockPut
import Derived.Test.YtjolpnjmelifbaaGreatDoorByteSlices
import Derived.Test.YtjolpnjmelifbaaGreatDoorBodyPutMath
import Derived.Lib.AppendStr
import Derived.Deep.Cut
namespace Go.Proofs.YtjolpnjmelifbaaGreatDoor
open Go.ChangeShapes Go.WideShapes Go.ChangeAt Go.RowKit
open Oc Fl Bk Bd
set_option linter.unusedVariables false
set_option maxRecDepth 100000

/-- The bytes that a chunk has beside its data. -/
def cst (n : Nat) : Nat := if n < 1 then 0 else (Hx.put n).length + 4
theorem cst_pos {n : Nat} (h : ¬ n < 1) : cst n = (Hx.put n).length + 4 := if_neg h
theorem ck_len (xs : List UInt8) : (ck [] xs).length = xs.length + cst xs.length := by
  unfold ck cst
  by_cases h : xs = []
  · simp [h]
  · have := List.length_pos_iff.2 h
    rw [if_neg h, if_neg (by omega)]
    simp
    omega

set_option maxHeartbeats 1000000 in
theorem cost_neg (n : Int) (h1 : n < 1) (w : World) :
    Calls Tryz.prog 15 #[.int .i64 n] w fun e w' => e = .returned (.int .i64 0) ∧ Below w.heap.size w w' := by
  go_enter Tryz.func15, Tryz.ntmps15
  go_wp2_with fail
  go_ret
  exact ⟨rfl, Below.refl _ _⟩
set_option maxHeartbeats 1000000 in
theorem cost_any (n : Nat) (h1 : n ≤ 9223372036854775807) (w : World) (hz : Tz w) :
    Calls Tryz.prog 15 #[.int .i64 (n : Int)] w fun e w' => e = .returned (.int .i64 (cst n : Int)) ∧ Below w.heap.size w w' := by
  by_cases hn : n < 1
  · obtain rfl : n = 0 := by omega
    exact cost_neg _ (by omega) w
  · have hw : IntKind.u64.wrap (n : Int) = (n : Int) := IntWalk.u64_in _ (by omega)
    have HP := Lib.hid (hput_any n (by omega) w hz)
    have hp := Hx.put_len16 n (by omega)
    have hs : (⟨(Hx.put n).toArray⟩ : ByteArray).size = (Hx.put n).length := arr_size _
    have hc := Lib.hid (cst_pos hn)
    have hn' : ¬ (n : Int) < 1 := by omega
    generalize (Hx.put n).length = m at *
    generalize (⟨(Hx.put n).toArray⟩ : ByteArray) = s at *
    clear hz
    go_enter Tryz.func15, Tryz.ntmps15
    go_wp2_with fail
    refine HP.out.mono ?_
    rintro e w' ⟨rfl, hb⟩
    have HB := Lib.hid hb
    clear hb
    go_wp2_with fail
    go_ret
    exact ⟨H8.ret_int (by have := hc.out; omega), HB.out⟩

/-- A text behind bytes of a row of the call's own. -/
theorem append_str (w : World) (ty : TypeId) (base : Nat) (v : Value) (xs : List UInt8) (s : ByteArray) (hown : w.ownsRow base 5 1 v xs.length (bv xs)) (hb : xs.length + s.size ≤ 140737488355328) (hbase : base ≤ w.heap.size) :
    ∃ v' w', (Builtin.append_ #[25, 9] ty #[v, .string s]).run Tryz.prog w = .ok v' w' ∧ w'.ownsRow base 5 1 v' (xs ++ s.data.toList).length (bv (xs ++ s.data.toList)) ∧ w.grownBy w' v.ownBlock := by
  obtain ⟨i0, hi, hz0, hz1, hz2⟩ := info_parts text_info
  obtain ⟨v', w', r0, r1, r2, _⟩ := Lib.run_append_own_string (P := Tryz.prog) w base 25 9 ty 5 i0 Tryz.underlying25 Tryz.underlying9 hi hz0 hz1 hz2 v _ _ hown s (by unfold maxLen; omega) (by omega) hbase
  refine ⟨v', w', r0, ?_, r2⟩
  have e1 : bv (xs ++ s.data.toList) = bv xs ++ Lib.strCells s := by simp [bv, Lib.strCells]
  rw [e1, List.length_append, blen]
  exact r1

/-- Bytes that a call answers: of its own memory. -/
structure Own10 (w w' : World) (v : Value) (xs : List UInt8) : Prop where
  rd : RD w' v xs
  below : Below w.heap.size w w'
  own : ∀ g, v.ownBlock = some g → w.heap.size ≤ g ∧ g < w'.heap.size
theorem Own10.nil (w : World) : Own10 w w (.slice none 0 0) [] := ⟨RD.nil w, Below.refl _ _, fun g h => by simp [Value.ownBlock] at h⟩
theorem Own10.after {w w1 w' : World} {v : Value} {xs : List UInt8} (h : Own10 w1 w' v xs) (hb : Below w.heap.size w w1) : Own10 w w' v xs :=
  ⟨h.rd, ahead hb h.below, fun g hg => ⟨Nat.le_trans hb.size (h.own g hg).1, (h.own g hg).2⟩⟩
theorem Own10.slice {w w' : World} {v : Value} {xs : List UInt8} (h : Own10 w w' v xs) : ∃ p c, v = .slice p xs.length c := by
  obtain ⟨p, c, rfl, _⟩ := h.rd
  exact ⟨p, c, rfl⟩
theorem Own10.of_row {w w' : World} {v : Value} {xs : List UInt8} {n : Nat} (h : w'.ownsRow w.heap.size 5 1 v n (bv xs)) (hb : Below w.heap.size w w') : Own10 w w' v xs := ⟨RD.of_own h, hb, fun g hg => h.lt g hg⟩

set_option maxHeartbeats 4000000 in
theorem chunk10_any (xs : List UInt8) (p : Option Addr) (c : Nat) (w : World) (hx : RD w (.slice p xs.length c) xs) (hl : xs.length ≤ 1000000) (hz : Tz w) :
    Calls Tryz.prog 14 #[.slice p xs.length c] w fun e w' => ∃ v, e = .returned v ∧ Own10 w w' v (ck [] xs) := by
  by_cases h0 : xs.length = 0
  · obtain rfl : xs = [] := List.eq_nil_of_length_eq_zero h0
    have HQ := Lib.hid (Own10.nil w)
    clear hx hz hl h0
    go_enter Tryz.func14, Tryz.ntmps14
    go_wp2_with fail
    go_ret
    exact ⟨_, rfl, HQ.out⟩
  · have hne : xs ≠ [] := fun h => h0 (by rw [h]; rfl)
    have hp := Hx.put_len16 xs.length (by omega)
    have hcs := cst_pos (n := xs.length) (by omega)
    have HC := Lib.hid (cost_any xs.length (by omega) w hz)
    have HX := Lib.hid hx
    have HZ := Lib.hid hz
    have hw : IntKind.u64.wrap (xs.length : Int) = (xs.length : Int) := IntWalk.u64_in _ (by omega)
    have hz0 : ((xs.length : Int) == 0) = false := beq_eq_false_iff_ne.2 (by omega)
    have hck := Lib.hid (show ck [] xs = [] ++ (⟨(Hx.put xs.length).toArray⟩ : ByteArray).data.toList ++ (⟨#[13, 10]⟩ : ByteArray).data.toList ++ xs ++ (⟨#[13, 10]⟩ : ByteArray).data.toList by unfold ck; rw [if_neg hne]; simp)
    have hcl : cst xs.length ≤ 20 := by omega
    have hs : (⟨(Hx.put xs.length).toArray⟩ : ByteArray).size = (Hx.put xs.length).length := arr_size _
    have HN := Lib.hid hs
    clear hx hz hne h0 hcs hs
    obtain ⟨cs, hcn⟩ : ∃ cs, cst xs.length = cs := ⟨_, rfl⟩
    rw [hcn] at HC hcl
    clear hcn
    go_enter Tryz.func14, Tryz.ntmps14
    go_wp2_with fail
    refine HC.out.mono ?_
    rintro e w1 ⟨rfl, hb1⟩
    obtain ⟨i0, hi, hq0, hq1, hq2⟩ := info_parts byte_info
    have hsum : IntKind.i64.wrap ((xs.length : Int) + (cs : Int)) = ((xs.length + cs : Nat) : Int) := by rw [IntWalk.i64_in _ (by omega)]; omega
    obtain ⟨w2, hmk, hrow, hg⟩ := run_make_own (P := Tryz.prog) w1 w.heap.size 25 5 i0 _ 1 Tryz.underlying25 hi hq0 hq1 .i64 .i64 (xs.length + cs) (by rw [hq2]; omega) (by simp only [maxLen]; omega) hb1.size
    have hb2 : Below w.heap.size w w2 := hb1.grown hg hb1.size (fun k hk => by cases hk)
    have HP := Lib.hid (hput_any xs.length (by omega) w2 (HZ.out.below hb2))
    have HB2 := Lib.hid hb2
    have HR := Lib.hid hrow
    clear hi hq0 hq1 hq2 hrow hg hb1 hb2 HC HZ
    generalize xs.length + cs = cap at *
    go_wp2_with fail
    refine HP.out.mono ?_
    rintro e w3 ⟨rfl, hb3⟩
    have hb03 := ahead HB2.out hb3
    have o3 : w3.ownsRow w.heap.size 5 1 (.slice (some ⟨w1.heap.size, 0, none⟩) 0 cap) ([] : List UInt8).length (bv []) := own_same HR.out fun k hk => hb3.block k (HR.out.lt k hk).2
    obtain ⟨v4, w4, r4, o4, g4⟩ := append_str w3 25 _ _ [] ⟨(Hx.put xs.length).toArray⟩ o3 (by rw [HN.out]; simp; omega) hb03.size
    have b4 : Below w.heap.size w w4 := hb03.grown g4 hb03.size (fun k hk => (o3.lt k hk).1)
    obtain ⟨v5, w5, r5, o5, g5⟩ := append_str w4 25 _ _ _ ⟨#[13, 10]⟩ o4 (by rw [show (⟨#[13, 10]⟩ : ByteArray).size = 2 from rfl]; simp; omega) b4.size
    have b5 : Below w.heap.size w w5 := b4.grown g5 b4.size (fun k hk => (o4.lt k hk).1)
    obtain ⟨v6, w6, r6, o6, g6⟩ := run_append_rd w5 25 _ _ _ _ _ xs o5 (HX.out.below b5) (by simp; omega) b5.size
    have b6 : Below w.heap.size w w6 := b5.grown g6 b5.size (fun k hk => (o5.lt k hk).1)
    obtain ⟨v7, w7, r7, o7, g7⟩ := append_str w6 25 _ _ _ ⟨#[13, 10]⟩ o6 (by rw [show (⟨#[13, 10]⟩ : ByteArray).size = 2 from rfl]; simp; omega) b6.size
    have b7 : Below w.heap.size w w7 := b6.grown g7 b6.size (fun k hk => (o6.lt k hk).1)
    have HQ := Lib.hid (Own10.of_row o7 b7)
    rw [← hck.out] at HQ
    have R4 := Lib.hid r4
    have R5 := Lib.hid r5
    have R6 := Lib.hid r6
    have R7 := Lib.hid r7
    clear hb3 hb03 o3 r4 o4 g4 b4 r5 o5 g5 b5 r6 o6 g6 b6 r7 o7 g7 b7 hmk hsum HP
    go_upto_region 5 with (at_builtin; refine wpList_append_text rfl (.tmp 14) (.tmp 18) 25 9 rfl _ _ _ _ rfl rfl R4.out ?_)
    clear R4
    go_upto_region 6 with (at_builtin; refine wpList_append_text rfl (.tmp 20) (.const (.string ⟨#[13, 10]⟩)) 25 9 rfl _ _ _ _ rfl rfl R5.out ?_)
    clear R5
    go_upto_region 7 with (at_builtin; refine wpList_append_run rfl (.tmp 22) (.tmp 23) 25 rfl _ _ _ _ rfl rfl R6.out ?_)
    clear R6
    go_wp2_with (at_builtin; refine wpList_append_text rfl (.tmp 25) (.const (.string ⟨#[13, 10]⟩)) 25 9 rfl _ _ _ _ rfl rfl R7.out ?_)
    go_ret
    exact ⟨_, rfl, HQ.out⟩

/-- The last bytes with some fields. -/
def lastB (l : List Fld) : List UInt8 := if rights l = true then [48, 13, 10] ++ sec l else []
theorem lastB_yes {l : List Fld} (h : rights l = true) : lastB l = [48, 13, 10] ++ sec l := if_pos h
theorem lastB_no {l : List Fld} (h : rights l = false) : lastB l = [] := if_neg (by rw [h]; decide)
theorem sec_len10 (l : List Fld) (h : bulk l ≤ 2000) : (sec l).length ≤ 8002 := by
  have := body_len l
  unfold sec
  simp
  omega

set_option maxHeartbeats 2000000 in
theorem last_any (l : List Fld) (p : Option Addr) (c : Nat) (w : World) (hF : FS w (.slice p l.length c) l) (hl : bulk l ≤ 2000) (hsp : Spans w) :
    Calls Tryz.prog 118 #[.slice p l.length c] w fun e w' => ∃ v, e = .returned (.tuple #[v, .int .i64 (putE l)]) ∧ Own10 w w' v (lastB l) := by
  have HP := Lib.hid (put6_any l p c w hF hl hsp)
  clear hF hsp
  cases hr : rights l with
  | false =>
    rw [putE_no hr, putB_no hr] at HP
    rw [putE_no hr, lastB_no hr]
    clear hr
    go_enter Tryz.func118, Tryz.ntmps118
    go_wp2_with fail
    refine HP.out.mono ?_
    rintro e w1 ⟨rfl, hb1⟩
    have HQ := Lib.hid ((Own10.nil w1).after hb1)
    clear hb1 HP
    go_wp2_with fail
    go_ret2
    exact ⟨_, rfl, HQ.out⟩
  | true =>
    rw [putE_yes hr, putB_yes hr] at HP
    rw [putE_yes hr, lastB_yes hr]
    have hsl := sec_len10 l hl
    have hss := arr_size (sec l)
    have HA := Lib.hid (show (⟨#[48, 13, 10]⟩ : ByteArray) ++ arr (sec l) = arr ([48, 13, 10] ++ sec l) by rw [← arr_app]; rfl)
    clear hr
    go_enter Tryz.func118, Tryz.ntmps118
    go_wp2_with fail
    refine HP.out.mono ?_
    rintro e w1 ⟨rfl, hb1⟩
    obtain ⟨cp, w2, hcv, hrd, hbf⟩ := bytes_rd w1 ([48, 13, 10] ++ sec l) (by simp; omega)
    rw [← HA.out] at hcv
    have HQ := Lib.hid (show Own10 w w2 _ _ from ⟨hrd, ahead hb1 hbf, fun g hg => by simp [Value.ownBlock] at hg; subst hg; exact ⟨hb1.size, (hrd.lt (by simp)).elim fun k hk => by have := hk.1; simp [Value.ownBlock] at this; omega⟩⟩)
    generalize arr (sec l) = sb at *
    have hsb : sb.size ≤ 9000 := by omega
    clear hb1 hrd hbf HP hsl hss
    generalize ([48, 13, 10] ++ sec l).length = nb at *
    go_wp2_with fail
    go_ret2
    exact ⟨_, rfl, HQ.out⟩

end Go.Proofs.YtjolpnjmelifbaaGreatDoor
