/- What block.Put, block.Size, and the document's Put, answer. -/
import Derived.Test.YtilebfpaibajcaaGreatDoorMB
import Derived.Test.YtilebfpaibajcaaGreatDoorFieldRef
import Derived.Test.YtilebfpaibajcaaGreatDoorMC
import Derived.Test.YtilebfpaibajcaaGreatDoorBuilderGo
namespace Go.Proofs.YtilebfpaibajcaaGreatDoor
open Go.ChangeShapes Go.WideShapes Go.ChangeAt Go.RowKit
open Oc Fl Bk
set_option linter.unusedVariables false
set_option maxRecDepth 100000

theorem rights_take {l : List Fld} {k : Nat} {f : Fld} (h : l[k]? = some f) : rights (l.take (k + 1)) = (rights (l.take k) && right f) := by
  rw [List.take_add_one, h]; simp [rights]
theorem rights_no {l : List Fld} {k : Nat} {f : Fld} (h : l[k]? = some f) (hr : right f = false) : rights l = false := by
  unfold rights
  rw [List.all_eq_false]
  exact ⟨f, List.mem_of_getElem? h, by simp [hr]⟩
theorem body_take {l : List Fld} {k : Nat} {f : Fld} (h : l[k]? = some f) : body (l.take (k + 1)) = body (l.take k) ++ (line f).data.toList ++ [13, 10] := by
  rw [List.take_add_one, h, Option.toList_some, body_snoc]
theorem body_take_len (l : List Fld) (k : Nat) : (body (l.take k)).length ≤ bulk l * 4 := Nat.le_trans (body_len _) (Nat.mul_le_mul_right _ (bulk_take l k))
theorem arr_app (a b : List UInt8) : arr a ++ arr b = arr (a ++ b) := b_ext (by rw [arr_list]; simp [arr])
theorem arr_app' (a : List UInt8) (s : ByteArray) : arr a ++ s = arr (a ++ s.data.toList) := by rw [← arr_app, arr_of]
theorem ret_sb {a b : ByteArray} {c d : Bool} (h : a = b) (h2 : c = d) : Ending.returned (.tuple #[.string a, .bool c]) = .returned (.tuple #[.string b, .bool d]) := by rw [h, h2]
/-- What is put of fields. -/
def putB (l : List Fld) : ByteArray := if rights l = true then arr (sec l) else ⟨#[]⟩
/-- Its error. -/
def putE (l : List Fld) : Int := if rights l = true then 0 else 1
theorem putE_yes {l : List Fld} (h : rights l = true) : putE l = 0 := if_pos h
theorem putE_no {l : List Fld} (h : rights l = false) : putE l = 1 := if_neg (by rw [h]; decide)
theorem putB_yes {l : List Fld} (h : rights l = true) : putB l = arr (sec l) := if_pos h
theorem putB_no {l : List Fld} (h : rights l = false) : putB l = ⟨#[]⟩ := if_neg (by rw [h]; decide)

set_option maxHeartbeats 4000000 in
theorem rput6_any (l : List Fld) (p : Option Addr) (c : Nat) (w : World) (hF : FS w (.slice p l.length c) l) (hl : bulk l ≤ 2000) :
    Calls Tryz.prog 53 #[.slice p l.length c] w fun e w' => e = .returned (.tuple #[.string (putB l), .bool (rights l)]) ∧ Below w.heap.size w w' := by
  have HF := Lib.hid hF
  have hll := bulk_len l
  clear hF
  go_enter Tryz.func53, Tryz.ntmps53
  go_wp2_with fail
  go_loopw [4, 5] (fun v i wr => ∃ (k : Nat), k ≤ l.length ∧ i = .int .i64 k ∧ v = .string (arr (body (l.take k))) ∧ Hid (rights (l.take k) = true) ∧ Hid (Below w.heap.size w wr)) (fun _ i _ => l.length - (intOf i).toNat)
  case atStart => exact ⟨0, Nat.zero_le _, rfl, rfl, Lib.hid rfl, Lib.hid (Below.refl _ _)⟩
  case round =>
    obtain ⟨k, hk, rfl, rfl, HR, HB⟩ := hrel
    have hbl := body_take_len l k
    have hbs := arr_size (body (l.take k))
    by_cases hlt : k < l.length
    · obtain ⟨f, hf⟩ : ∃ f, l[k]? = some f := ⟨_, List.getElem?_eq_getElem hlt⟩
      obtain ⟨-, ad, rfl, c0, c1⟩ := ((HF.out).below HB.out).at hf
      have hfz := bulk_mem (List.mem_of_getElem? hf)
      have HRI : Hid (∀ W, _) := Lib.hid fun W => rright_any f W (by omega) (by omega)
      have HPU : Hid (∀ W, _) := Lib.hid fun W => rput_any f W (by omega) (by omega)
      cases hr : right f
      · have HN := Lib.hid (rights_no hf hr)
        rw [hr] at HRI
        clear hf hr hbl hbs
        generalize arr (body (l.take k)) = sb at *
        obtain ⟨x, y⟩ := f
        go_wp2_with fail
        refine (HRI.out _).mono ?_
        rintro e w1 ⟨rfl, hb1⟩
        replace HB := Lib.hid (ahead HB.out hb1)
        clear hb1 c0 c1
        go_wp2_with fail
        go_ret2
        exact ⟨ret_sb (by rw [putB_no HN.out]) (by rw [HN.out]), HB.out⟩
      · have HR2 := Lib.hid (show rights (l.take (k + 1)) = true by rw [rights_take hf, HR.out, hr]; rfl)
        have HBT := Lib.hid (body_take hf)
        have hls := line_size f
        rw [hr] at HRI
        clear hf hr
        have HA := Lib.hid (show arr (body (l.take k)) ++ line f ++ ⟨#[13, 10]⟩ = arr (body (l.take (k + 1))) by rw [HBT.out, arr_app', show (⟨#[13, 10]⟩ : ByteArray) = arr [13, 10] from rfl, arr_app])
        obtain ⟨sb', hsb'⟩ : ∃ x, arr (body (l.take (k + 1))) = x := ⟨_, rfl⟩
        rw [hsb'] at HA
        have HSB := Lib.hid hsb'
        clear hsb'
        generalize arr (body (l.take k)) = sb at *
        have hsb : sb.size ≤ 8000 := by omega
        clear hbl hbs HBT
        generalize line f = lf at *
        obtain ⟨x, y⟩ := f
        simp only at hfz hls
        have hlf : lf.size ≤ 8000 := by omega
        go_wp2_with fail
        refine (HRI.out _).mono ?_
        rintro e w1 ⟨rfl, hb1⟩
        replace HB := Lib.hid (ahead HB.out hb1)
        replace c0 := cell_below c0 hb1
        replace c1 := cell_below c1 hb1
        clear hb1
        go_wp2_with fail
        refine (HPU.out _).mono ?_
        rintro e w2 ⟨rfl, hb1⟩
        replace HB := Lib.hid (ahead HB.out hb1)
        clear hb1 c0 c1 HRI HPU
        go_wp2_with fail
        go_roundw
        case rel => exact ⟨k + 1, by omega, by go_num, by rw [HA.out, HSB.out], HR2, HB⟩
        case measure => simp [intOf]; omega
    · obtain rfl : k = l.length := by omega
      rw [List.take_length] at *
      have HA := Lib.hid (show arr (body l) ++ ⟨#[13, 10]⟩ = arr (sec l) by rw [show (⟨#[13, 10]⟩ : ByteArray) = arr [13, 10] from rfl, arr_app]; rfl)
      generalize arr (body l) = sb at *
      have hsb : sb.size ≤ 8000 := by omega
      clear hbl hbs
      go_wp2_with fail
      go_ret2
      exact ⟨ret_sb (by rw [putB_yes HR.out, HA.out]) (by rw [HR.out]), HB.out⟩

theorem ret_se {a b : ByteArray} {c d : Int} (h : a = b) (h2 : c = d) : Ending.returned (.tuple #[.string a, .int .i64 c]) = .returned (.tuple #[.string b, .int .i64 d]) := by rw [h, h2]

set_option maxHeartbeats 4000000 in
theorem put6_any (l : List Fld) (p : Option Addr) (c : Nat) (w : World) (hF : FS w (.slice p l.length c) l) (hl : bulk l ≤ 2000) (hsp : Spans w) :
    Calls Tryz.prog 150 #[.slice p l.length c] w fun e w' => e = .returned (.tuple #[.string (putB l), .int .i64 (putE l)]) ∧ Below w.heap.size w w' := by
  have HF := Lib.hid hF
  have HS := Lib.hid hsp
  have hll := bulk_len l
  clear hF hsp
  have h0 := Lib.hid (Held6.fresh w)
  have hB0 := Lib.hid (below_box w (.cells #[.pointer none, .slice none 0 0] 199))
  go_enter Tryz.func150, Tryz.ntmps150
  go_wp2_with fail
  go_loopw [11] (fun i wr => ∃ (k : Nat), k ≤ l.length ∧ i = .int .i64 k ∧ Hid (Held6 wr w.heap.size (body (l.take k))) ∧ Hid (rights (l.take k) = true) ∧ Hid (Below w.heap.size w wr)) (fun i _ => l.length - (intOf i).toNat)
  case atStart => exact ⟨0, Nat.zero_le _, rfl, h0, Lib.hid rfl, hB0⟩
  case round =>
    clear h0 hB0
    obtain ⟨k, hk, rfl, HI, HR, HB⟩ := hrel
    have hbl := body_take_len l k
    by_cases hlt : k < l.length
    · obtain ⟨f, hf⟩ : ∃ f, l[k]? = some f := ⟨_, List.getElem?_eq_getElem hlt⟩
      obtain ⟨-, ad, rfl, c0, c1⟩ := ((HF.out).below HB.out).at hf
      have hfz := bulk_mem (List.mem_of_getElem? hf)
      cases hr : right f
      · have HN := Lib.hid (rights_no hf hr)
        have HPU : Hid (∀ W, Below w.heap.size w W → _) := Lib.hid fun W hb => put_bad f W (by omega) (by omega) (HS.out.below hb) hr
        clear hf hr hbl
        obtain ⟨x, y⟩ := f
        go_wp2_with fail
        refine (HPU.out _ (ahead HB.out (below_box _ _))).mono ?_
        rintro e w1 ⟨rfl, hb1⟩
        replace HB := Lib.hid (ahead (ahead HB.out (below_box _ _)) hb1)
        clear hb1 c0 c1
        go_wp2_with fail
        go_ret2
        exact ⟨ret_se (by rw [putB_no HN.out]) (by rw [putE_no HN.out]), HB.out⟩
      · have HR2 := Lib.hid (show rights (l.take (k + 1)) = true by rw [rights_take hf, HR.out, hr]; rfl)
        have HBT := Lib.hid (body_take hf)
        have hls := line_size f
        have HPU : Hid (∀ W, Below w.heap.size w W → _) := Lib.hid fun W hb => put_good f W (by omega) (by omega) (HS.out.below hb) hr
        clear hf hr
        generalize line f = lf at *
        obtain ⟨B', hB'⟩ : ∃ x, body (l.take (k + 1)) = x := ⟨_, rfl⟩
        rw [hB'] at HBT
        have HSB := Lib.hid hB'
        clear hB'
        generalize body (l.take k) = B at *
        obtain ⟨x, y⟩ := f
        simp only at hfz hls
        go_wp2_with fail
        refine (HPU.out _ (ahead HB.out (below_box _ _))).mono ?_
        rintro e w1 ⟨rfl, hb1⟩
        replace HI := Lib.hid ((HI.out.next (below_box _ _)).next hb1)
        replace HB := Lib.hid (ahead (ahead HB.out (below_box _ _)) hb1)
        clear hb1 c0 c1
        have HW1 := Lib.hid (write_any w1 w.heap.size B lf HI.out (by omega))
        go_wp2_with fail
        refine HW1.out.mono ?_
        rintro e w2 ⟨rfl, hi2, hb2⟩
        replace HB := Lib.hid (HB.out.trans hb2)
        have HW2 := Lib.hid (write_any w2 w.heap.size (B ++ lf.data.toList) ⟨#[13, 10]⟩ hi2 (by rw [List.length_append, blen', show (⟨#[13, 10]⟩ : ByteArray).size = 2 from rfl]; omega))
        clear hi2 hb2 HW1
        go_wp2_with fail
        refine HW2.out.mono ?_
        rintro e w3 ⟨rfl, hi3, hb3⟩
        rw [← HBT.out] at hi3
        replace HB := Lib.hid (HB.out.trans hb3)
        have HI3 := Lib.hid hi3
        clear hi3 hb3 HW2
        go_wp2_with fail
        go_roundw
        case rel => exact ⟨k + 1, by omega, by go_num, by rw [HSB.out]; exact HI3, HR2, HB⟩
        case measure => simp [intOf]; omega
    · obtain rfl : k = l.length := by omega
      rw [List.take_length] at *
      have HW1 := Lib.hid (write_any wr w.heap.size (body l) ⟨#[13, 10]⟩ HI.out (by rw [show (⟨#[13, 10]⟩ : ByteArray).size = 2 from rfl]; omega))
      go_wp2_with fail
      refine HW1.out.mono ?_
      rintro e w2 ⟨rfl, hi2, hb2⟩
      rw [show body l ++ [13, 10] = sec l from rfl] at hi2
      replace HB := Lib.hid (HB.out.trans hb2)
      have hz2 := HB.out.size
      have HW2 := Lib.hid (Tryz.builder_string w.heap.size w.heap.size (sec l) w2 hi2.shelf hz2)
      clear hi2 hb2 HW1
      go_wp2_with fail
      refine HW2.out.mono ?_
      rintro e w3 ⟨rfl, hb3⟩
      replace HB := Lib.hid (HB.out.trans hb3)
      clear hb3 HW2
      go_wp2_with fail
      go_ret2
      exact ⟨ret_se (by rw [putB_yes HR.out]; rfl) (by rw [putE_yes HR.out]), HB.out⟩

end Go.Proofs.YtilebfpaibajcaaGreatDoor
