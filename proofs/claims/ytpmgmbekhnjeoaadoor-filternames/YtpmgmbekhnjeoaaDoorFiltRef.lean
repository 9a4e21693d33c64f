/- What filter.Keep, Drop, Count, and the document's Names, Forbidden, Part answer. -/
import Derived.Test.YtpmgmbekhnjeoaaDoorFiltPart
namespace Go.Proofs.YtpmgmbekhnjeoaaDoor
open Go.ChangeShapes Go.WideShapes Go.ChangeAt Go.RowKit
open Oc Fl Ft
set_option linter.unusedVariables false
set_option maxRecDepth 100000

set_option maxHeartbeats 1000000 in
theorem keep_any (l : List Fld) (p : Option Addr) (c : Nat) (w : World) (hT : Tbl w) (hF : FS w (.slice p l.length c) l) (hl : l.length ≤ 1000000) (hfs : ∀ f ∈ l, f.name.size ≤ 1099511627776) :
    Calls Tryd.prog 12 #[.slice p l.length c] w fun e w' => ∃ v, e = .returned v ∧ FS w' v (sel false l) ∧ Below w.heap.size w w' := by
  have hP := Lib.hid (part_any l p c w hT hF hl hfs)
  clear hT hF hfs
  go_enter Tryd.func12, Tryd.ntmps12
  go_wp2_with (go_at_call 20; refine hP.out.mono ?_; rintro e w' ⟨v, u, rfl, h0, h1, hb⟩; have H0 := Lib.hid h0; have HB := Lib.hid hb; clear h0 h1 hb)
  go_ret
  exact ⟨_, rfl, H0.out, HB.out⟩

set_option maxHeartbeats 1000000 in
theorem drop_any (l : List Fld) (p : Option Addr) (c : Nat) (w : World) (hT : Tbl w) (hF : FS w (.slice p l.length c) l) (hl : l.length ≤ 1000000) (hfs : ∀ f ∈ l, f.name.size ≤ 1099511627776) :
    Calls Tryd.prog 13 #[.slice p l.length c] w fun e w' => ∃ v, e = .returned v ∧ FS w' v (sel true l) ∧ Below w.heap.size w w' := by
  have hP := Lib.hid (part_any l p c w hT hF hl hfs)
  clear hT hF hfs
  go_enter Tryd.func13, Tryd.ntmps13
  go_wp2_with (go_at_call 20; refine hP.out.mono ?_; rintro e w' ⟨v, u, rfl, h0, h1, hb⟩; have H1 := Lib.hid h1; have HB := Lib.hid hb; clear h0 h1 hb)
  go_ret
  exact ⟨_, rfl, H1.out, HB.out⟩

set_option maxHeartbeats 1000000 in
theorem count_any (l : List Fld) (p : Option Addr) (c : Nat) (w : World) (hT : Tbl w) (hF : FS w (.slice p l.length c) l) (hl : l.length ≤ 1000000) (hfs : ∀ f ∈ l, f.name.size ≤ 1099511627776) :
    Calls Tryd.prog 14 #[.slice p l.length c] w fun e w' => e = .returned (.tuple #[.int .i64 ((sel false l).length : Int), .int .i64 ((sel true l).length : Int)]) ∧ Below w.heap.size w w' := by
  have hP := Lib.hid (part_any l p c w hT hF hl hfs)
  clear hT hF hfs
  generalize sel false l = xs at *
  generalize sel true l = ys at *
  go_enter Tryd.func14, Tryd.ntmps14
  go_wp2_with (go_at_call 20; refine hP.out.mono ?_; rintro e w' ⟨v, u, rfl, h0, h1, hb⟩; obtain ⟨q, d, rfl, -, -⟩ := RS.slice h0; obtain ⟨q', d', rfl, -, -⟩ := RS.slice h1; have HB := Lib.hid hb; clear h0 h1 hb)
  go_ret2
  exact ⟨rfl, HB.out⟩

theorem rnames_any (w : World) : Calls Tryd.prog 8 #[] w fun e w' => e = .returned (.slice (some ⟨w.heap.size, 0, none⟩) 28 28) ∧ w' = w.alloc (.cells (tv nms).toArray 9) := by
  go_enter Tryd.func8, Tryd.ntmps8
  go_wp2_with fail
  go_ret
  exact ⟨rfl, rfl⟩
/-- They lie there. -/
theorem names_tx (w : World) : TX (w.alloc (.cells (tv nms).toArray 9)) (.slice (some ⟨w.heap.size, 0, none⟩) nms.length 28) nms := by
  refine ⟨rfl, some ⟨w.heap.size, 0, none⟩, 28, rfl, Nat.le_refl _, by decide, (fun h => by cases h), fun ad hp i u hu => ?_⟩
  cases hp
  rw [Addr.add_mid, Nat.zero_add, cell_of_row _ _ i _ _ _ (heap_alloc_new w _)]
  simpa using hu

set_option maxHeartbeats 2000000 in
theorem rforb_any (s : ByteArray) (w : World) (hs : s.size ≤ 1099511627776) :
    Calls Tryd.prog 10 #[.string s] w fun e w' => e = .returned (.bool (forb s)) ∧ Below w.heap.size w w' := by
  have hB := Lib.hid (rsmall_any s · hs)
  go_enter Tryd.func10, Tryd.ntmps10
  go_wp2_with (go_at_call 8; refine (rnames_any _).mono ?_; rintro e w' ⟨rfl, rfl⟩)
  have HX := Lib.hid (names_tx w)
  have HW := Lib.hid (below_box w (.cells (tv nms).toArray 9))
  generalize w.alloc (.cells (tv nms).toArray 9) = w1 at HX HW ⊢
  go_loopw [4] (fun i wr => ∃ k : Nat, k ≤ 28 ∧ i = .int .i64 k ∧ Hid (Below w1.heap.size w1 wr) ∧ Hid ((nms.take k).any (fun n => alike s.data.toList n.data.toList) = false)) (fun i _ => 28 - (intOf i).toNat)
  case atStart => exact ⟨0, by omega, rfl, Lib.hid (Below.refl _ _), Lib.hid rfl⟩
  case round =>
    obtain ⟨k, hk, rfl, HR, HA⟩ := hrel
    by_cases hlt : k < 28
    · obtain ⟨n, hn⟩ : ∃ n, nms[k]? = some n := ⟨_, List.getElem?_eq_getElem (by rw [nms_len]; exact hlt)⟩
      obtain ⟨-, ad, e0, c0⟩ := (HX.out.below HR.out).at hn
      cases e0
      rw [Addr.add_mid, Nat.zero_add] at c0
      have hnz := nms_size n (List.mem_of_getElem? hn)
      have hA := Lib.hid (rsmall_any n · (by omega))
      have HE := Lib.hid (small_eq (a := n.data.toList) (b := s.data.toList))
      have HAT := Lib.hid (alike_turn s.data.toList n.data.toList)
      have HSN := Lib.hid (any_snoc (p := fun n => alike s.data.toList n.data.toList) hn)
      have HHR := Lib.hid (any_here (p := fun n : ByteArray => alike s.data.toList n.data.toList) hn)
      clear hn
      generalize (⟨(small n.data.toList).toArray⟩ : ByteArray) = sn at *
      generalize (⟨(small s.data.toList).toArray⟩ : ByteArray) = ss at *
      cases hal : alike n.data.toList s.data.toList
      · have hE : (sn.toList == ss.toList) = false := by rw [HE.out, hal]
        have HAL := Lib.hid hal
        clear hal
        go_wp2_with fail
        refine (hA.out _).mono ?_
        rintro e w2 ⟨rfl, hb2⟩
        replace hb2 := Lib.hid (ahead HR.out hb2)
        go_wp2_with fail
        refine (hB.out _).mono ?_
        rintro e w3 ⟨rfl, hb3⟩
        replace hb3 := Lib.hid (ahead hb2.out hb3)
        go_wp2_with fail
        go_roundw
        case rel => exact ⟨k + 1, by omega, by go_num, hb3, Lib.hid (by rw [HSN.out, HA.out, HAT.out, HAL.out]; rfl)⟩
        case measure => simp [intOf]; omega
      · have hE : (sn.toList == ss.toList) = true := by rw [HE.out, hal]
        have HAL := Lib.hid hal
        clear hal
        go_wp2_with fail
        refine (hA.out _).mono ?_
        rintro e w2 ⟨rfl, hb2⟩
        replace hb2 := Lib.hid (ahead HR.out hb2)
        go_wp2_with fail
        refine (hB.out _).mono ?_
        rintro e w3 ⟨rfl, hb3⟩
        replace hb3 := Lib.hid (ahead hb2.out hb3)
        go_wp2_with fail
        go_ret
        exact ⟨ret_bool (show true = forb s from (HHR.out (by rw [HAT.out, HAL.out])).symm), ahead HW.out hb3.out⟩
    · obtain rfl : k = 28 := by omega
      go_wp2_with fail
      go_ret
      exact ⟨ret_bool (show false = forb s from HA.out.symm), ahead HW.out HR.out⟩

set_option maxHeartbeats 4000000 in
theorem rpart_any (b : Bool) (l : List Fld) (p : Option Addr) (c : Nat) (w : World) (hF : FS w (.slice p l.length c) l) (hl : l.length ≤ 1000000) (hfs : ∀ f ∈ l, f.name.size ≤ 1099511627776) :
    Calls Tryd.prog 16 #[.slice p l.length c, .bool b] w fun e w' => ∃ v, e = .returned v ∧ FS w' v (sel b l) ∧ Below w.heap.size w w' := by
  have HF := Lib.hid hF
  have HFS := Lib.hid hfs
  clear hF hfs
  go_enter Tryd.func16, Tryd.ntmps16
  go_wp2_with fail
  go_loopw [5, 6] (fun v i wr => ∃ (k : Nat), k ≤ l.length ∧ i = .int .i64 k ∧ Hid (ToldF w wr v (sel b (l.take k)))) (fun _ i _ => l.length - (intOf i).toNat)
  case atStart => exact ⟨0, Nat.zero_le _, rfl, Lib.hid ⟨World.ownsRow_nil _ _ _ _, Below.refl _ _⟩⟩
  case round =>
    obtain ⟨k, hk, rfl, HT⟩ := hrel
    by_cases hlt : k < l.length
    · obtain ⟨f, hf⟩ : ∃ f, l[k]? = some f := ⟨_, List.getElem?_eq_getElem hlt⟩
      have Hf := Lib.hid hf
      obtain ⟨-, ad, rfl, c0, c1⟩ := ((HF.out).below HT.out.below).at hf
      have hfz := HFS.out f (List.mem_of_getElem? hf)
      have HS := Lib.hid (sel_take b hf)
      have hx := sel_take_len b l k
      have HFO : Hid (∀ W, _) := Lib.hid fun W => rforb_any f.name W hfz
      rw [show forb f.name = bad f from rfl] at HFO
      generalize sel b (l.take k) = xs at *
      have k1 : (0 : Int) ≤ (k : Int) := by omega
      have k2 : (k : Int) < (l.length : Int) := by omega
      clear hf
      by_cases hb : bad f = b
      · rw [if_pos hb] at HS
        rw [hb] at HFO
        clear hb
        obtain ⟨x, y⟩ := f
        have hbb : (b == b) = true := by cases b <;> rfl
        go_wp2_with fail
        refine (HFO.out _).mono ?_
        rintro e w1 ⟨rfl, hb1⟩
        replace HT := Lib.hid (HT.out.next hb1)
        have d0 := cell_below c0 hb1
        have d1 := cell_below c1 hb1
        obtain ⟨v', w2, r0, r1⟩ := HT.out.more ⟨x, y⟩ 27 (by omega)
        have R0 := Lib.hid r0
        have R1 := Lib.hid r1
        clear r0 r1 hb1 c0 c1 HFO
        go_wp2_with (at_builtin; refine wpList_append_is rfl (.tmp 21) (.tmp 26) 27 rfl _ _ _ _ rfl rfl R0.out ?_)
        go_roundw
        case rel => exact ⟨k + 1, by omega, by go_num, Lib.hid (by rw [HS.out]; exact R1.out)⟩
        case measure => simp [intOf]; omega
      · rw [if_neg hb, List.append_nil] at HS
        have hbb : (bad f == b) = false := beq_eq_false_iff_ne.2 hb
        clear hb
        generalize bad f = g at *
        obtain ⟨x, y⟩ := f
        go_wp2_with fail
        refine (HFO.out _).mono ?_
        rintro e w1 ⟨rfl, hb1⟩
        replace HT := Lib.hid (HT.out.next hb1)
        clear hb1 c0 c1 HFO
        go_wp2_with fail
        go_roundw
        case rel => exact ⟨k + 1, by omega, by go_num, Lib.hid (by rw [HS.out]; exact HT.out)⟩
        case measure => simp [intOf]; omega
    · obtain rfl : k = l.length := by omega
      rw [List.take_length] at HT
      go_wp2_with fail
      go_ret
      exact ⟨_, rfl, RS.of_own HT.out.own, HT.out.below⟩

set_option maxHeartbeats 2000000 in
theorem wakes13 (w : World) (hT : Tbl w) : Calls Tryd.prog 7 #[] w fun e w' => e = .returned (.bool true) ∧ Below w.heap.size w w' := by
  have h1 := Lib.hid (forbidden_any ⟨#[99, 111, 110, 116, 101, 110, 116, 45, 108, 101, 110, 103, 116, 104]⟩ w hT (by decide))
  have h2 : Hid (∀ W, Below w.heap.size w W → _) := Lib.hid fun W hb => forbidden_any ⟨#[88, 45, 83, 117, 109]⟩ W (hT.below hb) (by decide)
  rw [forb_length] at h1
  rw [forb_sum] at h2
  clear hT
  go_enter Tryd.func7, Tryd.ntmps7
  go_wp2_with fail
  refine h1.out.mono ?_
  rintro e w1 ⟨rfl, hb1⟩
  replace hb1 := Lib.hid hb1
  go_wp2_with fail
  refine (h2.out _ hb1.out).mono ?_
  rintro e w2 ⟨rfl, hb2⟩
  replace hb2 := Lib.hid (ahead hb1.out hb2)
  go_wp2_with fail
  go_ret
  exact ⟨rfl, hb2.out⟩

end Go.Proofs.YtpmgmbekhnjeoaaDoor
