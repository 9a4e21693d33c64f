/- What octet.Small, octet.Alike, and the document's Small answer. -/
import Derived.Test.YtpmgmbekhnjeoaaDoorOctetTrim
import Derived.Test.YtpmgmbekhnjeoaaDoorByteRows
import Derived.Lib.ConvBytes
namespace Go.Proofs.YtpmgmbekhnjeoaaDoor
open Go.ChangeShapes Go.WideShapes Go.ChangeAt Go.RowKit
open Oc
set_option linter.unusedVariables false
set_option maxRecDepth 100000

/-- A text's bytes in a row of the call's own, the first k of them in small letters. -/
def Row (w wr : World) (s : ByteArray) (k : Nat) : Prop := ∃ cs f0 f1, wr.heap[w.heap.size]? = some (.cells cs 5 (f0, f1)) ∧ s.size ≤ f0 ∧
  (∀ j (h : j < s.size), cs[j]? = some (.int .u8 ((if j < k then smlB s[j] else s[j]).toNat : Int))) ∧ Below w.heap.size w wr

theorem Row.start (w : World) (s : ByteArray) : Row w (Lib.bytesWorld w 5 s) s 0 := by
  refine ⟨_, _, _, Lib.bytesWorld_at_new w 5 s, ?_, ?_, ?_⟩
  · simp [Lib.bytesCells]
  · intro j h; simp [Lib.bytesCells, Array.getElem?_append, h, ByteArray.getElem_eq_getElem_data]
  · exact ⟨rfl, rfl, rfl, by rw [Lib.bytesWorld_size]; omega, fun j hj => Lib.bytesWorld_at_old w _ s j hj⟩

theorem Row.below {w wr : World} {s : ByteArray} {k : Nat} (h : Row w wr s k) : Below w.heap.size w wr := by
  obtain ⟨_, _, _, _, _, _, hb⟩ := h; exact hb
theorem Row.cell {w wr : World} {s : ByteArray} {k : Nat} (h : Row w wr s k) (hk : k < s.size) : wr.cell? ⟨w.heap.size, k, none⟩ = some (.int .u8 (s[k].toNat : Int)) := by
  obtain ⟨cs, f0, f1, hh, _, hc, _⟩ := h
  rw [cell_of_row wr _ k cs _ _ hh, hc k hk]; simp
theorem Row.frozen {w wr : World} {s : ByteArray} {k : Nat} (h : Row w wr s k) (hk : k < s.size) : wr.frozen? ⟨w.heap.size, k, none⟩ = false := by
  obtain ⟨cs, f0, f1, hh, hf, _, _⟩ := h
  simp [World.frozen?, hh]; omega
theorem Row.other {w wr : World} {s : ByteArray} {k : Nat} (h : Row w wr s k) (hk : k < s.size) (hb : smlB s[k] = s[k]) : Row w wr s (k + 1) := by
  obtain ⟨cs, f0, f1, hh, hf, hc, hB⟩ := h
  refine ⟨cs, f0, f1, hh, hf, fun j hj => ?_, hB⟩
  rw [hc j hj]
  by_cases h1 : j = k
  · subst h1; simp [hb]
  · simp [show (j < k + 1) = (j < k) from propext (by omega)]
theorem Row.great {w wr : World} {s : ByteArray} {k : Nat} (h : Row w wr s k) (hk : k < s.size) {x : Value} (hx : x = .int .u8 ((smlB s[k]).toNat : Int)) : Row w (wr.setCell ⟨w.heap.size, k, none⟩ x) s (k + 1) := by
  obtain ⟨cs, f0, f1, hh, hf, hc, hB⟩ := h
  subst hx
  refine ⟨cs.setIfInBounds k (.int .u8 ((smlB s[k]).toNat : Int)), f0, f1, ?_, hf, fun j hj => ?_, hB.setCell (Nat.le_refl _) _⟩
  · simp [World.setCell, Array.getElem?_modify, hh]
  · rw [Array.getElem?_setIfInBounds]
    by_cases h1 : k = j
    · subst h1
      have h2 : k < cs.size := by
        have := hc k hj
        exact (Array.getElem?_eq_some_iff.1 this).1
      simp [h2]
    · rw [if_neg h1, hc j hj]
      simp [show (j < k + 1) = (j < k) from propext (by omega)]
theorem Row.conv {w wr : World} {s : ByteArray} {k cap : Nat} (h : Row w wr s k) (hk : ¬ k < s.size) : (convert 45 9 (.slice (some ⟨w.heap.size, 0, none⟩) s.size cap)).run Tryd.prog wr = .ok (.string ⟨(small s.data.toList).toArray⟩) wr := by
  obtain ⟨cs, f0, f1, hh, hf, hc, hB⟩ := h
  have hl : s.size = (small s.data.toList).length := by rw [small_len, blen]
  rw [hl]
  refine run_convert_bytes_back (P := Tryd.prog) wr 45 9 5 ⟨w.heap.size, 0, none⟩ cap (small s.data.toList) Tryd.underlying45 Tryd.underlying5 Tryd.underlying9 (fun j hj => ?_)
  have hj' : j < s.size := by omega
  have e : (⟨w.heap.size, 0, none⟩ : Addr).add j = ⟨w.heap.size, j, none⟩ := by unfold Addr.add; split <;> simp_all
  rw [e, cell_of_row wr _ j cs _ _ hh, hc j hj']
  simp [small, show j < k by omega, ByteArray.getElem_eq_getElem_data]

set_option maxHeartbeats 800000 in
theorem small_any (s : ByteArray) (w : World) (hs : s.size ≤ 1099511627776) :
    Calls Tryd.prog 22 #[.string s] w fun e w' => e = .returned (.string ⟨(small s.data.toList).toArray⟩) ∧ Below w.heap.size w w' := by
  have hc := Lib.run_convert_string_bytes (P := Tryd.prog) w 9 45 5 s Tryd.underlying9 Tryd.underlying45 Tryd.underlying5
  generalize grownCap w s.size 0 5 = cap at hc
  have HS := Lib.hid (Row.start w s)
  generalize Lib.bytesWorld w 5 s = w1 at hc HS
  go_enter Tryd.func22, Tryd.ntmps22
  go_wp2_with fail
  go_loopw [10] (fun i wr => ∃ k : Nat, k ≤ s.size ∧ i = .int .i64 k ∧ Hid (Row w wr s k)) (fun i _ => s.size - (intOf i).toNat)
  case atStart => exact ⟨0, Nat.zero_le _, rfl, HS⟩
  case round =>
    clear hc HS
    obtain ⟨k, hk, rfl, hR⟩ := hrel
    by_cases hlt : k < s.size
    · have hcell := hR.out.cell hlt
      have hfro := hR.out.frozen hlt
      have b0 := byte_lo s[k]
      have b1 := byte_hi s[k]
      by_cases hg : 65 ≤ (s[k].toNat : Int) ∧ (s[k].toNat : Int) ≤ 90
      · obtain ⟨g0, g1⟩ := hg
        go_wp2_with fail
        go_roundw
        case rel => exact ⟨k + 1, by omega, by go_num, Lib.hid (hR.out.great hlt (by rw [smlB_great _ g0 g1]; go_num))⟩
        case measure => simp [intOf]; omega
      · have HO := Lib.hid (smlB_other s[k] hg)
        by_cases g0 : 65 ≤ (s[k].toNat : Int)
        · have g1 : 90 < (s[k].toNat : Int) := by omega
          clear hg
          go_wp2_with fail
          go_roundw
          case rel => exact ⟨k + 1, by omega, by go_num, Lib.hid (hR.out.other hlt HO.out)⟩
          case measure => simp [intOf]; omega
        · clear hg
          go_wp2_with fail
          go_roundw
          case rel => exact ⟨k + 1, by omega, by go_num, Lib.hid (hR.out.other hlt HO.out)⟩
          case measure => simp [intOf]; omega
    · have hcv := hR.out.conv (cap := cap) hlt
      have HB := Lib.hid hR.out.below
      go_wp2_with fail
      go_ret
      exact ⟨rfl, HB.out⟩

theorem small_take (s : ByteArray) (k : Nat) (h : k < s.size) : small (s.data.toList.take (k + 1)) = small (s.data.toList.take k) ++ [smlB s[k]] := by
  rw [btake s k h]; unfold small; simp
theorem take_len (s : ByteArray) (k : Nat) (h : k ≤ s.size) : (small (s.data.toList.take k)).length = k := by
  rw [small_len, List.length_take, blen]; omega

set_option maxHeartbeats 1000000 in
theorem rsmall_any (s : ByteArray) (w : World) (hs : s.size ≤ 1099511627776) :
    Calls Tryd.prog 19 #[.string s] w fun e w' => e = .returned (.string ⟨(small s.data.toList).toArray⟩) ∧ Below w.heap.size w w' := by
  obtain ⟨i0, hi, hz0, hz1, hz2⟩ := info_parts byte_info
  go_enter Tryd.func19, Tryd.ntmps19
  go_wp2_with fail
  go_loopw [3, 4] (fun v i wr => ∃ (k : Nat) (l : List UInt8), k ≤ s.size ∧ i = .int .i64 k ∧ Hid (l = small (s.data.toList.take k)) ∧ wr.ownsRow w.heap.size 5 1 v l.length (bv l) ∧ Below w.heap.size w wr) (fun _ i _ => s.size - (intOf i).toNat)
  case atStart => exact ⟨0, [], Nat.zero_le _, rfl, Lib.hid (by simp [small]), World.ownsRow_nil _ _ _ _, Below.refl _ _⟩
  case round =>
    obtain ⟨k, l, hk, rfl, hl, hown, hbel⟩ := hrel
    have hsz := hbel.size
    have hlen := Lib.hid (show l.length = k by rw [hl.out, take_len s k hk])
    by_cases hlt : k < s.size
    · have b0 := byte_lo s[k]
      have b1 := byte_hi s[k]
      have HT := Lib.hid (small_take s k hlt)
      by_cases hg : 65 ≤ (s[k].toNat : Int) ∧ (s[k].toNat : Int) ≤ 90
      · obtain ⟨g0, g1⟩ := hg
        have HG := Lib.hid (smlB_great s[k] g0 g1)
        go_wp2_with (at_builtin; go_must (refine wpList_append_own _ rfl _ _ 45 rfl w.heap.size 5 i0 (.int .u8 0) 1 1 Tryd.underlying45 hi hz0 hz1 hz2 rfl (by decide) _ _ _ rfl (hown.alloc _) ⟨wr.heap.size, 0, none⟩ 1 1 [.int .u8 ((s[k].toNat : Int) + 32)] rfl rfl (cell_one_new _ _ _) (fun x hx => by simp at hx; subst hx; rfl) (by rw [hlen.out]; unfold maxLen; omega) (by rw [hlen.out]; omega) (by simp; omega) ?_; intro v' w1 hown' hgrow _))
        have R := own_step (b := smlB s[k]) (by rw [HG.out]) hbel hown hown' hgrow
        clear hown' hgrow hown
        go_wp2
        go_roundw
        case rel => exact ⟨k + 1, _, by omega, by go_num, Lib.hid (by rw [HT.out, hl.out]), R.1, R.2⟩
        case measure => simp [intOf]; omega
      · have HO := Lib.hid (smlB_other s[k] hg)
        by_cases g0 : 65 ≤ (s[k].toNat : Int)
        · have g1 : 90 < (s[k].toNat : Int) := by omega
          clear hg
          go_wp2_with (at_builtin; go_must (refine wpList_append_own _ rfl _ _ 45 rfl w.heap.size 5 i0 (.int .u8 0) 1 1 Tryd.underlying45 hi hz0 hz1 hz2 rfl (by decide) _ _ _ rfl (hown.alloc _) ⟨wr.heap.size, 0, none⟩ 1 1 [.int .u8 (s[k].toNat : Int)] rfl rfl (cell_one_new _ _ _) (fun x hx => by simp at hx; subst hx; rfl) (by rw [hlen.out]; unfold maxLen; omega) (by rw [hlen.out]; omega) (by simp; omega) ?_; intro v' w1 hown' hgrow _))
          have R := own_step (b := smlB s[k]) (by rw [HO.out]) hbel hown hown' hgrow
          clear hown' hgrow hown
          go_wp2
          go_roundw
          case rel => exact ⟨k + 1, _, by omega, by go_num, Lib.hid (by rw [HT.out, hl.out]), R.1, R.2⟩
          case measure => simp [intOf]; omega
        · clear hg
          go_wp2_with (at_builtin; go_must (refine wpList_append_own _ rfl _ _ 45 rfl w.heap.size 5 i0 (.int .u8 0) 1 1 Tryd.underlying45 hi hz0 hz1 hz2 rfl (by decide) _ _ _ rfl (hown.alloc _) ⟨wr.heap.size, 0, none⟩ 1 1 [.int .u8 (s[k].toNat : Int)] rfl rfl (cell_one_new _ _ _) (fun x hx => by simp at hx; subst hx; rfl) (by rw [hlen.out]; unfold maxLen; omega) (by rw [hlen.out]; omega) (by simp; omega) ?_; intro v' w1 hown' hgrow _))
          have R := own_step (b := smlB s[k]) (by rw [HO.out]) hbel hown hown' hgrow
          clear hown' hgrow hown
          go_wp2
          go_roundw
          case rel => exact ⟨k + 1, _, by omega, by go_num, Lib.hid (by rw [HT.out, hl.out]), R.1, R.2⟩
          case measure => simp [intOf]; omega
    · have hcv := conv_own l _ _ _ hown
      have HL := Lib.hid (show l = small s.data.toList by rw [hl.out, List.take_of_length_le (by rw [blen]; omega)])
      go_wp2_with fail
      go_ret
      exact ⟨ret_str (by rw [HL.out]), hbel⟩

set_option maxHeartbeats 400000 in
theorem alike_any (a b : ByteArray) (w : World) (ha : a.size ≤ 1099511627776) (hb : b.size ≤ 1099511627776) :
    Calls Tryd.prog 18 #[.string a, .string b] w fun e w' => e = .returned (.bool (alike a.data.toList b.data.toList)) ∧ Below w.heap.size w w' := by
  by_cases hn : a.size = b.size
  · have h1 : ((a.size : Int) == (b.size : Int)) = true := beq_iff_eq.2 (by omega)
    go_enter Tryd.func18, Tryd.ntmps18
    go_wp2_with fail
    refine (small_any a _ ha).mono ?_; rintro e w' ⟨rfl, hb1⟩
    go_wp2_with fail
    refine (small_any b _ hb).mono ?_; rintro e w'' ⟨rfl, hb2⟩
    go_wp2_with fail
    go_ret
    exact ⟨ret_bool (by unfold alike; rw [Bool.eq_iff_iff]; simp), hb1.trans (hb2.mono hb1.size)⟩
  · have h1 : ((a.size : Int) == (b.size : Int)) = false := beq_eq_false_iff_ne.2 (by omega)
    have HA := Lib.hid (alike_len (a := a.data.toList) (b := b.data.toList) (by rw [blen, blen]; exact hn))
    clear hn
    go_enter Tryd.func18, Tryd.ntmps18
    go_wp2_with fail
    go_ret
    exact ⟨ret_bool (by rw [HA.out]), Below.refl _ _⟩

end Go.Proofs.YtpmgmbekhnjeoaaDoor
