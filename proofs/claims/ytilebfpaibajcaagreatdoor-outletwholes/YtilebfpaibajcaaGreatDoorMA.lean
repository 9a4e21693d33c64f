/- MA: HexaFmtIn, TzMem in one. -/
import Derived.Test.YtilebfpaibajcaaGreatDoorHexaBody
import Derived.Lib.LaidTab
/- (HexaFmt over HexaBody, in the namespace H8.) strconv.FormatUint to the base 16 answers a number's text. -/
namespace Go.Proofs.YtilebfpaibajcaaGreatDoor.H8
open Go.ChangeShapes Go.WideShapes Go.ChangeAt Go.RowKit
open Hx
set_option linter.unusedVariables false
set_option maxRecDepth 100000

set_option maxHeartbeats 400000 in
theorem tz64 (w : World) (hc : w.cell? ⟨7, 15, none⟩ = some (.int .u8 4)) :
    Calls Tryz.prog 170 #[.int .u64 16] w fun e w' => e = .returned (.int .i64 4) ∧ w = w' := by
  have h1 : bits BinOp.and IntKind.u64 16 (IntKind.u64.wrap (-16)) = 16 := by decide +kernel
  have h2 : IntKind.u64.wrap (16 * 285870213051353865) = 4573923408821661840 := by decide +kernel
  go_enter Tryz.func170, Tryz.ntmps170
  go_wp2_with fail
  go_ret
  exact ⟨rfl, rfl⟩

set_option maxHeartbeats 400000 in
theorem tz (w : World) (hc : w.cell? ⟨7, 15, none⟩ = some (.int .u8 4)) :
    Calls Tryz.prog 168 #[.int .u64 16] w fun e w' => e = .returned (.int .i64 4) ∧ w = w' := by
  go_enter Tryz.func168, Tryz.ntmps168
  go_wp2_with fail
  refine (tz64 _ hc).mono ?_; rintro e w' ⟨rfl, rfl⟩
  go_wp2_with fail
  go_ret
  exact ⟨rfl, rfl⟩

set_option maxHeartbeats 400000 in
theorem pow2 (w : World) :
    Calls Tryz.prog 167 #[.int .i64 16] w fun e w' => e = .returned (.bool true) ∧ w = w' := by
  go_enter Tryz.func167, Tryz.ntmps167
  go_wp2_with fail
  go_ret
  exact ⟨rfl, rfl⟩

/-- Sixty-five noughts. -/
def zeros : Array Value := Array.replicate 65 (.int .u8 0)
theorem zeros_run (w : World) : (zeroValue 216).run Tryz.prog w = .ok (.agg zeros) w := by kernel_rfl

theorem and15 (u : Nat) (h : u ≤ 18446744073709551615) : bits BinOp.and IntKind.u64 (u : Int) 15 = ((u % 16 : Nat) : Int) := by
  show IntKind.u64.wrap (((BitVec.ofInt 64 (u : Int)) &&& (BitVec.ofInt 64 15)).toNat : Int) = _
  have e1 : (BitVec.ofInt 64 (u : Int)).toNat = u := by rw [BitVec.ofInt_natCast, BitVec.toNat_ofNat]; omega
  have e2 : (BitVec.ofInt 64 15).toNat = 2 ^ 4 - 1 := by decide
  rw [BitVec.toNat_and, e1, e2, Nat.and_two_pow_sub_one_eq_mod]
  exact IntWalk.u64_in _ (by omega)
theorem addr_add (g i j : Nat) : (⟨g, i, none⟩ : Addr).add j = ⟨g, i + j, none⟩ := by unfold Addr.add; split <;> simp_all
/-- The thirty-six digits. -/
abbrev all36 : ByteArray := ⟨#[48, 49, 50, 51, 52, 53, 54, 55, 56, 57, 97, 98, 99, 100, 101, 102, 103, 104, 105, 106, 107, 108, 109, 110, 111, 112, 113, 114, 115, 116, 117, 118, 119, 120, 121, 122]⟩
theorem all36_hexd : ∀ (d : Nat), d < 16 → ∀ (h : d < all36.size), all36[d] = hexd d := by decide
theorem cut_at (g j : Nat) (hj : j < 65) (wx : World) : (Instr.sliceAt 216 (.pointer (some ⟨g, 0, none⟩)) (some (.int .i64 (j : Int))) none none).run Tryz.prog wx = .ok (.slice (some ⟨g, j, none⟩) (65 - j) (65 - j)) wx := by
  have hl : Tryz.prog.arrayLen 216 = 65 := by kernel_rfl
  have hs : (sizeOf (Tryz.prog.elem 216)).run Tryz.prog wx = .ok 1 wx := by kernel_rfl
  rw [run_sliceAt_array_l (P := Tryz.prog) (t := 216) (kl := .i64) (l := (j : Int)) (ht := by kernel_rfl) (h0 := by omega) (h1 := by rw [hl]; omega), hs]
  have e := addr_add g 0 j
  rw [Nat.zero_add] at e
  simp [Result.andThen, slicedAt, hl, e]
  omega

/-- Bytes as cells. -/
def bv (l : List UInt8) : List Value := l.map fun b => .int .u8 (b.toNat : Int)

/-- What the buffer holds while a text t is laid from its end: P is still to come, what is behind it lies at place i and behind it. -/
def Buf (w wr : World) (t P : List UInt8) (i : Nat) : Prop := ∃ cs l, wr.heap[w.heap.size]? = some (.cells cs 216 (0, 0)) ∧ cs.size = 65 ∧ i + l.length = 65 ∧ cs.toList.drop i = bv l ∧ t = P ++ l ∧ Below w.heap.size w wr
theorem Buf.start (w : World) (t : List UInt8) : Buf w (w.alloc (.cells zeros 216)) t t 65 :=
  ⟨zeros, [], heap_alloc_new w _, by simp [zeros], rfl, by simp [zeros, bv], by simp, (Below.refl _ _).alloc (Nat.le_refl _) _⟩
theorem Buf.below {w wr : World} {t P : List UInt8} {i : Nat} (h : Buf w wr t P i) : Below w.heap.size w wr := by
  obtain ⟨cs, l, _, _, _, _, _, hb⟩ := h; exact hb
theorem Buf.cell {w wr : World} {t P : List UInt8} {i : Nat} (h : Buf w wr t P i) (j : Nat) (hj : j < 65) : ∃ v, wr.cell? ⟨w.heap.size, j, none⟩ = some v := by
  obtain ⟨cs, l, hh, hs, _⟩ := h
  exact ⟨cs[j], by rw [cell_of_row wr _ j cs 216 (0, 0) hh]; simp [hs, hj]⟩
theorem Buf.frozen {w wr : World} {t P : List UInt8} {i : Nat} (h : Buf w wr t P i) (j : Nat) : wr.frozen? ⟨w.heap.size, j, none⟩ = false := by
  obtain ⟨cs, l, hh, _⟩ := h
  simp [World.frozen?, hh]
theorem Buf.room {w wr : World} {t P : List UInt8} {i : Nat} (h : Buf w wr t P i) (ht : t.length ≤ 16) (hP : 0 < P.length) : 50 ≤ i ∧ i ≤ 65 := by
  obtain ⟨cs, l, hh, hs, hl, _, hp, _⟩ := h
  rw [hp, List.length_append] at ht
  omega
theorem Buf.step {w wr : World} {t P P' : List UInt8} {i : Nat} (h : Buf w wr t P (i + 1)) (b : UInt8) (hp : P = P' ++ [b]) {x : Value} (hx : x = .int .u8 (b.toNat : Int)) (hi : i < 65) : Buf w (wr.setCell ⟨w.heap.size, i, none⟩ x) t P' i := by
  obtain ⟨cs, l, hh, hs, hl, hd, hpp, hb⟩ := h
  subst hx
  refine ⟨cs.setIfInBounds i (.int .u8 (b.toNat : Int)), b :: l, ?_, by simp [hs], by simp; omega, ?_, ?_, hb.setCell (Nat.le_refl _) _⟩
  · simp [World.setCell, Array.getElem?_modify, hh]
  · rw [Array.toList_setIfInBounds, List.drop_eq_getElem_cons (by simp [hs]; omega)]
    simp only [List.getElem_set_self]
    rw [List.drop_set_of_lt (by omega), hd]; rfl
  · rw [hpp, hp]; simp
theorem Buf.conv {w wr : World} {t : List UInt8} {i : Nat} (h : Buf w wr t [] i) : (convert 35 9 (.slice (some ⟨w.heap.size, i, none⟩) (65 - i) (65 - i))).run Tryz.prog wr = .ok (.string ⟨t.toArray⟩) wr := by
  obtain ⟨cs, l, hh, hs, hl, hd, hpp, hb⟩ := h
  obtain rfl : t = l := by simpa using hpp
  rw [show 65 - i = t.length from by omega]
  refine run_convert_bytes_back (P := Tryz.prog) wr 35 9 5 ⟨w.heap.size, i, none⟩ t.length t Tryz.underlying35 Tryz.underlying5 Tryz.underlying9 (fun j hj => ?_)
  have e := addr_add w.heap.size i j
  rw [e, cell_of_row wr _ (i + j) cs 216 (0, 0) hh]
  have : cs.toList[i + j]? = (bv t)[j]? := by rw [← hd, List.getElem?_drop]
  rw [← Array.getElem?_toList, this]; simp [bv, hj]
theorem put_16 (u : Nat) (h : 16 ≤ u) : put u = put (u / 16) ++ [hexd (u % 16)] := by rw [put, dif_neg (by omega)]
theorem put_15 (u : Nat) (h : ¬ 16 ≤ u) : put u = [] ++ [hexd u] := by rw [put, dif_pos (by omega)]; rfl

set_option maxHeartbeats 400000 in
theorem bits_hex (n : Nat) (hn : n ≤ 18446744073709551615) (w : World) (hc : w.cell? ⟨7, 15, none⟩ = some (.int .u8 4)) (h3 : 7 < w.heap.size) :
    Calls Tryz.prog 163 #[.slice none 0 0, .int .u64 n, .int .i64 16, .bool false, .bool false] w fun e w' => e = .returned (.tuple #[.slice none 0 0, .string ⟨(put n).toArray⟩]) ∧ Below w.heap.size w w' := by
  have hzr := zeros_run
  go_enter Tryz.func163, Tryz.ntmps163
  go_wp2_with fail
  refine (pow2 _).mono ?_; rintro e w' ⟨rfl, rfl⟩
  go_wp2_with fail
  refine (tz _ ?_).mono ?_
  · rw [World.cell?_alloc_lt _ _ _ (show (7 : Nat) < w.heap.size by omega)]; exact hc
  rintro e w' ⟨rfl, rfl⟩
  go_wp2_with fail
  go_loopw [1, 13] (fun t i wr => ∃ (u : Nat) (k : Nat), u ≤ 18446744073709551615 ∧ t = .int .u64 u ∧ i = .int .i64 k ∧ Buf w wr (put n) (put u) k) (fun t _ _ => (intOf t).toNat)
  case atStart => exact ⟨n, 65, hn, rfl, rfl, Buf.start w _⟩
  case round =>
    obtain ⟨u, k, hu, rfl, rfl, hbuf⟩ := hrel
    have hroom := hbuf.room (put_len16 n (by omega)) (put_len_pos u)
    obtain ⟨j, rfl⟩ : ∃ j, k = j + 1 := ⟨k - 1, by omega⟩
    obtain ⟨v, hv⟩ := hbuf.cell j (by omega)
    have hf := hbuf.frozen j
    by_cases h16 : 16 ≤ u
    · have hand := and15 u hu
      have B := Lib.hid (hbuf.step (x := .int .u8 ((all36[u % 16]'(by show u % 16 < 36; omega)).toNat : Int)) _ (put_16 u h16) (by rw [all36_hexd _ (by omega)]) (by omega))
      go_wp2_with fail
      go_roundw
      case rel => exact ⟨u / 16, j, by omega, by go_num, rfl, B.out⟩
      case measure => simp [intOf]; omega
    · have B := hbuf.step (x := .int .u8 ((all36[u]'(by show u < 36; omega)).toNat : Int)) _ (put_15 u h16) (by rw [all36_hexd _ (by omega)]) (by omega)
      have hcv := B.conv
      have HB := Lib.hid B.below
      clear B
      have hcut := cut_at w.heap.size j (by omega)
      go_wp2_with fail
      go_ret2
      exact ⟨rfl, HB.out⟩

set_option maxHeartbeats 400000 in
theorem fmt_inner (n : Nat) (hn : n ≤ 18446744073709551615) (w : World) (hc : w.cell? ⟨7, 15, none⟩ = some (.int .u8 4)) (h3 : 7 < w.heap.size) :
    Calls Tryz.prog 158 #[.int .u64 n, .int .i64 16] w fun e w' => e = .returned (.string ⟨(put n).toArray⟩) ∧ Below w.heap.size w w' := by
  go_enter Tryz.func158, Tryz.ntmps158
  go_wp2_with fail
  refine (bits_hex n hn _ hc h3).mono ?_; rintro e w' ⟨rfl, hb⟩
  go_wp2_with fail
  go_ret
  exact ⟨rfl, hb⟩
set_option maxHeartbeats 400000 in
theorem fmt_outer (n : Nat) (hn : n ≤ 18446744073709551615) (w : World) (hc : w.cell? ⟨7, 15, none⟩ = some (.int .u8 4)) (h3 : 7 < w.heap.size) :
    Calls Tryz.prog 156 #[.int .u64 n, .int .i64 16] w fun e w' => e = .returned (.string ⟨(put n).toArray⟩) ∧ Below w.heap.size w w' := by
  go_enter Tryz.func156, Tryz.ntmps156
  go_wp2_with fail
  refine (fmt_inner n hn _ hc h3).mono ?_; rintro e w' ⟨rfl, hb⟩
  go_wp2_with fail
  go_ret
  exact ⟨rfl, hb⟩
set_option maxHeartbeats 400000 in
theorem put_any (n : Nat) (hn : n ≤ 18446744073709551615) (w : World) (hc : w.cell? ⟨7, 15, none⟩ = some (.int .u8 4)) (h3 : 7 < w.heap.size) :
    Calls Tryz.prog 152 #[.int .u64 n] w fun e w' => e = .returned (.string ⟨(put n).toArray⟩) ∧ Below w.heap.size w w' := by
  go_enter Tryz.func152, Tryz.ntmps152
  go_wp2_with fail
  refine (fmt_outer n hn _ hc h3).mono ?_; rintro e w' ⟨rfl, hb⟩
  go_wp2_with fail
  go_ret
  exact ⟨rfl, hb⟩

end Go.Proofs.YtilebfpaibajcaaGreatDoor.H8

/- The cell of math/bits.deBruijn64tab that TrailingZeros(16) reads; hexa.Put with that. -/
namespace Go.Proofs.YtilebfpaibajcaaGreatDoor
open Go.ChangeShapes Go.WideShapes Go.ChangeAt Go.RowKit
set_option linter.unusedVariables false
set_option maxRecDepth 100000

/-- The cell that TrailingZeros(16) reads. -/
def Tz (w : World) : Prop := w.cell? ⟨7, 15, none⟩ = some (.int .u8 4)
theorem Tz.lt {w : World} (h : Tz w) : 7 < w.heap.size := World.block_lt_of_cell? w _ h
theorem Tz.below {w w' : World} (h : Tz w) (hb : Below w.heap.size w w') : Tz w' := (hb.cell h.lt).trans h

theorem hput_any (n : Nat) (hn : n ≤ 18446744073709551615) (w : World) (hc : Tz w) :
    Calls Tryz.prog 152 #[.int .u64 n] w fun e w' => e = .returned (.string ⟨(Hx.put n).toArray⟩) ∧ Below w.heap.size w w' := H8.put_any n hn w hc hc.lt

end Go.Proofs.YtilebfpaibajcaaGreatDoor
