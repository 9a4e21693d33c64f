/- Noughts ahead and great letters make no difference. -/
import Derived.Test.YtgedaplljnpilaaWalksD
import Derived.Deep.DeepMust
import Derived.Maps.AppendAt
namespace Go.Proofs.Ytgedaplljnpilaa
open Go.ChangeShapes Go.WideShapes Go.ChangeAt Go.RowKit
open Hx
set_option linter.unusedVariables false

/-- What digits say, one by one. -/
def dgs (l : List UInt8) : List Int := l.map fun c => dg (c.toNat : Int)
theorem val_dgs (l : List UInt8) : val l = (dgs l).foldl (fun n d => 16 * n + d.toNat) 0 := by unfold val dgs; rw [List.foldl_map]
theorem isd_dgs {l m : List UInt8} (h : dgs l = dgs m) (hm : ∀ c ∈ m, isd c = true) : ∀ c ∈ l, isd c = true := by
  intro c hc
  have h1 : dg (c.toNat : Int) ∈ dgs l := List.mem_map.2 ⟨c, hc, rfl⟩
  rw [h] at h1
  obtain ⟨d, hd, e⟩ := List.mem_map.1 h1
  have := isd_dg (hm d hd)
  unfold isd; rw [decide_eq_true_iff, ← e]; exact this
theorem parse_noughts (n r : Nat) (m : List UInt8) (h : dgs m = dgs (put n)) : parse (List.replicate r 48 ++ m) = parse (put n) := by
  have hv : val m = val (put n) := by rw [val_dgs, val_dgs, h]
  have hr : ∀ c ∈ List.replicate r (48 : UInt8), c = 48 := fun c hc => List.eq_of_mem_replicate hc
  have hne : m ≠ [] := by
    intro e; subst e
    have h1 : (dgs (put n)).length = 0 := by rw [← h]; rfl
    have h2 := put_len_pos n
    unfold dgs at h1; rw [List.length_map] at h1; omega
  rw [parse_digits (by simp [hne]), parse_digits (put_ne n) (put_isd n), val_append, val_noughts hr, Nat.zero_mul, Nat.zero_add, hv]
  intro c hc
  rw [List.mem_append] at hc
  rcases hc with hc | hc
  · rw [hr c hc]; decide
  · exact isd_dgs h (put_isd n) c hc

/-- Bytes as cells. -/
def bv (l : List UInt8) : List Value := l.map fun b => .int .u8 (b.toNat : Int)
theorem bv_snoc (l : List UInt8) (b : UInt8) : bv l ++ [.int .u8 (b.toNat : Int)] = bv (l ++ [b]) := by simp [bv]
theorem bv_len (l : List UInt8) : (bv l).length = l.length := by simp [bv]
theorem conv_own (l : List UInt8) (base : Nat) (v : Value) (wx : World) (h : wx.ownsRow base 5 1 v l.length (bv l)) :
    (convert 34 9 v).run Try.prog wx = .ok (.string ⟨l.toArray⟩) wx := by
  rcases h.2 with ⟨rfl, hn⟩ | ⟨g, cap, cur, rfl, _, hh, _⟩
  · obtain rfl : l = [] := List.eq_nil_of_length_eq_zero hn
    exact run_convert_bytes_nil (P := Try.prog) wx 34 5 Try.underlying34 Try.underlying5 0 0 9 Try.underlying9
  · refine run_convert_bytes_back (P := Try.prog) wx 34 9 5 ⟨g, 0, none⟩ cap l Try.underlying34 Try.underlying5 Try.underlying9 (fun j hj => ?_)
    exact h.cells (g := g) rfl j _ (by simp [bv, hj])

theorem Try.info5 : (Try.prog.info? 5).map (fun i => (i.zero, i.size, i.bytes)) = some (some (.int .u8 0), 1, 1) := by kernel_rfl

/-- The bytes that were gathered: noughts, then as many bytes of the text, each saying the same digit. -/
def Gathered (s : ByteArray) (r j : Nat) (l : List UInt8) : Prop := ∃ m, l = List.replicate r 48 ++ m ∧ dgs m = dgs (s.data.toList.take j)
theorem Gathered.len {s : ByteArray} {r j : Nat} {l : List UInt8} (h : Gathered s r j l) (hj : j ≤ s.size) : l.length = r + j := by
  obtain ⟨m, rfl, e⟩ := h
  have := congrArg List.length e
  simp [dgs] at this ⊢; omega
theorem Gathered.start (s : ByteArray) (r : Nat) : Gathered s r 0 (List.replicate r 48) := ⟨[], by simp, by simp⟩
theorem Gathered.next {s : ByteArray} {r j : Nat} {l : List UInt8} (h : Gathered s r j l) (hj : j < s.size) (b : UInt8) (hb : dg (b.toNat : Int) = dg (s[j].toNat : Int)) : Gathered s r (j + 1) (l ++ [b]) := by
  obtain ⟨m, rfl, e⟩ := h
  refine ⟨m ++ [b], by simp, ?_⟩
  rw [btake s j hj]; unfold dgs at e ⊢; simp [e, hb]
theorem small_of (c : UInt8) (h : 97 ≤ (c.toNat : Int)) (hd : 0 ≤ dg (c.toNat : Int)) : ∃ b : UInt8, (b.toNat : Int) = (c.toNat : Int) - 32 ∧ dg (b.toNat : Int) = dg (c.toNat : Int) := by
  have h2 : (c.toNat : Int) ≤ 102 := by revert hd; unfold dg; (repeat' split) <;> omega
  refine ⟨UInt8.ofNat (c.toNat - 32), ?_, ?_⟩
  · simp; omega
  · have e : ((UInt8.ofNat (c.toNat - 32)).toNat : Int) = (c.toNat : Int) - 32 := by simp; omega
    rw [e]; unfold dg; (repeat' split) <;> omega
theorem own_step {w wr w1 : World} {v v' : Value} {l : List UInt8} {b : UInt8} {x : Value} (hx : x = .int .u8 (b.toNat : Int)) (hB : Below w.heap.size w wr)
    (hown : wr.ownsRow w.heap.size 5 1 v l.length (bv l)) (hown' : w1.ownsRow w.heap.size 5 1 v' (l.length + 1) (bv l ++ [x])) (hg : (wr.alloc (.cells #[x] 5)).grownBy w1 v.ownBlock) :
    w1.ownsRow w.heap.size 5 1 v' (l ++ [b]).length (bv (l ++ [b])) ∧ Below w.heap.size w w1 := by
  subst hx
  refine ⟨by rw [← bv_snoc, List.length_append]; exact hown', ?_⟩
  have h1 := hB.size
  exact (hB.alloc h1 _).grown hg (by simp; omega) (fun k hk => (hown.lt k hk).1)

theorem bput_isd {s : ByteArray} {n : Nat} (h : s = ⟨(put n).toArray⟩) (j : Nat) (hj : j < s.size) : 0 ≤ dg (s[j].toNat : Int) := by
  subst h
  exact isd_dg (put_isd n _ (by simp [ByteArray.getElem_eq_getElem_data]))
theorem gathered_parse {s : ByteArray} {n r : Nat} {l : List UInt8} (h : s = ⟨(put n).toArray⟩) (g : Gathered s r s.size l) : parse (⟨l.toArray⟩ : ByteArray).data.toList = parse s.data.toList := by
  subst h
  obtain ⟨m, rfl, e⟩ := g
  have e2 : dgs m = dgs ((put n).take (put n).toArray.size) := e
  rw [List.take_of_length_le (by simp)] at e2
  exact parse_noughts n r m e2

set_option maxHeartbeats 2000000 in
theorem noughts_walk0 (n : Int) (n0 : 0 ≤ n) (n1 : n ≤ 18446744073709551615) (kb : UInt8) (w : World) :
    Calls Try.prog 5 #[.int .u64 n, .int .u8 (kb.toNat : Int)] w fun e w' => e = .returned (.bool true) ∧ Below w.heap.size w w' := by
  obtain ⟨s, hs⟩ : ∃ s : ByteArray, s = ⟨(put n.toNat).toArray⟩ := ⟨_, rfl⟩
  have HP := Lib.hid fun wx => (rput_any (n.toNat + 1) n wx (by omega) n0 n1)
  rw [← hs] at HP
  have hl : s.size ≤ 16 := by rw [hs]; exact put_len16 n.toNat (by omega)
  have hs1 : s.size ≤ 1099511627776 := by omega
  have HS := Lib.hid hs
  clear hs
  have c0 := byte_lo kb
  have c1 := byte_hi kb
  obtain ⟨i0, hi, hz0, hz1, hz2⟩ := info_parts Try.info5
  go_enter Try.func5, Try.ntmps5
  go_wp2_with fail
  refine (wakes_any _).mono ?_; rintro e w' ⟨rfl, rfl⟩
  go_wp2_with fail
  refine (HP.out _).mono ?_; rintro e w' ⟨rfl, m, rfl⟩
  go_wp2_with fail
  go_loopw [6, 21] (fun v i wr => ∃ r : Nat, (r : Int) ≤ (kb.toNat : Int) % 40 ∧ i = .int .i64 r ∧ wr.ownsRow w.heap.size 5 1 v (List.replicate r (48 : UInt8)).length (bv (List.replicate r 48)) ∧ Below w.heap.size w wr)
    (fun _ i _ => 40 - (intOf i).toNat)
  case atStart =>
    refine ⟨0, by omega, rfl, ?_, ?_⟩
    · exact World.ownsRow_made (w.drewN m) #[] 0 (Nat.le_refl _) (Nat.zero_le _) rfl
    · exact (below_drewN (Below.refl _ _) m).alloc (Nat.le_refl _) _
  case round =>
    obtain ⟨r, hr, rfl, hown, hbel⟩ := hrel
    have hsz := hbel.size
    have hlr : (List.replicate r (48 : UInt8)).length = r := by simp
    have HLR := Lib.hid hlr
    clear hlr
    by_cases hlt : (r : Int) < (kb.toNat : Int) % 40
    · go_wp2_with (at_builtin; go_must (refine wpList_append_own _ rfl _ _ 34 rfl w.heap.size 5 i0 (.int .u8 0) 1 1 Try.underlying34 hi hz0 hz1 hz2 rfl (by decide) _ _ _ rfl (hown.alloc _) ⟨wr.heap.size, 0, none⟩ 1 1 [.int .u8 48] rfl rfl (cell_one_new _ _ _) (fun x hx => by simp at hx; subst hx; rfl) (by rw [HLR.out]; unfold maxLen; omega) (by rw [HLR.out]; omega) (by simp; omega) ?_; intro v' w1 hown' hgrow _))
      have R := own_step (b := 48) rfl hbel hown hown' hgrow
      clear hown' hgrow hown
      rw [show List.replicate r (48 : UInt8) ++ [48] = List.replicate (r + 1) 48 from List.replicate_succ'.symm] at R
      go_wp2
      go_roundw
      case rel => exact ⟨r + 1, by omega, by go_num, R.1, R.2⟩
      case measure => simp [intOf]; omega
    · go_wp2_with fail
      have hs16 : (r : Int) ≤ 39 := by omega
      go_loopw [6, 29] (fun v i wr => ∃ (j : Nat) (l : List UInt8), j ≤ s.size ∧ i = .int .i64 j ∧ Gathered s r j l ∧ wr.ownsRow w.heap.size 5 1 v l.length (bv l) ∧ Below w.heap.size w wr)
        (fun _ i _ => s.size - (intOf i).toNat)
      case atStart => exact ⟨0, List.replicate r 48, Nat.zero_le _, rfl, Gathered.start s r, hown, hbel⟩
      case round =>
        clear hown hbel hsz HLR
        obtain ⟨j, l, hj, rfl, hga, hown, hbel⟩ := hrel
        have hsz := hbel.size
        have hlen := Lib.hid (hga.len hj)
        by_cases hjl : j < s.size
        · have hb0 := byte_lo s[j]
          have hb1 := byte_hi s[j]
          have hd : 0 ≤ dg (s[j].toNat : Int) := bput_isd HS.out j hjl
          by_cases h97 : 97 ≤ (s[j].toNat : Int)
          · by_cases hev : ((kb.toNat : Int) + j) % 2 = 0
            · obtain ⟨b, hb, hdb⟩ := small_of s[j] h97 hd
              have HB := Lib.hid hb
              have HDB := Lib.hid hdb
              clear hb hdb
              have he : ((((kb.toNat : Int) + j) % 2) == 0) = true := beq_iff_eq.2 hev
              clear hev
              go_wp2_with (at_builtin; go_must (refine wpList_append_own _ rfl _ _ 34 rfl w.heap.size 5 i0 (.int .u8 0) 1 1 Try.underlying34 hi hz0 hz1 hz2 rfl (by decide) _ _ _ rfl (hown.alloc _) ⟨wr.heap.size, 0, none⟩ 1 1 [.int .u8 ((s[j].toNat : Int) - 32)] rfl rfl (cell_one_new _ _ _) (fun x hx => by simp at hx; subst hx; rfl) (by rw [hlen.out]; unfold maxLen; omega) (by rw [hlen.out]; omega) (by simp; omega) ?_; intro v' w1 hown' hgrow _))
              have R := own_step (b := b) (by rw [HB.out]) hbel hown hown' hgrow
              clear hown' hgrow hown
              have G := hga.next hjl b HDB.out
              go_wp2
              go_roundw
              case rel => exact ⟨j + 1, _, by omega, by go_num, G, R.1, R.2⟩
              case measure => simp [intOf]; omega
            · have he : ((((kb.toNat : Int) + j) % 2) == 0) = false := beq_eq_false_iff_ne.2 hev
              clear hev
              go_wp2_with (at_builtin; go_must (refine wpList_append_own _ rfl _ _ 34 rfl w.heap.size 5 i0 (.int .u8 0) 1 1 Try.underlying34 hi hz0 hz1 hz2 rfl (by decide) _ _ _ rfl (hown.alloc _) ⟨wr.heap.size, 0, none⟩ 1 1 [.int .u8 (s[j].toNat)] rfl rfl (cell_one_new _ _ _) (fun x hx => by simp at hx; subst hx; rfl) (by rw [hlen.out]; unfold maxLen; omega) (by rw [hlen.out]; omega) (by simp; omega) ?_; intro v' w1 hown' hgrow _))
              have R := own_step (b := s[j]) rfl hbel hown hown' hgrow
              clear hown' hgrow hown
              have G := hga.next hjl s[j] rfl
              go_wp2
              go_roundw
              case rel => exact ⟨j + 1, _, by omega, by go_num, G, R.1, R.2⟩
              case measure => simp [intOf]; omega
          · have h97' : (s[j].toNat : Int) < 97 := by omega
            clear h97
            · skip
              go_wp2_with (at_builtin; go_must (refine wpList_append_own _ rfl _ _ 34 rfl w.heap.size 5 i0 (.int .u8 0) 1 1 Try.underlying34 hi hz0 hz1 hz2 rfl (by decide) _ _ _ rfl (hown.alloc _) ⟨wr.heap.size, 0, none⟩ 1 1 [.int .u8 (s[j].toNat)] rfl rfl (cell_one_new _ _ _) (fun x hx => by simp at hx; subst hx; rfl) (by rw [hlen.out]; unfold maxLen; omega) (by rw [hlen.out]; omega) (by simp; omega) ?_; intro v' w1 hown' hgrow _))
              have R := own_step (b := s[j]) rfl hbel hown hown' hgrow
              clear hown' hgrow hown
              have G := hga.next hjl s[j] rfl
              go_wp2
              go_roundw
              case rel => exact ⟨j + 1, _, by omega, by go_num, G, R.1, R.2⟩
              case measure => simp [intOf]; omega
        · obtain rfl : j = s.size := by omega
          have HPP := Lib.hid (gathered_parse HS.out hga)
          go_wp2_with fail
          refine (parse_any _ _ hs1).mono ?_; rintro e w' ⟨rfl, rfl⟩
          have hcv := conv_own l _ _ _ hown
          go_wp2_with fail
          refine (parse_any _ _ (by show l.toArray.size ≤ _; rw [List.size_toArray, hlen.out]; omega)).mono ?_; rintro e w' ⟨rfl, rfl⟩
          rw [HPP.out]
          go_wp2_with fail
          go_ret
          exact ⟨rfl, hbel⟩

theorem noughts_walk (a0 a1 : Int) (w0 : (Lit.int .u64 a0).wf = true) (w1 : (Lit.int .u8 a1).wf = true) (w : World) :
    Calls Try.prog 5 #[.int .u64 a0, .int .u8 a1] w fun e w' => e = .returned (.bool true) ∧ Below w.heap.size w w' := by
  have b0 := bounds_u64 w0
  have b1 := bounds_u8 w1
  obtain ⟨b, rfl⟩ : ∃ b : UInt8, a1 = (b.toNat : Int) := ⟨UInt8.ofNat a1.toNat, by simp; omega⟩
  exact noughts_walk0 a0 b0.1 (by omega) b w

end Go.Proofs.Ytgedaplljnpilaa
