/- What NewSource answers. -/
import Derived.Test.YtnmjdpmfmbgoeaaRRRWireRead
import Derived.Deep.RegionHeld3
namespace Go.Proofs.YtnmjdpmfmbgoeaaRRR
open Go.ChangeShapes Go.WideShapes Go.ChangeAt Go.RowKit
open Wr
set_option linter.unusedVariables false
set_option maxRecDepth 100000

theorem chunk_info : (Try.prog.info? 34).map (fun i => (i.zero, i.size, i.bytes)) = some (some (.slice none 0 0), 1, 24) := by kernel_rfl
/-- Copies of pieces that a call gathers in a row of its own, all in blocks from b0 on. -/
structure Rows16 (b0 : Nat) (L : List (List UInt8)) (us : List Value) (v : Value) (W : World) : Prop where
  row : W.ownsRow b0 34 1 v us.length us
  len : us.length = L.length
  rd : ∀ (i : Nat) (u : Value) (x : List UInt8), us[i]? = some u → L[i]? = some x → RD W u x
  own : ∀ u ∈ us, ∀ g, u.ownBlock = some g → b0 ≤ g ∧ g < W.heap.size ∧ v.ownBlock ≠ some g
theorem Rows16.nil (b0 : Nat) (W : World) : Rows16 b0 [] [] (.slice none 0 0) W := ⟨World.ownsRow_nil _ _ _ _, rfl, fun i u x hu => by simp at hu, fun u hu => by simp at hu⟩
theorem Rows16.keep {b0 : Nat} {L : List (List UInt8)} {us : List Value} {v : Value} {W W' : World} (h : Rows16 b0 L us v W) (hs : W.heap.size ≤ W'.heap.size) (hk : ∀ g, b0 ≤ g → g < W.heap.size → W'.heap[g]? = W.heap[g]?) : Rows16 b0 L us v W' := by
  refine ⟨own_same h.row fun k hk' => hk k (h.row.lt k hk').1 (h.row.lt k hk').2, h.len, fun i u x hu hx => (h.rd i u x hu hx).same fun k hk' hlt => hk k (h.own u (List.mem_of_getElem? hu) k hk').1 hlt, fun u hu g hg => ?_⟩
  obtain ⟨h1, h2, h3⟩ := h.own u hu g hg
  exact ⟨h1, by omega, h3⟩
theorem Rows16.next {b0 : Nat} {L : List (List UInt8)} {us : List Value} {v : Value} {W w5 : World} {p : Option Addr} {n c : Nat} {x : List UInt8} (h : Rows16 b0 L us v W) (hb : b0 ≤ W.heap.size) (hu : Own10 W w5 (.slice p n c) x) (hl : L.length ≤ 1000000) (ty : TypeId) :
    ∃ p' m' c' w7, (Builtin.append_ #[22, 22] ty #[v, .slice (some ⟨w5.heap.size, 0, none⟩) 1 1]).run Try.prog (w5.alloc (.cells #[.slice p n c] 34)) = .ok (.slice p' m' c') w7 ∧
      Rows16 b0 (L ++ [x]) (us ++ [.slice p n c]) (.slice p' m' c') w7 ∧ Below b0 W w7 ∧ m' = L.length + 1 := by
  obtain ⟨i0, hi, hz0, hz1, hz2⟩ := info_parts chunk_info
  have b5 : Below W.heap.size W (w5.alloc (.cells #[.slice p n c] 34)) := ahead hu.below (below_box _ _)
  have h6 : Rows16 b0 L us v (w5.alloc (.cells #[.slice p n c] 34)) := h.keep b5.size fun g _ hg => b5.block g hg
  have hone : RS (w5.alloc (.cells #[.slice p n c] 34)) 1 (.slice (some ⟨w5.heap.size, 0, none⟩) 1 1) 1 [.slice p n c] := by
    have hn := heap_alloc_new w5 (.cells #[.slice p n c] 34 (0, 0))
    refine ⟨rfl, some ⟨w5.heap.size, 0, none⟩, 1, rfl, Nat.le_refl _, by decide, (fun h => by cases h), fun ad hp i u hu => ?_⟩
    cases hp
    match i, hu with
    | 0, hu => simp only [List.getElem?_cons_zero, Option.some.injEq] at hu; subst hu; rw [Addr.add_zero']; exact (one_cell hn).1
    | i + 1, hu => simp at hu
  have hul : us.length = L.length := h.len
  obtain ⟨v', w7, r0, r1, r2, r3⟩ := append_own9 (w5.alloc (.cells #[.slice p n c] 34)) 22 ty 34 i0 _ 1 24 Try.underlying22 hi hz0 hz1 hz2 rfl (by decide) b0 v _ us.length 1 us [.slice p n c] h6.row hone (fun u hu => by simp at hu; subst hu; rfl) (by omega) (by omega) (by have := b5.size; omega)
  have hvlt : ∀ g, v.ownBlock = some g → b0 ≤ g ∧ g < W.heap.size := fun g hg => h.row.lt g hg
  have b7 : Below b0 W w7 := (b5.mono hb).grown r2 (by have := b5.size; omega) (fun k hk => (hvlt k hk).1)
  obtain ⟨p', m', c', rfl⟩ := own_slice r1
  have hm : m' = us.length + 1 := by
    have h1 := RS.of_own r1
    obtain ⟨_, _, _, e, _⟩ := h1
    cases e
    rfl
  refine ⟨p', m', c', w7, r0, ⟨by rw [List.length_append]; exact r1, by simp [hul], fun i u y hi' hy => ?_, fun u hu' g hg => ?_⟩, b7, by omega⟩
  · have hsame : ∀ k, (∀ g, u.ownBlock = some g → v.ownBlock ≠ some g) → u.ownBlock = some k → k < (w5.alloc (.cells #[.slice p n c] 34)).heap.size → w7.heap[k]? = (w5.alloc (.cells #[.slice p n c] 34)).heap[k]? := fun k hne hk hlt => r2.block k hlt (fun e => hne k hk e.symm)
    by_cases hlt : i < us.length
    · rw [List.getElem?_append_left hlt] at hi'
      rw [List.getElem?_append_left (by omega)] at hy
      exact (h6.rd i u y hi' hy).same fun k hk hkl => hsame k (fun g hg => (h.own u (List.mem_of_getElem? hi') g hg).2.2) hk hkl
    · rw [List.getElem?_append_right (by omega)] at hi' hy
      have h0 : i - us.length = 0 := by have := (List.getElem?_eq_some_iff.1 hi').1; simp at this; omega
      rw [h0] at hi'
      rw [show i - L.length = 0 by omega] at hy
      simp at hi' hy
      subst hi' hy
      refine (hu.rd.below (below_box _ _)).same fun k hk hkl => hsame k (fun g hg e => ?_) hk hkl
      have := (hu.own g hg).1
      have := (hvlt g e).2
      omega
  · rcases List.mem_append.1 hu' with hu' | hu'
    · obtain ⟨h1, h2, h3⟩ := h.own u hu' g hg
      refine ⟨h1, by have := r2.size; have := b5.size; omega, fun e => ?_⟩
      rcases r3 g e with e' | e'
      · exact h3 e'
      · have := b5.size; omega
    · simp at hu'
      subst hu'
      have h1 := hu.own g hg
      refine ⟨by omega, by have := r2.size; simp at this; omega, fun e => ?_⟩
      rcases r3 g e with e' | e'
      · have := (hvlt g e').2; omega
      · simp at e'; omega
/-- All of them together. -/
theorem Rows16.cs {b0 : Nat} {L : List (List UInt8)} {us : List Value} {p : Option Addr} {m c : Nat} {W : World} (h : Rows16 b0 L us (.slice p m c) W) (hm : m = L.length) : CSK (fun g => b0 ≤ g ∧ g < W.heap.size) W (.slice p m c) L := by
  have hr := RS.of_own h.row
  rw [h.len] at hr
  subst hm
  refine ⟨⟨us, hr, h.len, h.rd⟩, fun _ g hg => h.row.lt g hg, fun i u x p' n c' ad e hp hc hx hne g hg => ?_⟩
  cases e
  obtain ⟨_, p'', c'', e, _, _, _, q4⟩ := hr
  cases e
  have hi : i < us.length := by rw [h.len]; exact (List.getElem?_eq_some_iff.1 hx).1
  have hu := q4 ad hp i _ (List.getElem?_eq_getElem hi)
  rw [hc] at hu
  cases hu
  obtain ⟨h1, h2, _⟩ := h.own _ (List.getElem_mem hi) g hg
  exact ⟨h1, h2⟩

theorem new16_bad {p : Option Addr} {n c : Nat} (e : Int) (w : World) (he : ¬ (0 ≤ e ∧ e ≤ 2)) :
    Calls Try.prog 7 #[.agg #[.slice p n c, .int .i64 e]] w fun x w' => x = .returned (.tuple #[.pointer none, .int .i64 1]) ∧ Below w.heap.size w w' := by
  obtain ⟨w1, hw1⟩ : ∃ w1, w.alloc (.cells #[.slice p n c, .int .i64 e] 31) = w1 := ⟨_, rfl⟩
  obtain ⟨c0, c1, c2⟩ := two_cells (box_cells w (.slice p n c) (.int .i64 e) 31)
  have HB := Lib.hid (below_box w (.cells #[.slice p n c, .int .i64 e] 31))
  rw [hw1] at c0 c1 c2 HB
  have HI := Lib.hid (isEnd_any e w1)
  rw [decide_eq_false he] at HI
  have HW := Lib.hid hw1
  clear he
  go_enter Try.func7, Try.ntmps7
  go_wp2_with fail
  refine HI.out.mono ?_
  rintro e' w' ⟨rfl, rfl⟩
  go_wp2_with fail
  go_ret2
  exact ⟨rfl, HB.out⟩

/-- Between two rounds of NewSource. -/
structure New16 (w : World) (R : Nat) (L : List (List UInt8)) (e : Int) (us : List Value) (p : Option Addr) (m c : Nat) (W : World) : Prop where
  blk : W.heap[R]? = some (.cells #[.slice p m c, .int .i64 0, .int .i64 e, .int .i64 0, .bool false] 47 (0, 0))
  rows : Rows16 (R + 1) L us (.slice p m c) W
  len : m = L.length
  rlow : w.heap.size ≤ R
  below : Below w.heap.size w W
theorem New16.lt {w : World} {R : Nat} {L : List (List UInt8)} {e : Int} {us : List Value} {p : Option Addr} {m c : Nat} {W : World} (h : New16 w R L e us p m c W) : R < W.heap.size := (Array.getElem?_eq_some_iff.1 h.blk).1

set_option maxHeartbeats 8000000 in
theorem new16_any {p : Option Addr} {c : Nat} {L : List (List UInt8)} (e : Int) (w : World) (he : 0 ≤ e ∧ e ≤ 2) (hL : CS w (.slice p L.length c) L) (hl : L.length ≤ 100000) (hx : ∀ x ∈ L, x.length ≤ 100000) :
    Calls Try.prog 7 #[.agg #[.slice p L.length c, .int .i64 e]] w fun x w' => ∃ R M, x = .returned (.tuple #[.pointer (some ⟨R, 0, none⟩), .int .i64 0]) ∧ SrcAt R ⟨L, false, e, 0, false⟩ M w' ∧ Below w.heap.size w w' ∧ ∀ g, M g → w.heap.size ≤ g := by
  obtain ⟨w1, hw1⟩ : ∃ w1, w.alloc (.cells #[.slice p L.length c, .int .i64 e] 31) = w1 := ⟨_, rfl⟩
  have hc := box_cells w (.slice p L.length c) (.int .i64 e) 31
  obtain ⟨c0, c1, c2⟩ := two_cells hc
  have HB := Lib.hid (below_box w (.cells #[.slice p L.length c, .int .i64 e] 31))
  have HZ := Lib.hid (show (w.alloc (.cells #[.slice p L.length c, .int .i64 e] 31)).heap.size = w.heap.size + 1 by simp)
  rw [hw1] at c0 c1 c2 HB HZ hc
  have HC1 := Lib.hid hc
  have HI := Lib.hid (isEnd_any e w1)
  rw [decide_eq_true he] at HI
  have HL := Lib.hid hL
  have HX := Lib.hid hx
  have HN := Lib.hid hl
  have HW := Lib.hid hw1
  clear he hL hx hl hc hw1
  go_enter Try.func7, Try.ntmps7
  go_upto_region 1 with (fail)
  rw [show w.alloc (.cells #[.slice p L.length c, .int .i64 e] 31) = w1 from HW.out]
  clear HW
  go_wp2_with fail
  refine HI.out.mono ?_
  rintro e' w' ⟨rfl, rfl⟩
  clear HI
  go_upto_region 4 with (fail)
  have bb := below_box w1 (.cells #[.slice none 0 0, .int .i64 0, .int .i64 e, .int .i64 0, .bool false] 47)
  have hn1 := heap_alloc_new w1 (.cells #[.slice none 0 0, .int .i64 0, .int .i64 e, .int .i64 0, .bool false] 47 (0, 0))
  have HS := Lib.hid (show New16 w w1.heap.size [] e [] none 0 0 (w1.alloc (.cells #[.slice none 0 0, .int .i64 0, .int .i64 e, .int .i64 0, .bool false] 47)) from
    ⟨hn1, Rows16.nil _ _, rfl, HB.out.size, ahead HB.out bb⟩)
  have HC2 := (bb.block w.heap.size (by rw [HZ.out]; omega)).trans HC1.out
  clear c0 c1 c2 bb hn1
  generalize w1.alloc (.cells #[.slice none 0 0, .int .i64 0, .int .i64 e, .int .i64 0, .bool false] 47) = w2 at HS HC2 ⊢
  obtain ⟨c0, c1, c2⟩ := two_cells HC2
  clear HC2 HC1
  clear HB HZ
  generalize w1.heap.size = R at *
  go_wp2_with fail
  go_loopw [18] (fun iv wr => ∃ (j : Nat) (us : List Value) (q : Option Addr) (m d : Nat), j ≤ L.length ∧ iv = .int .i64 (j : Int) ∧ Hid (New16 w R (L.take j) e us q m d wr)) (fun iv _ => L.length - (intOf iv).toNat)
  case atStart => exact ⟨0, [], none, 0, 0, Nat.zero_le _, rfl, HS⟩
  case round =>
    clear HS c0 c1 c2
    obtain ⟨j, us, q, m, d, hj, rfl, HI⟩ := hrel
    by_cases hlt : j < L.length
    · obtain ⟨x, hx⟩ : ∃ x, L[j]? = some x := ⟨_, List.getElem?_eq_getElem hlt⟩
      have hcs := HL.out.below HI.out.below
      obtain ⟨-, ad, pu, cu, rfl, cx, hrx⟩ := hcs.at hx
      have k1 : (0 : Int) ≤ (j : Int) := by omega
      have k2 : (j : Int) < (L.length : Int) := by omega
      have hxl : x.length ≤ 100000 := HX.out x (List.mem_of_getElem? hx)
      have HCL := Lib.hid (clone10_any x pu cu wr.drew (hrx.below (drew_below8 wr)) hxl)
      have hblk := HI.out.blk
      have hbd : wr.drew.heap[R]? = some (.cells #[.slice q m d, .int .i64 0, .int .i64 e, .int .i64 0, .bool false] 47 (0, 0)) := hblk
      have KS : Hid (∀ W : World, Still16 R wr.drew W → W.cell? ⟨R, 0, none⟩ = some (.slice q m d) ∧ W.frozen? ⟨R, 0, none⟩ = false) := Lib.hid fun W hW => by
        obtain ⟨⟨g0, -⟩, gf⟩ := five16 (Eq.trans hW hbd)
        exact ⟨g0, gf 0⟩
      have KF : Hid (∀ (W : World) (v : Value), Still16 R wr.drew W → (W.setCell ⟨R, 0, none⟩ v).frozen? ⟨R, 0, none⟩ = false) := Lib.hid fun W v hW => (five16 (heap_set (i := 0) v (Eq.trans hW hbd))).2 0
      have BA : Hid (Still16 R wr.drew wr.drew) := Lib.hid (show wr.drew.heap[R]? = wr.drew.heap[R]? from rfl)
      have HNX : Hid (∀ w5 p5 c5, Own10 wr.drew w5 (.slice p5 x.length c5) x → (Still16 R wr.drew w5 ∧ R < w5.heap.size) ∧ ∃ p' m' c' w7, (Builtin.append_ #[22, 22] 22 #[.slice q m d, .slice (some ⟨w5.heap.size, 0, none⟩) 1 1]).run Try.prog (w5.alloc (.cells #[.slice p5 x.length c5] 34)) = .ok (.slice p' m' c') w7 ∧
          Still16 R wr.drew w7 ∧ New16 w R (L.take (j + 1)) e (us ++ [.slice p5 x.length c5]) p' m' c' (w7.setCell ⟨R, 0, none⟩ (.slice p' m' c'))) := Lib.hid fun w5 p5 c5 ho => by
        have hlt' := HI.out.lt
        have hrows : Rows16 (R + 1) (L.take j) us (.slice q m d) wr.drew := HI.out.rows.keep (Nat.le_refl _) fun g _ _ => rfl
        obtain ⟨p', m', c', w7, r0, r1, r2, r3⟩ := hrows.next (by show R + 1 ≤ wr.heap.size; omega) ho (by have := HN.out; rw [List.length_take]; omega) 22
        have hk7 : w7.heap[R]? = wr.drew.heap[R]? := r2.block R (by omega)
        have e1 : L.take (j + 1) = L.take j ++ [x] := by rw [List.take_add_one, hx]; rfl
        refine ⟨⟨ho.below.block R hlt', by have := ho.below.size; simp at this; omega⟩, p', m', c', w7, r0, hk7, ?_⟩
        rw [e1]
        refine ⟨heap_set (i := 0) (.slice p' m' c') (hk7.trans hbd), r1.keep (by rw [set_size]; exact Nat.le_refl _) fun g hg _ => Below.heap_setCell _ _ _ _ (show g ≠ R by omega), by rw [List.length_append]; exact r3, HI.out.rlow, ?_⟩
        have b1 : Below w.heap.size w wr.drew := HI.out.below.drew
        have hrl := HI.out.rlow
        have b7 : Below w.heap.size w w7 := b1.trans (r2.mono (by omega))
        exact b7.setCell hrl _
      obtain ⟨g0, gf0⟩ := KS.out _ BA.out
      clear hcs hrx hblk hbd HI hx
      obtain ⟨xl, hxl'⟩ : ∃ xl, x.length = xl := ⟨_, rfl⟩
      rw [hxl'] at HCL cx hxl
      clear hxl'
      go_wp2_with fail
      go_region_law
        (first
        | (refine step_append_run rfl (.tmp 26) (.tmp 29) 22 rfl (.slice q m d) (.slice (some ⟨w5.heap.size, 0, none⟩) 1 1) (.slice p7 m7 c7) w7 (by simp [Act.eval]) (by simp [Act.eval]) HR7.out ?_; replace BA := Lib.hid HK7.out)
        | (go_simp; go_at_call 14; refine HCL.out.mono ?_; rintro e5 w5 ⟨v5, rfl, ho5⟩; obtain ⟨p5, c5, rfl⟩ := ho5.slice; obtain ⟨hk5, p7, m7, c7, w7, hr7, hk7, hn7⟩ := HNX.out w5 p5 c5 ho5; have HR7 := Lib.hid hr7; have HK7 := Lib.hid hk7; have HN7 := Lib.hid hn7; have HLT := Lib.hid hk5.2; replace BA := Lib.hid hk5.1; have g5 := (KS.out _ hk5.1).1; have g6 := (KS.out _ (hk5.1.alloc hk5.2 (.cells #[.slice p5 x.length c5] 34))).1; have g7 := (KS.out _ hk7).1; have g8 := (KS.out _ hk7).2; clear ho5 hr7 hk7 hn7 hk5))
      all_goals
        clear g0 gf0 g5 g6 g7 g8 KS KF HNX HCL BA HLT HK7 HR7 cx
        have hbnd : L.length ≤ 100000 := HN.out
        go_wp2_with fail
        go_roundw
        case rel => exact ⟨j + 1, us ++ [.slice p5 x.length c5], p7, m7, c7, by omega, by go_num, HN7⟩
        case measure => simp [intOf]; omega
    · have hjl : j = L.length := by omega
      have HQ := Lib.hid (show SrcAt R ⟨L, false, e, 0, false⟩ (fun g => g = R ∨ (R + 1 ≤ g ∧ g < wr.heap.size)) wr from by
        have h := HI.out
        have hlt' := h.lt
        rw [hjl, List.take_length] at h
        have hm := h.len
        subst hm
        refine ⟨L, 0, q, d, ⟨h.blk, (h.rows.cs rfl).mono fun g hg => ⟨.inr hg, by omega⟩, .inl rfl, fun g hg => ?_, by cases L <;> simp [Fits]⟩, (vw_zero L).symm, by simp⟩
        rcases hg with rfl | hg
        · exact hlt'
        · exact hg.2)
      have HQ2 := Lib.hid (And.intro HI.out.below HI.out.rlow)
      have k2 : ¬ (j : Int) < (L.length : Int) := by omega
      clear HI hjl hlt
      go_wp2_with fail
      go_ret2
      exact ⟨R, rfl, _, HQ.out, HQ2.out.1, fun g hg => by
        have := HQ2.out.2
        rcases hg with rfl | hg <;> omega⟩

end Go.Proofs.YtnmjdpmfmbgoeaaRRR
