/- The program's clock: all its timers, in order: the walk. -/
import Derived.Test.YtcmkdeejofoibaaClkOrder
namespace Go.Proofs.Ytcmkdeejofoibaa
open Go.ChangeShapes Go.WideShapes Go.ChangeAt Go.RowKit
open Go.Sort Go.Shelf
open Ck
set_option linter.unusedVariables false
set_option maxRecDepth 100000

theorem append_tmr (w : World) (ty : TypeId) (base : Nat) (v u : Value) (xs ys : List Tm) (hown : w.ownsRow base 69 2 v xs.length (tmv xs)) (hu : TS w u ys) (hb : xs.length + ys.length ≤ 1099511627776) (hbase : base ≤ w.heap.size) :
    ∃ v' w', (Builtin.append_ #[66, 66] ty #[v, u]).run Try.prog w = .ok v' w' ∧ w'.ownsRow base 69 2 v' (xs ++ ys).length (tmv (xs ++ ys)) ∧ w.grownBy w' v.ownBlock := by
  obtain ⟨i0, hi, hz0, hz1, hz2⟩ := info_parts timer_info
  obtain ⟨v', w', r0, r1, r2⟩ := run_append_rs w 66 ty 69 i0 _ 2 16 Try.underlying66 hi hz0 hz1 hz2 rfl (by decide) base v u _ _ _ _ hown hu (tmv_one ys) (by omega) (by omega) hbase
  exact ⟨v', w', r0, by rw [List.length_append, ← tmv_app]; exact r1, r2⟩

/-- What the way through the map has gathered. -/
structure Gath (w : World) (m r n : Nat) (D : DataW Unit) (l : List Tm) (left : Lit → Bool) (cnt : Nat) (acc : List Tm) (v : Value) (W : World) : Prop where
  rg : W.ranges Try.prog 3 (plainElem Try.prog 2) m r n D left cnt
  own : W.ownsRow w.heap.size 69 2 v acc.length (tmv acc)
  nn : v ≠ .slice none 0 0
  cl : Coll l left acc
  len : acc.length + cnt ≤ l.length
  below : Below w.heap.size w W
theorem Below.of_grown {n : Nat} {w W W' : World} {row : Option Nat} (h : Below n w W) (hg : W.grownBy W' row) (hn : n ≤ W.heap.size) (hr : ∀ k, row = some k → n ≤ k) : Below n w W' := h.grown hg hn hr

set_option maxHeartbeats 4000000 in
set_option maxRecDepth 100000 in
theorem inOrder_any {R m : Nat} {x : Cs} (w : World) (h : ClkAt R m x w) (hok : Ok x) (hl : x.l.length ≤ 1000000) :
    Calls Try.prog 23 #[.pointer (some ⟨R, 0, none⟩)] w fun e w' => ∃ g c, e = .returned (.slice (some ⟨g, 0, none⟩) x.l.length c) ∧ TS w' (.slice (some ⟨g, 0, none⟩) x.l.length c) x.l ∧ w.heap.size ≤ g ∧ g < w'.heap.size ∧ Below w.heap.size w w' := by
  obtain ⟨⟨c0, c1⟩, -⟩ := two15 h.box
  obtain ⟨D, hown, hD⟩ := h.map
  have hlm := h.ltm
  have hR := h.ltR
  have hsz : Maps.size D = x.l.length := hD.size
  obtain ⟨i0, hi, hz0, hz1, hz2⟩ := info_parts timer_info
  have HH := Lib.hid (And.intro h (And.intro hok hD))
  have HSZ := Lib.hid hsz
  clear h hok hD hsz
  go_enter Try.func23, Try.ntmps23
  go_wp2_with (first
    | (at_len; refine wpList_len_own _ rfl _ 59 rfl 3 2 Try.underlying59 _ m _ D rfl hown ?_)
    | (at_make; refine wpList_make_own _ rfl _ _ 66 rfl w.heap.size 69 i0 _ 2 Try.underlying66 hi hz0 hz1 _ _ _ (Maps.size D) rfl rfl rfl (by rw [hz2, HSZ.out]; omega) (by rw [HSZ.out]; simp only [maxLen]; omega) (Nat.le_refl _) ?_; intro w1 hrow1 hg1; (have k1 : w1.cell? ⟨R, 1, none⟩ = some (.map (some m)) := (World.cell?_of_block (hg1.block R hR (by simp))).trans c1))
    | (at_range; refine wpList_range_own _ rfl _ 59 rfl 3 2 law15 Try.underlying59 _ m _ D rfl (hown.kept hg1 (by simp)) ?_; intro w0 hrg0 hg0 hs0))
  go_frame
  go_loopw [3] (fun v wr => ∃ (left : Lit → Bool) (cnt : Nat) (acc : List Tm) (p : Option Addr) (n c : Nat), v = .slice p n c ∧ Hid (Gath w m w1.heap.size x.l.length D x.l left cnt acc (.slice p n c) wr)) (fun _ wr => wr.rangeLeft m w1.heap.size)
  case atStart =>
    refine ⟨_, _, [], _, _, _, rfl, Lib.hid ⟨hrg0, hrow1.kept hg0 (Or.inr (by simp [Value.ownBlock])), by simp, Coll.start HH.out.2.2, by rw [HSZ.out]; simp, ?_⟩⟩
    exact Below.of_grown (Below.of_grown (Below.refl _ _) hg1 (Nat.le_refl _) (fun j hj => by cases hj)) hg0 hg1.size (fun j hj => by cases hj)
  case round =>
    obtain ⟨left, cnt, acc, p, nn, cc, rfl, HG⟩ := hrel
    have HZ1 := Lib.hid hg1.size
    clear hrow1 hg1 hrg0 hg0 hs0 hown c0 c1 hR
    have hrg := HG.out.rg
    go_wp2_with (at_next; refine wpList_next_ranges_ii _ rfl _ rfl 3 2 .i64 .i64 law15 Try.underlying3 Try.underlying2 m w1.heap.size _ _ _ _ rfl hrg ?_ ?_)
    · intro hc0 hl0
      rcases HG.out.own.2 with ⟨hnil, _⟩ | ⟨g, cap, cur, hv, hbase, hb, h1, h2, h3, h4⟩
      · exact absurd hnil HG.out.nn
      cases hv
      have hp := HG.out.cl.done HH.out.2.1.ids hl0
      have hlen := hp.length_eq
      have hgl : g < wr.heap.size := (Array.getElem?_eq_some_iff.1 hb).1
      have hH := holds15 hb h4
      have HC := Lib.hid (sort15_any g cc acc wr hH hgl (by omega))
      rw [sorted_is HH.out.2.1.ord hp] at HC
      have HF := Lib.hid (And.intro hH (And.intro hgl (And.intro hlen (And.intro h1 (And.intro h2 hbase)))))
      clear hc0 hl0 hp hb h1 h2 h3 h4 hH hgl hbase hrg
      rw [hlen] at HC
      rw [hlen]
      clear hlen
      go_wp2_with fail
      refine HC.out.mono ?_
      rintro e w5 ⟨rfl, n, os, rfl⟩
      go_wp2_with fail
      go_ret
      obtain ⟨f1, f2, f3, f4, f5, f6⟩ := HF.out
      refine ⟨g, cc, rfl, sorted_ts f1 f2 (by simp [f3]) (by rw [← f3]; exact f4) f5, f6, Nat.lt_of_lt_of_le f2 (sorted_grown _).size, ?_⟩
      exact Below.of_grown HG.out.below (sorted_grown _) HG.out.below.size (fun k hk => by cases hk; exact f6)
    · intro i d w2 cnt2 hwi hwd hlk hat hrg2 hlt hg2 hs2 hen
      have hrow2 := HG.out.own.kept hg2 (Or.inr (row_ne_iter HG.out.own hrg).symm)
      obtain ⟨wa, hwa⟩ : ∃ wa, w2.alloc (obC ⟨i, d⟩) = wa := ⟨_, rfl⟩
      have ba : Below w2.heap.size w2 wa := by rw [← hwa]; exact below_box _ _
      have hga : w2.grownBy wa none := by rw [← hwa]; exact World.grownBy_alloc _ _ _
      have hrowa : wa.ownsRow w.heap.size 69 2 (.slice p nn cc) acc.length (tmv acc) := by rw [← hwa]; exact hrow2.alloc _
      have hta : TS wa (.slice (some ⟨w2.heap.size, 0, none⟩) 1 1) [⟨i, d⟩] := by rw [← hwa]; exact ts_one w2 ⟨i, d⟩ 69
      have hrga : wa.ranges Try.prog 3 (plainElem Try.prog 2) m w1.heap.size x.l.length D (fun z => left z && !z.sameKey (.int .i64 i)) cnt2 := by rw [← hwa]; exact hrg2.alloc _
      have hz0 := HG.out.below.size
      have hz2 := hg2.size
      have hza := ba.size
      have hcl := HG.out.len
      obtain ⟨v', w3, hrun, hown3, hg3⟩ := append_tmr wa 66 w.heap.size (.slice p nn cc) _ acc [⟨i, d⟩] hrowa hta (by simp; omega) (by omega)
      obtain ⟨p', n', c', rfl⟩ := own_slice hown3
      have hrg3 := hrga.kept hg3 (row_ne_low hrowa hlm) (row_ne_iter hrowa hrga)
      have b2 := Below.of_grown HG.out.below hg2 HG.out.below.size (fun k hk => by cases hk; exact HZ1.out)
      have b3 := Below.of_grown (Below.of_grown b2 hga (by omega) (fun k hk => by cases hk)) hg3 (by omega) (fun k hk => (hrowa.lt k hk).1)
      have HN := Lib.hid (show Gath w m w1.heap.size x.l.length D x.l _ cnt2 (acc ++ [⟨i, d⟩]) (.slice p' n' c') w3 from ⟨hrg3, hown3, fun hv => by rcases hown3.2 with ⟨_, h0⟩ | ⟨g, cap, cur, hv2, _⟩; (simp at h0); (rw [hv2] at hv; cases hv), HG.out.cl.step HH.out.2.2 HH.out.2.1.ids hlk hat, by simp; omega, b3⟩)
      have HR := Lib.hid hrun
      have HM := Lib.hid (And.intro hrg3.left_eq (And.intro hrg.left_eq hlt))
      subst hwa
      clear hs2 hrun hown3 hg3 hrg3 b2 b3 hrga hta hrowa hga ba hrow2 hg2 hrg2 hlt hat hlk hwi hwd hz0 hz2 hza hcl hrg
      go_wp2_with (at_builtin; refine wpList_append_run rfl (.tmp 22) (.tmp 26) 66 rfl (.slice p nn cc) (.slice (some ⟨w2.heap.size, 0, none⟩) 1 1) (.slice p' n' c') w3 rfl rfl HR.out ?_; go_frame)
      go_roundw
      case rel => exact ⟨_, cnt2, _, _, _, _, rfl, HN⟩
      case measure => rw [HM.out.1, HM.out.2.1]; exact HM.out.2.2

end Go.Proofs.Ytcmkdeejofoibaa
