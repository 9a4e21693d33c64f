/- The program's clock in memory; New, Now, Set, Clear, Left. -/
import Derived.Test.YtcmkdeejofoibaaClkForms
import Derived.Deep.RegionLaw
namespace Go.Proofs.Ytcmkdeejofoibaa
open Go.ChangeShapes Go.WideShapes Go.ChangeAt Go.RowKit
open Ck
set_option linter.unusedVariables false
set_option maxRecDepth 100000

theorem law15 : Maps.Keyed Try.prog 3 := Maps.int_keyed Try.underlying3
theorem zero15 (w : World) : (zeroValue 2).run Try.prog w = .ok (.int .i64 0) w := by kernel_rfl
theorem wf_id {id : Int} (h0 : -9223372036854775808 ≤ id) (h1 : id ≤ 9223372036854775807) : (Lit.int .i64 id).wf = true := WalkArith.wf_i64 (by omega)
theorem own_tight {w : World} {b n : Nat} {D : DataW Unit} (h : w.ownsMap Try.prog 3 (plainElem Try.prog 2) b n D) : w.ownsMap Try.prog 3 (plainElem Try.prog 2) b (Maps.size D) D := by
  obtain ⟨es, clock, hb, F, hs, rfl⟩ := h
  refine ⟨es, clock, hb, F, ?_, rfl⟩
  rw [Maps.size_eq, length_sorted]
  simp

/-- The clock at R, its map at m, stands as x. -/
structure ClkAt (R m : Nat) (x : Cs) (W : World) : Prop where
  box : W.heap[R]? = some (.cells #[.int .i64 x.now, .map (some m)] 61 (0, 0))
  ne : R ≠ m
  map : ∃ D, W.ownsMap Try.prog 3 (plainElem Try.prog 2) m x.l.length D ∧ MapIs D x.l
theorem ClkAt.ltm {R m : Nat} {x : Cs} {W : World} (h : ClkAt R m x W) : m < W.heap.size := by
  obtain ⟨D, ⟨es, clock, hb, _⟩, _⟩ := h.map
  exact (Array.getElem?_eq_some_iff.1 hb).1
theorem ClkAt.ltR {R m : Nat} {x : Cs} {W : World} (h : ClkAt R m x W) : R < W.heap.size := (Array.getElem?_eq_some_iff.1 h.box).1
theorem ClkAt.keep {R m : Nat} {x : Cs} {W W' : World} (h : ClkAt R m x W) (h1 : W'.heap[R]? = W.heap[R]?) (h2 : W'.heap[m]? = W.heap[m]?) : ClkAt R m x W' := by
  obtain ⟨D, ⟨es, clock, hb, r⟩, hD⟩ := h.map
  exact ⟨h1.trans h.box, h.ne, D, ⟨es, clock, h2.trans hb, r⟩, hD⟩
theorem ClkAt.below {R m : Nat} {x : Cs} {W W' : World} (h : ClkAt R m x W) (hb : Below W.heap.size W W') : ClkAt R m x W' := h.keep (hb.block _ h.ltR) (hb.block _ h.ltm)
/-- .. as its callers see it. -/
def C15 (R : Nat) (x : Cs) (M : Nat → Prop) (W : World) : Prop := ∃ m, M = (fun g => g = R ∨ g = m) ∧ ClkAt R m x W
/-- Its map has turned. -/
theorem ClkAt.turn {R m : Nat} {x : Cs} {W W' : World} (h : ClkAt R m x W) (hg : W.grownBy W' (some m)) {n : Nat} {D : DataW Unit} {l : List Tm} (ho : W'.ownsMap Try.prog 3 (plainElem Try.prog 2) m n D) (hD : MapIs D l) : ClkAt R m ⟨x.now, l⟩ W' :=
  ⟨(hg.block R h.ltR (by simpa using h.ne)).trans h.box, h.ne, D, by have := own_tight ho; rw [hD.size] at this; exact this, hD⟩
theorem mv_turn {R m : Nat} {W W' : World} (hg : W.grownBy W' (some m)) : Mv15 (fun g => g = R ∨ g = m) (fun g => g = R ∨ g = m) W W' :=
  ⟨hg.os, hg.tape, hg.output, hg.size, fun k hk hm => hg.block k hk (fun e => hm (.inr (Option.some.inj e))), fun k hk => .inl hk⟩

theorem new15_any (w : World) : Calls Try.prog 8 #[] w fun e w' => ∃ R M, e = .returned (.pointer (some ⟨R, 0, none⟩)) ∧ C15 R ⟨0, []⟩ M w' ∧ Below w.heap.size w w' ∧ ∀ g, M g → w.heap.size ≤ g := by
  have hmm := @run_makeMap Try.prog
  go_enter Try.func8, Try.ntmps8
  go_wp2_with fail
  go_ret
  have b1 := below_box w (.map #[] 0)
  have b2 := below_box (w.alloc (.map #[] 0)) (.cells #[.int .i64 0, .map (some w.heap.size)] 61)
  have hn := heap_alloc_new (w.alloc (.map #[] 0)) (.cells #[.int .i64 0, .map (some w.heap.size)] 61 (0, 0))
  have z1 : (w.alloc (.map #[] 0)).heap.size = w.heap.size + 1 := by simp
  rw [z1] at hn
  refine ⟨w.heap.size + 1, _, rfl, ⟨w.heap.size, rfl, hn, by omega, .map [], (World.ownsMap_made w _ _ _).alloc _, MapIs.nil⟩, ahead b1 b2, fun g hg => by rcases hg with rfl | rfl <;> omega⟩

theorem now15_any {R : Nat} {x : Cs} {M : Nat → Prop} (w : World) (h : C15 R x M w) : Calls Try.prog 18 #[.pointer (some ⟨R, 0, none⟩)] w fun e w' => e = .returned (.int .i64 x.now) ∧ w = w' := by
  obtain ⟨m, -, h⟩ := h
  obtain ⟨⟨c0, c1⟩, -⟩ := two15 h.box
  go_enter Try.func18, Try.ntmps18
  go_wp2_with fail
  go_ret
  exact ⟨rfl, rfl⟩

set_option maxHeartbeats 2000000 in
theorem left15_any {R : Nat} {x : Cs} {M : Nat → Prop} (id : Int) (w : World) (h0 : -9223372036854775808 ≤ id) (h1 : id ≤ 9223372036854775807) (h : C15 R x M w) (hf : Fit x) :
    Calls Try.prog 16 #[.pointer (some ⟨R, 0, none⟩), .int .i64 id] w fun e w' => e = .returned (.tuple #[.int .i64 (leftC x id).1, .bool (leftC x id).2]) ∧ Below w.heap.size w w' := by
  obtain ⟨m, -, h⟩ := h
  obtain ⟨⟨c0, c1⟩, -⟩ := two15 h.box
  obtain ⟨D, hown, hD⟩ := h.map
  have HF := Lib.hid hf
  have hkey := Maps.keyOf_int_mk Try.underlying3 (wf_id h0 h1)
  have hhas := hD.has id
  have HD := Lib.hid hD
  clear hf hD h h0 h1
  cases hh : Ck.has x.l id with
  | true =>
    rw [hh] at hhas
    have HH := Lib.hid hh
    clear hh
    go_enter Try.func16, Try.ntmps16
    go_wp2_with (at_lookup; refine wpList_lookup_own_ok_int _ rfl _ _ 59 rfl 3 2 .i64 law15 Try.underlying59 Try.underlying2 (zero15 _) m _ D rfl hown _ _ rfl hkey ?_; intro c hat hwc; (have ⟨hlf, t, ht, htd⟩ := HD.out.left HF.out.ok.ids (now := x.now) HH.out hat); (have ⟨hd0, hd1⟩ := HF.out.due t ht); (have hn0 := HF.out.now0); (have hn1 := HF.out.now1); (have hw : IntKind.i64.wrap (c - x.now) = c - x.now := IntWalk.i64_in _ (by omega)); (have HLF := Lib.hid hlf); clear hlf ht hat)
    go_ret2
    exact ⟨by unfold leftC; rw [HLF.out]; rfl, Below.refl _ _⟩
  | false =>
    rw [hh] at hhas
    have HM := Lib.hid (left_miss (now := x.now) hh)
    clear hh
    go_enter Try.func16, Try.ntmps16
    go_wp2_with (at_lookup; refine wpList_lookup_own_ok_int _ rfl _ _ 59 rfl 3 2 .i64 law15 Try.underlying59 Try.underlying2 (zero15 _) m _ D rfl hown _ _ rfl hkey ?_; intro c hat hwc; clear hat)
    go_ret2
    exact ⟨by unfold leftC; rw [HM.out]; rfl, Below.refl _ _⟩

set_option maxHeartbeats 2000000 in
theorem clear15_any {R : Nat} {x : Cs} {M : Nat → Prop} (id : Int) (w : World) (h0 : -9223372036854775808 ≤ id) (h1 : id ≤ 9223372036854775807) (h : C15 R x M w) (hf : Fit x) :
    Calls Try.prog 11 #[.pointer (some ⟨R, 0, none⟩), .int .i64 id] w fun e w' => e = .returned (.int .i64 (clearE x id)) ∧ ∃ N, C15 R (clearC x id) N w' ∧ Mv15 M N w w' := by
  obtain ⟨m, rfl, h⟩ := h
  obtain ⟨⟨c0, c1⟩, -⟩ := two15 h.box
  obtain ⟨D, hown, hD⟩ := h.map
  have hkey := Maps.keyOf_int_mk Try.underlying3 (wf_id h0 h1)
  have hhas := hD.has id
  have HD := Lib.hid (And.intro hD h)
  clear hf hD h h0 h1
  unfold clearC clearE
  cases hh : Ck.has x.l id with
  | true =>
    rw [hh] at hhas
    rw [if_pos rfl, if_pos rfl]
    clear hh
    go_enter Try.func11, Try.ntmps11
    go_wp2_with (first | (at_lookup; refine wpList_lookup_own_ok_int _ rfl _ _ 59 rfl 3 2 .i64 law15 Try.underlying59 Try.underlying2 (zero15 _) m _ D rfl hown _ _ rfl hkey ?_; intro c hat hwc; clear hat) | (at_delete; refine wpList_delete_own _ rfl _ _ 59 3 rfl 2 law15 Try.underlying59 _ m _ D rfl hown _ _ rfl hkey ?_; intro w1 hown1 hturn1))
    go_ret
    exact ⟨rfl, _, ⟨m, rfl, HD.out.2.turn hturn1.grown hown1 (HD.out.1.del id)⟩, mv_turn hturn1.grown⟩
  | false =>
    rw [hh] at hhas
    rw [if_neg (by decide), if_neg (by decide)]
    clear hh
    go_enter Try.func11, Try.ntmps11
    go_wp2_with (at_lookup; refine wpList_lookup_own_ok_int _ rfl _ _ 59 rfl 3 2 .i64 law15 Try.underlying59 Try.underlying2 (zero15 _) m _ D rfl hown _ _ rfl hkey ?_; intro c hat hwc; clear hat)
    go_ret
    exact ⟨rfl, _, ⟨m, rfl, HD.out.2⟩, Mv15.of_below (Below.refl _ _)⟩

set_option maxHeartbeats 4000000 in
theorem set15_any {R : Nat} {x : Cs} {M : Nat → Prop} (id n : Int) (w : World) (h0 : -9223372036854775808 ≤ id) (h1 : id ≤ 9223372036854775807) (h : C15 R x M w) (hf : Fit x) :
    Calls Try.prog 9 #[.pointer (some ⟨R, 0, none⟩), .int .i64 id, .int .i64 n] w fun e w' => e = .returned (.int .i64 (setE n)) ∧ ∃ N, C15 R (setC x id n) N w' ∧ Mv15 M N w w' := by
  obtain ⟨m, rfl, h⟩ := h
  obtain ⟨⟨c0, c1⟩, -⟩ := two15 h.box
  obtain ⟨D, hown, hD⟩ := h.map
  have hkey := Maps.keyOf_int_mk Try.underlying3 (wf_id h0 h1)
  unfold setE setC
  cases hb : badN n 1 with
  | true =>
    rw [if_pos rfl, if_pos rfl]
    have HE := Lib.hid h
    clear h hf hown hD hkey
    unfold badN at hb
    by_cases hn : n < 1
    · clear hb
      go_enter Try.func9, Try.ntmps9
      go_wp2_with fail
      go_ret
      exact ⟨rfl, _, ⟨m, rfl, HE.out⟩, Mv15.of_below (Below.refl _ _)⟩
    · have hn2 : 1073741824 < n := by simpa [hn] using hb
      clear hb
      go_enter Try.func9, Try.ntmps9
      go_wp2_with fail
      go_ret
      exact ⟨rfl, _, ⟨m, rfl, HE.out⟩, Mv15.of_below (Below.refl _ _)⟩
  | false =>
    rw [if_neg (by decide), if_neg (by decide)]
    have hn : 1 ≤ n ∧ n ≤ 1073741824 := by unfold badN at hb; simp at hb; omega
    obtain ⟨hn1, hn2⟩ := hn
    have hk0 := hf.now0
    have hk1 := hf.now1
    have hw : IntKind.i64.wrap (x.now + n) = x.now + n := IntWalk.i64_in _ (by omega)
    have hwn : IntKind.i64.wrap n = n := IntWalk.i64_in _ (by omega)
    obtain ⟨w1, hrun, hown1, hturn1⟩ := (World.ownsMap.drew hown).store law15 Try.underlying59 (by have := hf.len; simp only [maxLen]; omega) hkey (plainElem_int Try.underlying2 (wf_id (id := x.now + n) (by omega) (by omega)))
    have ht : ¬ n < 1 := by omega
    have ht2 : ¬ 1073741824 < n := by omega
    have hg : w.grownBy w1 (some m) := ⟨hturn1.grown.os, hturn1.grown.tape, hturn1.grown.output, hturn1.grown.size, hturn1.grown.block⟩
    have HE := Lib.hid (And.intro (h.turn hg hown1 (hD.put id (x.now + n))) (mv_turn (R := R) hg))
    clear hb hf h hown hD hown1 hturn1 hg hkey
    go_enter Try.func9, Try.ntmps9
    go_wp2_with fail
    go_region
    all_goals
      go_wp2_with fail
      go_ret
      exact ⟨rfl, _, ⟨m, rfl, HE.out.1⟩, HE.out.2⟩

end Go.Proofs.Ytcmkdeejofoibaa
