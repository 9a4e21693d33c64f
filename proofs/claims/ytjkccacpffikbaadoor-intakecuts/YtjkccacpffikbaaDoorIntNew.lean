/- An intake is made. -/
import Derived.Test.YtjkccacpffikbaaDoorIntPut
namespace Go.Proofs.YtjkccacpffikbaaDoor
open Go.ChangeShapes Go.WideShapes Go.ChangeAt Go.RowKit
open Oc Fl Bk Bd Dk Ik
set_option linter.unusedVariables false
set_option maxRecDepth 100000

/-- A framing as a value. -/
abbrev fr12 (k s : Int) : Value := .agg #[.int .i64 k, .int .u64 s]
theorem rightF_no {k s : Int} (h0 : k ≠ 0) (h1 : k ≠ 1) (h2 : k ≠ 2) (h3 : k ≠ 3) : rightF k s = false := by unfold rightF; simp [h0, h1, h2, h3]
set_option maxHeartbeats 2000000 in
theorem right12_any (k s : Int) (w : World) : Calls Tryd.prog 19 #[fr12 k s] w fun x w' => x = .returned (.bool (rightF k s)) ∧ Below w.heap.size w w' := by
  have HB := Lib.hid (below_box w (.cells #[.int .i64 k, .int .u64 s] 24))
  unfold fr12
  by_cases h0 : k = 0
  · subst h0
    go_enter Tryd.func19, Tryd.ntmps19
    go_wp2_with fail
    go_ret
    exact ⟨ret_bool (by unfold rightF; rw [Bool.eq_iff_iff]; simp), HB.out⟩
  by_cases h1 : k = 1
  · subst h1
    go_enter Tryd.func19, Tryd.ntmps19
    go_wp2_with fail
    go_ret
    exact ⟨ret_bool (by unfold rightF; rw [Bool.eq_iff_iff]; simp), HB.out⟩
  by_cases h2 : k = 2
  · subst h2
    go_enter Tryd.func19, Tryd.ntmps19
    go_wp2_with fail
    go_ret
    exact ⟨ret_bool (by unfold rightF; rw [Bool.eq_iff_iff]; simp), HB.out⟩
  by_cases h3 : k = 3
  · subst h3
    go_enter Tryd.func19, Tryd.ntmps19
    go_wp2_with fail
    go_ret
    exact ⟨ret_bool (by unfold rightF; rw [Bool.eq_iff_iff]; simp), HB.out⟩
  rw [rightF_no h0 h1 h2 h3]
  have e0 : (k == 0) = false := beq_eq_false_iff_ne.2 h0
  have e1 : (k == 1) = false := beq_eq_false_iff_ne.2 h1
  have e2 : (k == 2) = false := beq_eq_false_iff_ne.2 h2
  have e3 : (k == 3) = false := beq_eq_false_iff_ne.2 h3
  clear h0 h1 h2 h3
  go_enter Tryd.func19, Tryd.ntmps19
  go_wp2_with fail
  go_ret
  exact ⟨rfl, HB.out⟩
set_option maxHeartbeats 2000000 in
theorem rright12_any (k s : Int) (w : World) : Calls Tryd.prog 7 #[fr12 k s] w fun x w' => x = .returned (.bool (rightF k s)) ∧ Below w.heap.size w w' := by
  have HB := Lib.hid (below_box w (.cells #[.int .i64 k, .int .u64 s] 24))
  unfold fr12
  by_cases hs : 4611686018427387903 < s
  · have hF : rightF k s = false := by unfold rightF; simp; omega
    rw [hF]
    clear hF
    by_cases hk0 : k < 0
    · go_enter Tryd.func7, Tryd.ntmps7
      go_wp2_with fail
      go_ret
      exact ⟨rfl, HB.out⟩
    by_cases hk3 : 3 < k
    · go_enter Tryd.func7, Tryd.ntmps7
      go_wp2_with fail
      go_ret
      exact ⟨rfl, HB.out⟩
    go_enter Tryd.func7, Tryd.ntmps7
    go_wp2_with fail
    go_ret
    exact ⟨rfl, HB.out⟩
  by_cases hk0 : k < 0
  · rw [rightF_no (by omega) (by omega) (by omega) (by omega)]
    go_enter Tryd.func7, Tryd.ntmps7
    go_wp2_with fail
    go_ret
    exact ⟨rfl, HB.out⟩
  by_cases hk3 : 3 < k
  · rw [rightF_no (by omega) (by omega) (by omega) (by omega)]
    go_enter Tryd.func7, Tryd.ntmps7
    go_wp2_with fail
    go_ret
    exact ⟨rfl, HB.out⟩
  by_cases h1 : k = 1
  · subst h1
    have hF : rightF 1 s = true := by unfold rightF; simp; omega
    rw [hF]
    clear hF
    go_enter Tryd.func7, Tryd.ntmps7
    go_wp2_with fail
    go_ret
    exact ⟨rfl, HB.out⟩
  have e1 : (k == 1) = false := beq_eq_false_iff_ne.2 h1
  have hF : rightF k s = (s == 0) := by unfold rightF; rw [Bool.eq_iff_iff]; simp; omega
  rw [hF]
  clear hF h1
  go_enter Tryd.func7, Tryd.ntmps7
  go_wp2_with fail
  go_ret
  exact ⟨rfl, HB.out⟩

/-- Both boxes that New begins with. -/
theorem boxes12 (w : World) (k s a b c : Int) : ∃ w0, (w.alloc (.cells #[.int .i64 k, .int .u64 s] 24)).alloc (.cells #[.int .i64 a, .int .i64 b, .int .i64 c] 30) = w0 ∧ Below w.heap.size w w0 ∧ w0.heap.size = w.heap.size + 2 ∧
    w0.heap[w.heap.size]? = some (.cells #[.int .i64 k, .int .u64 s] 24 (0, 0)) ∧ w0.heap[w.heap.size + 1]? = some (.cells #[.int .i64 a, .int .i64 b, .int .i64 c] 30 (0, 0)) := by
  refine ⟨_, rfl, ahead (below_box _ _) (below_box _ _), by simp, ?_, ?_⟩
  · rw [Below.heap_alloc _ _ _ (by simp)]; exact World.alloc_heap_new w _
  · exact heap_alloc2_new w _ _
theorem two_cells12 {A : World} {R : Nat} {x y : Value} {t : TypeId} (h : A.heap[R]? = some (.cells #[x, y] t (0, 0))) : A.cell? ⟨R, 0, none⟩ = some x ∧ A.cell? ⟨R, 1, none⟩ = some y := by simp [World.cell?, h]

set_option maxHeartbeats 4000000 in
theorem new12_bad (k s a b c : Int) (w : World) (h : rightF k s = false ∨ okLs a b c = false) :
    Calls Tryd.prog 8 #[fr12 k s, lim3 a b c] w fun x w' => x = .returned (.tuple #[.pointer none, .int .i64 1]) ∧ Below w.heap.size w w' := by
  obtain ⟨w0, hw0, b0, z0, l0, l1⟩ := boxes12 w k s a b c
  have HR := Lib.hid (right12_any k s w0)
  have HL : Hid (∀ W, _) := Lib.hid fun W => right8_any a b c W
  have KF : Hid (∀ W, Below w0.heap.size w0 W → _) := Lib.hid fun W h => two_cells12 ((h.block w.heap.size (by omega)).trans l0)
  have KL : Hid (∀ W, Below w0.heap.size w0 W → _) := Lib.hid fun W h => (three_cells8 ((h.block (w.heap.size + 1) (by omega)).trans l1)).1
  have W0 := Lib.hid hw0
  have B0 := Lib.hid b0
  obtain ⟨x0, x1⟩ := KF.out w0 (Below.refl _ _)
  unfold lim3 at HL ⊢
  unfold fr12 at HR ⊢
  clear hw0 b0 l0 l1
  cases hr : rightF k s with
  | false =>
    rw [hr] at HR
    clear h hr
    go_enter Tryd.func8, Tryd.ntmps8
    go_wp2_with fail
    rw [W0.out]
    refine HR.out.mono ?_
    rintro x w1 ⟨rfl, hb1⟩
    have B1 := Lib.hid (ahead B0.out hb1)
    clear hb1
    go_wp2_with fail
    go_ret2
    exact ⟨rfl, B1.out⟩
  | true =>
    have hl : okLs a b c = false := h.resolve_left (by rw [hr]; decide)
    rw [hr] at HR
    rw [hl] at HL
    clear h hr hl
    go_enter Tryd.func8, Tryd.ntmps8
    go_wp2_with fail
    rw [W0.out]
    refine HR.out.mono ?_
    rintro x w1 ⟨rfl, hb1⟩
    obtain ⟨y0, y1, y2⟩ := KL.out w1 hb1
    have B1 := Lib.hid (ahead B0.out hb1)
    clear hb1 x0 x1
    go_wp2_with fail
    refine (HL.out _).mono ?_
    rintro x w2 ⟨rfl, hb2⟩
    have B2 := Lib.hid (ahead B1.out hb2)
    clear hb2
    go_wp2_with fail
    go_ret2
    exact ⟨rfl, B2.out⟩

theorem InAt.made {k : Kd} {T : TypeId} {K : Nat} {M0 : Nat → Prop} {W : World} (h : KdAt K k T M0 W) (hs : 0 < W.heap.size) :
    InAt W.heap.size k 0 (fun g => g = W.heap.size ∨ M0 g) (W.alloc (.cells #[.iface T (.pointer (some ⟨K, 0, none⟩)), .int .i64 0] 54)) :=
  ⟨T, K, M0, World.alloc_heap_new W _, h.below (below_box _ _), fun hm => by have := h.lt hm; omega, hs, rfl⟩

set_option maxHeartbeats 8000000 in
theorem newI (kind size : Nat) (l : Lim) (w : World) (hk : kind ≤ 3) (hs : kind ≠ 1 → size = 0) (hsz : size ≤ 4611686018427387903) (hl : l.ext ≤ 65536 ∧ l.fields ≤ 65536 ∧ l.bytes ≤ 65536) (hsp : Spans w) :
    Calls Tryd.prog 8 #[fr12 (kind : Int) (size : Int), lim3 (l.ext : Int) (l.fields : Int) (l.bytes : Int)] w fun x w' => ∃ (R : Nat) (M : Nat → Prop), x = .returned (.tuple #[.pointer (some ⟨R, 0, none⟩), .int .i64 0]) ∧ InAt R (newK kind size l) 0 M w' ∧ (∀ g, M g → w.heap.size ≤ g) ∧ Below w.heap.size w w' := by
  obtain ⟨w0, hw0, b0, z0, l0, l1⟩ := boxes12 w (kind : Int) (size : Int) (l.ext : Int) (l.fields : Int) (l.bytes : Int)
  have hok : okLs (l.ext : Int) (l.fields : Int) (l.bytes : Int) = true := by unfold okLs okL; simp; omega
  have hrf : rightF (kind : Int) (size : Int) = true := by
    unfold rightF; simp
    by_cases h1 : kind = 1
    · omega
    · have := hs h1; omega
  obtain ⟨ki, hki⟩ : ∃ ki : Int, (kind : Int) = ki := ⟨_, rfl⟩
  rw [hki] at hw0 l0 hrf ⊢
  have HR := Lib.hid (right12_any ki (size : Int) w0)
  rw [hrf] at HR
  have HL : Hid (∀ W, _) := Lib.hid fun W => right8_any (l.ext : Int) (l.fields : Int) (l.bytes : Int) W
  rw [hok] at HL
  have KF : Hid (∀ W, Below w0.heap.size w0 W → _) := Lib.hid fun W h => two_cells12 ((h.block w.heap.size (by omega)).trans l0)
  have KL : Hid (∀ W, Below w0.heap.size w0 W → _) := Lib.hid fun W h => (three_cells8 ((h.block (w.heap.size + 1) (by omega)).trans l1)).1
  have W0 := Lib.hid hw0
  have B0 := Lib.hid b0
  have HSP := Lib.hid hsp
  obtain ⟨x0, x1⟩ := KF.out w0 (Below.refl _ _)
  unfold lim3 at HL ⊢
  unfold fr12 at HR ⊢
  clear hw0 b0 l0 l1 hok hrf hsp
  by_cases h2 : kind = 2
  case pos =>
    obtain rfl : ki = 2 := by omega
    subst h2
    have HN : Hid (∀ W, Spans W → _) := Lib.hid fun W h => newX l W hl h
    unfold lim3 at HN
    have HLM := Lib.hid hl
    rw [show newK 2 size l = .dec l (sz [] 0 0, 0, 4) from rfl]
    clear hk hs hsz hl hki
    go_enter Tryd.func8, Tryd.ntmps8
    go_wp2_with fail
    rw [W0.out]
    refine HR.out.mono ?_
    rintro x w1 ⟨rfl, hb1⟩
    obtain ⟨y0, y1, y2⟩ := KL.out w1 hb1
    have B1 := Lib.hid hb1
    clear hb1 x0 x1
    go_wp2_with fail
    refine (HL.out _).mono ?_
    rintro x w2 ⟨rfl, hb2⟩
    have hb := ahead B1.out hb2
    clear y0 y1 y2
    obtain ⟨y0, y1, y2⟩ := KL.out w2 hb
    obtain ⟨x0, x1⟩ := KF.out w2 hb
    have hb' := ahead B0.out hb
    have HNW := Lib.hid (HN.out w2 (HSP.out.below hb'))
    have B2 := Lib.hid hb'
    clear hb2 hb hb' HN
    go_wp2_with fail
    refine HNW.out.mono ?_
    rintro x w3 ⟨K, M0, rfl, hd, hm, hb3⟩
    have hz := B2.out.size
    have hz3 := hb3.size
    have hq := InAt.made (k := .dec l (sz [] 0 0, 0, 4)) (T := 48) ⟨rfl, hd, HLM.out⟩ (by have := (hd.spans).1; exact this)
    have HQ := Lib.hid hq
    have HM := Lib.hid (show ∀ g, (g = w3.heap.size ∨ M0 g) → w.heap.size ≤ g from fun g hg => by
      rcases hg with hg | hg
      · omega
      · have := hm g hg; omega)
    have B3 := Lib.hid (ahead (ahead B2.out hb3) (below_box w3 (.cells #[.iface 48 (.pointer (some ⟨K, 0, none⟩)), .int .i64 0] 54)))
    clear hd hm hb3 hq hz hz3 x0 x1 y0 y1 y2
    go_wp2_with fail
    go_ret2
    exact ⟨w3.heap.size, _, rfl, HQ.out, HM.out, B3.out⟩
  case neg =>
    by_cases h3 : kind = 3
    case pos =>
      obtain rfl : ki = 3 := by omega
      subst h3
      rw [show newK 3 size l = .unt false 0 from rfl]
      clear hk hs hsz hl h2 hki
      go_enter Tryd.func8, Tryd.ntmps8
      go_wp2_with fail
      rw [W0.out]
      refine HR.out.mono ?_
      rintro x w1 ⟨rfl, hb1⟩
      obtain ⟨y0, y1, y2⟩ := KL.out w1 hb1
      have B1 := Lib.hid hb1
      clear hb1 x0 x1
      go_wp2_with fail
      refine (HL.out _).mono ?_
      rintro x w2 ⟨rfl, hb2⟩
      have hb := ahead B1.out hb2
      obtain ⟨x0, x1⟩ := KF.out w2 hb
      have hb' := ahead B0.out hb
      have hz := hb'.size
      have hs0 := (HSP.out.below hb').1
      have bA := below_box w2 (.cells #[.int .i64 0, .bool false] 59)
      have hq := InAt.made (W := w2.alloc (.cells #[.int .i64 0, .bool false] 59)) (k := .unt false 0) (T := 55) (K := w2.heap.size) ⟨rfl, rfl, World.alloc_heap_new w2 _⟩ (by simp <;> omega)
      rw [show (w2.alloc (.cells #[.int .i64 0, .bool false] 59)).heap.size = w2.heap.size + 1 by simp] at hq
      have HM := Lib.hid (show ∀ g, (g = w2.heap.size + 1 ∨ g = w2.heap.size) → w.heap.size ≤ g from fun g hg => by omega)
      have B3 := Lib.hid (ahead (ahead hb' bA) (below_box _ (.cells #[.iface 55 (.pointer (some ⟨w2.heap.size, 0, none⟩)), .int .i64 0] 54)))
      have HQ := Lib.hid hq
      clear hb2 hb hb' y0 y1 y2 hq bA hz hs0
      go_wp2_with fail
      go_ret2
      exact ⟨_, _, rfl, HQ.out, HM.out, B3.out⟩
    case neg =>
      have HNK := Lib.hid (show newK kind size l = .fix size 0 from by unfold newK; rw [if_neg h2, if_neg h3])
      have e2 : (ki == 2) = false := beq_eq_false_iff_ne.2 (by omega)
      have e3 : (ki == 3) = false := beq_eq_false_iff_ne.2 (by omega)
      have HSZ := Lib.hid hsz
      clear hk hs hsz hl h2 h3 hki
      go_enter Tryd.func8, Tryd.ntmps8
      go_wp2_with fail
      rw [W0.out]
      refine HR.out.mono ?_
      rintro x w1 ⟨rfl, hb1⟩
      obtain ⟨y0, y1, y2⟩ := KL.out w1 hb1
      have B1 := Lib.hid hb1
      clear hb1 x0 x1
      go_wp2_with fail
      refine (HL.out _).mono ?_
      rintro x w2 ⟨rfl, hb2⟩
      have hb := ahead B1.out hb2
      obtain ⟨x0, x1⟩ := KF.out w2 hb
      have hb' := ahead B0.out hb
      have hz := hb'.size
      have hs0 := (HSP.out.below hb').1
      have bA := below_box w2 (.cells #[.int .i64 0, .int .u64 (size : Int)] 62)
      have hq := InAt.made (W := w2.alloc (.cells #[.int .i64 0, .int .u64 (size : Int)] 62)) (k := .fix size 0) (T := 60) (K := w2.heap.size) ⟨rfl, rfl, World.alloc_heap_new w2 _, HSZ.out⟩ (by simp <;> omega)
      rw [show (w2.alloc (.cells #[.int .i64 0, .int .u64 (size : Int)] 62)).heap.size = w2.heap.size + 1 by simp] at hq
      have HM := Lib.hid (show ∀ g, (g = w2.heap.size + 1 ∨ g = w2.heap.size) → w.heap.size ≤ g from fun g hg => by omega)
      have B3 := Lib.hid (ahead (ahead hb' bA) (below_box _ (.cells #[.iface 60 (.pointer (some ⟨w2.heap.size, 0, none⟩)), .int .i64 0] 54)))
      have HQ := Lib.hid hq
      clear hb2 hb hb' y0 y1 y2 hq bA hz hs0
      go_wp2_with fail
      go_ret2
      exact ⟨_, _, rfl, by rw [HNK.out]; exact HQ.out, HM.out, B3.out⟩

end Go.Proofs.YtjkccacpffikbaaDoor
