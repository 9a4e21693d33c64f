/- A decoder goes on to a place; what takes a byte there; a run of data; what is asked of it. -/
import Derived.Test.YtjkccacpffikbaaGreatDoorDecLineEnd
import Derived.Laws.EntriesVeiled
namespace Go.Proofs.YtjkccacpffikbaaGreatDoor
open Go.ChangeShapes Go.WideShapes Go.ChangeAt Go.RowKit
open Oc Fl Bk Bd Dk
set_option linter.unusedVariables false
set_option maxRecDepth 100000

/-- All takers, by their places. -/
def tks : Array Value := #[.nilFunc, tkAt 1, tkAt 2, tkAt 3, tkAt 4, .nilFunc, tkAt 6, tkAt 7, tkAt 8, tkAt 9, tkAt 10, tkAt 11, tkAt 12, .nilFunc]
theorem tks_at (p : Nat) (hp : p ≤ 13) (w : World) : (Instr.index 94 (.agg tks) (.int .i64 (p : Int))).run Tryz.prog w = .ok (tkAt p) w := by
  have h : p = 0 ∨ p = 1 ∨ p = 2 ∨ p = 3 ∨ p = 4 ∨ p = 5 ∨ p = 6 ∨ p = 7 ∨ p = 8 ∨ p = 9 ∨ p = 10 ∨ p = 11 ∨ p = 12 ∨ p = 13 := by omega
  rcases h with rfl | rfl | rfl | rfl | rfl | rfl | rfl | rfl | rfl | rfl | rfl | rfl | rfl | rfl <;> (show _ = _; kernel_rfl)

set_option maxHeartbeats 2000000 in
theorem takerAt_any (p : Nat) (hp : p ≤ 13) (w : World) :
    Calls Tryz.prog 32 #[.int .i64 (p : Int)] w fun e w' => e = .returned (tkAt p) ∧ w = w' := by
  have hi := tks_at p hp
  unfold tks at hi
  generalize tkAt p = t at *
  unfold tkAt at hi
  simp only at hi
  go_enter Tryz.func32, Tryz.ntmps32
  go_wp2_with fail
  go_ret
  exact ⟨rfl, rfl⟩

theorem tkAt_kind (p : Nat) (hp : p ≤ 13) : tkAt p = .nilFunc ∨ ∃ f, tkAt p = .func (.func f) #[] #[] := by
  have h : p = 0 ∨ p = 1 ∨ p = 2 ∨ p = 3 ∨ p = 4 ∨ p = 5 ∨ p = 6 ∨ p = 7 ∨ p = 8 ∨ p = 9 ∨ p = 10 ∨ p = 11 ∨ p = 12 ∨ p = 13 := by omega
  rcases h with rfl | rfl | rfl | rfl | rfl | rfl | rfl | rfl | rfl | rfl | rfl | rfl | rfl | rfl <;> first | exact .inl rfl | exact .inr ⟨_, rfl⟩

section
variable {R : Nat} {l : Lim} {d : Ds} {tv lv gv : Value}

set_option maxHeartbeats 2000000 in
theorem stand_any (p : Nat) (hp : p ≤ 13) (w : World) (h : DA R l d tv lv gv w) :
    Calls Tryz.prog 28 #[.pointer (some ⟨R, 0, none⟩), .int .i64 (p : Int)] w fun e w' => e = .returned (.tuple #[]) ∧ DA R l { d with wh := p } (tkAt p) lv gv w' ∧ Moves (mine R lv gv) (mine R lv gv) w w' := by
  have HT := Lib.hid (takerAt_any p hp w)
  obtain ⟨c0, c1, c2, c3, c4, c5, c6, c7, c8, c9, c10, c11, c12, c13⟩ := h.reads
  have f := h.f
  have h1 := h.set 3 (.int .i64 (p : Int)) (d' := { d with wh := p }) (tv' := tv) rfl rfl rfl
  have h2 := h1.set 4 (tkAt p) (d' := { d with wh := p }) (tv' := tkAt p) rfl rfl rfl
  have HD := Lib.hid h2
  have HM := Lib.hid ((Moves.set R lv gv w 3 (.int .i64 (p : Int))).trans (Moves.set R lv gv _ 4 (tkAt p)))
  clear h h1 h2
  have hk := tkAt_kind p hp
  generalize tkAt p = t at *
  rcases hk with rfl | ⟨fn, rfl⟩
  all_goals
    go_enter Tryz.func28, Tryz.ntmps28
    go_wp2_with (go_at_call 32; refine HT.out.mono ?_; rintro e w' ⟨rfl, rfl⟩)
    go_end0
    exact ⟨rfl, HD.out, HM.out⟩

/-- What takes a byte where one is taken. -/
theorem taker_any {s : St} {i : Nat} (hc : Core l (s, i, 4) d) (h3 : s.place ≠ 3) (hl : l.ext ≤ 65536 ∧ l.fields ≤ 65536 ∧ l.bytes ≤ 65536) :
    ∃ f, tkAt d.wh = .func (.func f) #[] #[] ∧ (∀ args W, (callFunc f args).run Tryz.prog W = .ok (.enter f args) W) ∧
      ∀ (c : UInt8) (W : World) (tv lv gv : Value), DA R l d tv lv gv W → Calls Tryz.prog f #[.pointer (some ⟨R, 0, none⟩), .int .u8 (c.toNat : Int)] W fun x w' => TakeQ R l tv lv gv (takeD l c d) W x w' := by
  obtain ⟨-, hp, hs⟩ : (4 : Nat) = 4 ∧ s.place ≠ 11 ∧ Sim l s d := by
    rcases hc with h | h | h
    · exact h
    · exact absurd h.1 (by simp)
    · exact absurd rfl h.2.1
  have b1 : d.bytes ≤ 1000000 := by have := hs.bytes; have := hs.size; omega
  have b2 : d.line.length ≤ 999999 := by have := hs.line; have := hs.text; have := hs.size; rw [hs.line]; omega
  have b3 : d.left ≤ 4611686018427387903 := by have := hs.left; have := hs.nmax; omega
  have b4 : d.fields.length ≤ 1000000 := by
    rw [hs.fields]
    exact Nat.le_trans hs.fmax (by omega)
  have hpl := hs.place
  have e0 := hs.wh
  have hpp : s.place = 0 ∨ s.place = 1 ∨ s.place = 2 ∨ s.place = 4 ∨ s.place = 5 ∨ s.place = 6 ∨ s.place = 7 ∨ s.place = 8 ∨ s.place = 9 ∨ s.place = 10 := by omega
  rcases hpp with q | q | q | q | q | q | q | q | q | q
  · have d1 : d.digits ≤ 1000 := by have := hs.dig q; have := hs.c0 q; omega
    have d2 : d.ext ≤ 1000000 := by have := hs.ext0 q; omega
    rw [if_pos q] at e0
    by_cases k0 : s.count = 0
    · rw [if_pos k0] at e0
      refine ⟨_, by rw [e0]; rfl, enters_of Tryz.func37 (by kernel_rfl) rfl, fun c W tv lv gv h => ?_⟩
      rw [show takeD l c d = digitD c d by simp [takeD, e0]]
      exact digit9_any c W h b3 d1
    · rw [if_neg k0] at e0
      refine ⟨_, by rw [e0]; rfl, enters_of Tryz.func38 (by kernel_rfl) rfl, fun c W tv lv gv h => ?_⟩
      rw [show takeD l c d = digitMoreD l c d by simp [takeD, e0]]
      exact digitMore_any c W h b3 d1 d2
  · have d2 : d.ext ≤ 1000000 := by have := hs.ext1 q; have := hs.c1 q; omega
    rw [q] at e0
    simp at e0
    refine ⟨_, by rw [e0]; rfl, enters_of Tryz.func39 (by kernel_rfl) rfl, fun c W tv lv gv h => ?_⟩
    rw [show takeD l c d = extD l c d by simp [takeD, e0]]
    exact extension_any c W h d2
  · rw [q] at e0
    simp at e0
    refine ⟨_, by rw [e0]; rfl, enters_of Tryz.func40 (by kernel_rfl) rfl, fun c W tv lv gv h => ?_⟩
    rw [show takeD l c d = sizeEndD c d by simp [takeD, e0]]
    exact sizeEnd_any c W h
  · rw [q] at e0
    simp at e0
    refine ⟨_, by rw [e0]; rfl, enters_of Tryz.func41 (by kernel_rfl) rfl, fun c W tv lv gv h => ?_⟩
    rw [show takeD l c d = onlyD 13 c 7 d by simp [takeD, e0]]
    exact dataEnd_any c W h
  · rw [q] at e0
    simp at e0
    refine ⟨_, by rw [e0]; rfl, enters_of Tryz.func42 (by kernel_rfl) rfl, fun c W tv lv gv h => ?_⟩
    rw [show takeD l c d = onlyD 10 c 1 d by simp [takeD, e0]]
    exact dataEndLast_any c W h
  · rw [q] at e0
    simp at e0
    refine ⟨_, by rw [e0]; rfl, enters_of Tryz.func43 (by kernel_rfl) rfl, fun c W tv lv gv h => ?_⟩
    rw [show takeD l c d = beginD l c d by simp [takeD, e0]]
    exact begin_any c W h b1 (by omega)
  · rw [q] at e0
    simp at e0
    refine ⟨_, by rw [e0]; rfl, enters_of Tryz.func44 (by kernel_rfl) rfl, fun c W tv lv gv h => ?_⟩
    rw [show takeD l c d = nameD l c d by simp [takeD, e0]]
    exact name9_any c W h b1 (by omega)
  · rw [q] at e0
    simp at e0
    refine ⟨_, by rw [e0]; rfl, enters_of Tryz.func45 (by kernel_rfl) rfl, fun c W tv lv gv h => ?_⟩
    rw [show takeD l c d = textD l c d by simp [takeD, e0]]
    exact text9_any c W h b1 (by omega)
  · have hne : d.line ≠ [] := by rw [hs.line]; exact hs.tx (by omega) (by omega)
    rw [q] at e0
    simp at e0
    refine ⟨_, by rw [e0]; rfl, enters_of Tryz.func46 (by kernel_rfl) rfl, fun c W tv lv gv h => ?_⟩
    rw [show takeD l c d = lineEndD l c d by simp [takeD, e0]]
    exact lineEnd9_any c W h b1 b2 b4 hne
  · rw [q] at e0
    simp at e0
    refine ⟨_, by rw [e0]; rfl, enters_of Tryz.func47 (by kernel_rfl) rfl, fun c W tv lv gv h => ?_⟩
    rw [show takeD l c d = onlyD 10 c 13 d by simp [takeD, e0]]
    exact sectionEnd_any c W h

set_option maxHeartbeats 4000000 in
theorem run9_any {p : Option Addr} {n k : Nat} {xs : List UInt8} (w : World) (h : DA R l d (tkAt d.wh) lv gv w) (hn : n = xs.length) (hk : n ≤ k) (hn1 : n ≤ 1099511627776) (hl : d.left ≤ 4611686018427387903) :
    Calls Tryz.prog 112 #[.pointer (some ⟨R, 0, none⟩), .slice p n k] w fun e w' =>
      e = .returned (sliced p 0 (min d.left n) k 1) ∧ DA R l (ranD (min d.left n) d) (tkAt (ranD (min d.left n) d).wh) lv gv w' ∧ Moves (mine R lv gv) (mine R lv gv) w w' := by
  obtain ⟨c0, c1, c2, c3, c4, c5, c6, c7, c8, c9, c10, c11, c12, c13⟩ := h.reads
  have f := h.f
  obtain ⟨m, hm⟩ : ∃ m, min d.left n = m := ⟨_, rfl⟩
  obtain ⟨q, hq⟩ : ∃ q, d.left - m = q := ⟨_, rfl⟩
  have hmin : min (d.left : Int) (n : Int) = (m : Int) := by omega
  have hw1 : IntKind.u64.wrap (n : Int) = (n : Int) := IntWalk.u64_in _ (by omega)
  have hw2 : IntKind.u64.wrap ((d.left : Int) - (m : Int)) = (q : Int) := by rw [IntWalk.u64_in _ (by omega)]; omega
  obtain ⟨uv, huv⟩ : ∃ uv, sliced p 0 m k 1 = uv := ⟨_, rfl⟩
  have hcut : ∀ W, (Instr.slice 29 (.slice p n k) none (some (.int .u64 (m : Int))) none).run Tryz.prog W = .ok uv W := fun W => huv ▸ by
    rw [run_slice_h W 29 _ _ _ Tryz.underlying29 .u64 m (by omega) (by omega), byte_size]
    simp [Result.andThen]
  rw [hm, huv]
  have h1 := h.set 7 (.int .u64 (q : Int)) (d' := { d with left := q }) (tv' := tkAt d.wh) rfl rfl rfl
  have hm1 := Moves.set R lv gv w 7 (.int .u64 (q : Int))
  have HM := Lib.hid hm1
  by_cases h0 : q = 0
  · have HS := Lib.hid (stand_any 6 (by omega) _ h1)
    have HE := Lib.hid (show ranD m d = { ({ d with left := q } : Ds) with wh := 6 } by simp [ranD, hq, h0])
    subst h0
    clear h h1 hm1 hm hq huv hn hk
    go_enter Tryz.func112, Tryz.ntmps112
    go_wp2_with (go_at_call 28; refine HS.out.mono ?_; rintro e w' ⟨rfl, h2, m2⟩)
    go_ret
    rw [HE.out]
    exact ⟨rfl, h2, HM.out.trans m2⟩
  · have hz : ((q : Int) == 0) = false := beq_eq_false_iff_ne.2 (by omega)
    have HE := Lib.hid (show ranD m d = { d with left := q } by simp [ranD, hq, h0])
    have H1 := Lib.hid h1
    clear h h1 hm1 hm hq huv hn hk
    go_enter Tryz.func112, Tryz.ntmps112
    go_wp2_with fail
    go_ret
    rw [HE.out]
    exact ⟨rfl, H1.out, HM.out⟩

set_option maxHeartbeats 2000000 in
theorem done_any (w : World) (h : DA R l d tv lv gv w) :
    Calls Tryz.prog 30 #[.pointer (some ⟨R, 0, none⟩)] w fun e w' => e = .returned (.bool (decide (d.wh = 13))) ∧ w = w' := by
  have c3 := h.reads.c3
  have HB := Lib.hid (show ((d.wh : Int) == 13) = decide (d.wh = 13) by rw [Bool.eq_iff_iff]; simp; omega)
  clear h
  go_enter Tryz.func30, Tryz.ntmps30
  go_wp2_with fail
  go_ret
  exact ⟨ret_bool HB.out, rfl⟩
set_option maxHeartbeats 2000000 in
theorem taken_any (w : World) (h : DA R l d tv lv gv w) :
    Calls Tryz.prog 111 #[.pointer (some ⟨R, 0, none⟩)] w fun e w' => e = .returned (.int .i64 (d.taken : Int)) ∧ w = w' := by
  have c12 := h.reads.c12
  clear h
  go_enter Tryz.func111, Tryz.ntmps111
  go_wp2_with fail
  go_ret
  exact ⟨rfl, rfl⟩
set_option maxHeartbeats 2000000 in
theorem given_any (w : World) (h : DA R l d tv lv gv w) :
    Calls Tryz.prog 109 #[.pointer (some ⟨R, 0, none⟩)] w fun e w' => e = .returned (.int .i64 (d.given : Int)) ∧ w = w' := by
  have c13 := h.reads.c13
  clear h
  go_enter Tryz.func109, Tryz.ntmps109
  go_wp2_with fail
  go_ret
  exact ⟨rfl, rfl⟩
end

end Go.Proofs.YtjkccacpffikbaaGreatDoor
