/- A body's section: limits, lines, and what is read byte by byte. -/
import Derived.Test.YtjolpnjmelifbaaGreatDoorBodyMath
namespace Go.Proofs.YtjolpnjmelifbaaGreatDoor
namespace Bd
open Oc Fl Bk Hx

/-- In the section: q as layer 6 counts. -/
def sc (D : List UInt8) (c q a b : Nat) (tx : List UInt8) (fs : List Fld) : St := ⟨5 + q, 0, c, a, b, tx, D, fs⟩
/-- Is the byte x beyond the limits? -/
def lim (l : Lim) (q a b : Nat) (x : UInt8) : Bool :=
  if q = 5 ∨ (q = 1 ∧ x = 13) then false else if q = 1 ∧ l.fields ≤ a then true else decide (l.bytes ≤ b)
def up (q a : Nat) (x : UInt8) : Nat := if q = 1 ∧ x ≠ 13 then a + 1 else a
def wd (q b : Nat) (x : UInt8) : Nat := if q = 5 ∨ (q = 1 ∧ x = 13) then b else b + 1
/-- How many bytes stand ahead of one that is beyond the limits. -/
def lp (l : Lim) : Nat → Nat → Nat → List UInt8 → Nat
  | _, _, _, [] => 0
  | q, a, b, x :: t => if lim l q a b x = true then 0 else lp l (nx q x) (up q a x) (wd q b x) t + 1
theorem lp_no {l : Lim} {q a b : Nat} {x : UInt8} {t : List UInt8} (h : lim l q a b x = true) : lp l q a b (x :: t) = 0 := by simp [lp, h]
theorem lp_yes {l : Lim} {q a b : Nat} {x : UInt8} {t : List UInt8} (h : lim l q a b x = false) : lp l q a b (x :: t) = lp l (nx q x) (up q a x) (wd q b x) t + 1 := by simp [lp, h]
theorem lp_le (l : Lim) (q a b : Nat) (t : List UInt8) : lp l q a b t ≤ t.length := by
  induction t generalizing q a b with
  | nil => exact Nat.le_refl _
  | cons x t ih =>
    cases h : lim l q a b x with
    | true => rw [lp_no h]; exact Nat.zero_le _
    | false => rw [lp_yes h]; simp only [List.length_cons]; have := ih (nx q x) (up q a x) (wd q b x); omega

/-- What of a line was read ahead of a place. -/
def Tx : Nat → List UInt8 → Prop
  | 1, tx => tx = []
  | 2, tx => tx ≠ [] ∧ every tokB tx = true
  | 3, tx => ∃ n u, tx = n ++ 58 :: u ∧ token n = true ∧ text u = true
  | 4, tx => ∃ n u, tx = (n ++ 58 :: u) ++ [13] ∧ token n = true ∧ text u = true
  | 5, tx => tx = []
  | _, _ => False
def tex (q : Nat) (tx : List UInt8) (x : UInt8) : List UInt8 := if q = 4 ∨ q = 5 ∨ (q = 1 ∧ x = 13) then [] else tx ++ [x]
def fls (q : Nat) (tx : List UInt8) (fs : List Fld) : List Fld := if q = 4 then fs ++ [lf tx.dropLast] else fs

theorem every_snoc {x : List UInt8} {b : UInt8} (h : every tokB x = true) (hb : tkb b = true) : every tokB (x ++ [b]) = true := by
  unfold every at *; rw [List.all_append, h]; simp [show tokB (b.toNat : Int) = true from hb]
theorem tkb58 : tkb 58 = false := by decide
theorem token_of {x : List UInt8} (h0 : x ≠ []) (h : every tokB x = true) : token x = true := by
  unfold token; rw [h]; cases x with
  | nil => exact absurd rfl h0
  | cons => rfl

/-- One byte of a section. -/
theorem sec_er {l : Lim} {D : List UInt8} {c q a b : Nat} {tx : List UInt8} {fs : List Fld} (x : UInt8) (hq : 1 ≤ q ∧ q ≤ 5) :
    er l (sc D c q a b tx fs) x = if nx q x = 0 then 2 else if lim l q a b x = true then 5 else 0 := by
  obtain ⟨h1, h2⟩ := hq
  have h : q = 1 ∨ q = 2 ∨ q = 3 ∨ q = 4 ∨ q = 5 := by omega
  by_cases hb : l.bytes ≤ b
  all_goals rcases h with rfl | rfl | rfl | rfl | rfl
  · by_cases h13 : x = 13
    · subst h13; simp [er, sc, lim, nx1_13]
    · cases hx : tkb x with
      | true => by_cases g : l.fields ≤ a <;> simp [er, sc, lim, lineE, hb, nx1_tok hx, h13, hx, g]
      | false => simp [er, sc, nx1_no hx h13, h13, hx]
  · by_cases h58 : x = 58
    · subst h58; simp [er, sc, lim, lineE, hb, nx2_58]
    · cases hx : tkb x with
      | true => simp [er, sc, lim, lineE, hb, nx2_tok hx, h58, hx]
      | false => simp [er, sc, nx2_no hx h58, h58, hx]
  · by_cases h13 : x = 13
    · subst h13; simp [er, sc, lim, lineE, hb, nx3_13]
    · cases hx : txb x with
      | true => simp [er, sc, lim, lineE, hb, nx3_txt hx, h13, hx]
      | false => simp [er, sc, nx3_no hx h13, h13, hx]
  · by_cases h10 : x = 10
    · subst h10; simp [er, sc, lim, lineE, hb, nx4_10]
    · simp [er, sc, nx4_no h10, h10]
  · by_cases h10 : x = 10
    · subst h10; simp [er, sc, lim, nx5_10]
    · simp [er, sc, nx5_no h10, h10]
  · by_cases h13 : x = 13
    · subst h13; simp [er, sc, lim, nx1_13]
    · cases hx : tkb x with
      | true => by_cases g : l.fields ≤ a <;> simp [er, sc, lim, lineE, hb, nx1_tok hx, h13, hx, g]
      | false => simp [er, sc, nx1_no hx h13, h13, hx]
  · by_cases h58 : x = 58
    · subst h58; simp [er, sc, lim, lineE, hb, nx2_58]
    · cases hx : tkb x with
      | true => simp [er, sc, lim, lineE, hb, nx2_tok hx, h58, hx]
      | false => simp [er, sc, nx2_no hx h58, h58, hx]
  · by_cases h13 : x = 13
    · subst h13; simp [er, sc, lim, lineE, hb, nx3_13]
    · cases hx : txb x with
      | true => simp [er, sc, lim, lineE, hb, nx3_txt hx, h13, hx]
      | false => simp [er, sc, nx3_no hx h13, h13, hx]
  · by_cases h10 : x = 10
    · subst h10; simp [er, sc, lim, lineE, hb, nx4_10]
    · simp [er, sc, nx4_no h10, h10]
  · by_cases h10 : x = 10
    · subst h10; simp [er, sc, lim, nx5_10]
    · simp [er, sc, nx5_no h10, h10]
theorem sec_nxt {D : List UInt8} {c q a b : Nat} {tx : List UInt8} {fs : List Fld} (x : UInt8) (hq : 1 ≤ q ∧ q ≤ 5) (h : nx q x ≠ 0) (ht : Tx q tx) :
    nxt (sc D c q a b tx fs) x = sc D c (nx q x) (up q a x) (wd q b x) (tex q tx x) (fls q tx fs) ∧ (nx q x ≤ 6 ∧ (nx q x ≠ 6 → Tx (nx q x) (tex q tx x))) := by
  obtain ⟨h1, h2⟩ := hq
  have hh : q = 1 ∨ q = 2 ∨ q = 3 ∨ q = 4 ∨ q = 5 := by omega
  rcases hh with rfl | rfl | rfl | rfl | rfl
  · have htx : tx = [] := ht
    subst htx
    by_cases h13 : x = 13
    · subst h13; exact ⟨by simp [nxt, sc, nx1_13, up, wd, tex, fls], by rw [nx1_13]; exact ⟨by decide, fun _ => rfl⟩⟩
    · cases hx : tkb x with
      | true => refine ⟨by simp [nxt, sc, nx1_tok hx, up, wd, tex, fls, h13], ?_⟩
                rw [nx1_tok hx]
                refine ⟨by decide, fun _ => ?_⟩
                show tex 1 [] x ≠ [] ∧ every tokB (tex 1 [] x) = true
                simp only [tex, h13]
                exact ⟨by simp, by simp [every, show tokB (x.toNat : Int) = true from hx]⟩
      | false => exact absurd (nx1_no hx h13) h
  · obtain ⟨g0, g1⟩ : tx ≠ [] ∧ every tokB tx = true := ht
    by_cases h58 : x = 58
    · subst h58; exact ⟨by simp [nxt, sc, nx2_58, up, wd, tex, fls], by rw [nx2_58]; exact ⟨by decide, fun _ => ⟨tx, [], by simp [tex], token_of g0 g1, rfl⟩⟩⟩
    · cases hx : tkb x with
      | true => refine ⟨by simp [nxt, sc, nx2_tok hx, up, wd, tex, fls, h58], ?_⟩
                rw [nx2_tok hx]
                refine ⟨by decide, fun _ => ?_⟩
                exact ⟨by simp [tex], by simp only [tex]; exact every_snoc g1 hx⟩
      | false => exact absurd (nx2_no hx h58) h
  · obtain ⟨n, u, rfl, g0, g1⟩ := ht
    by_cases h13 : x = 13
    · subst h13; exact ⟨by simp [nxt, sc, nx3_13, up, wd, tex, fls], by rw [nx3_13]; exact ⟨by decide, fun _ => ⟨n, u, by simp [tex], g0, g1⟩⟩⟩
    · cases hx : txb x with
      | true => refine ⟨by simp [nxt, sc, nx3_txt hx, up, wd, tex, fls, h13], ?_⟩
                rw [nx3_txt hx]
                refine ⟨by decide, fun _ => ?_⟩
                refine ⟨n, u ++ [x], by simp [tex], g0, ?_⟩
                rw [text_append, g1, text_cons, hx]; rfl
      | false => exact absurd (nx3_no hx h13) h
  · by_cases h10 : x = 10
    · subst h10; exact ⟨by simp [nxt, sc, nx4_10, up, wd, tex, fls], by rw [nx4_10]; exact ⟨by decide, fun _ => rfl⟩⟩
    · exact absurd (nx4_no h10) h
  · have htx : tx = [] := ht
    subst htx
    by_cases h10 : x = 10
    · subst h10; exact ⟨by simp [nxt, sc, nx5_10, up, wd, tex, fls], by rw [nx5_10]; exact ⟨by decide, fun h => absurd rfl h⟩⟩
    · exact absurd (nx5_no h10) h

theorem tok_every13 {n : List UInt8} (h : token n = true) : ∀ b ∈ n, b ≠ 13 := by
  unfold token every at h
  rw [Bool.and_eq_true] at h
  intro b hb
  exact (tok_ne (List.all_eq_true.1 h.2 b hb)).2.1
theorem text_every13 {n : List UInt8} (h : text n = true) : ∀ b ∈ n, b ≠ 13 := by
  unfold text every at h
  intro b hb
  exact (txt_ne (List.all_eq_true.1 h b hb)).1
/-- The fields, byte by byte. -/
theorem sec_fields {q : Nat} {tx : List UInt8} {fs : List Fld} (x : UInt8) (t : List UInt8) (hq : 1 ≤ q ∧ q ≤ 5) (h : nx q x ≠ 0) (h6 : nx q x ≠ 6) (ht : Tx q tx) :
    fls q tx fs ++ fof ((if nx q x = 5 then [13] else tex q tx x) ++ t) = fs ++ fof ((if q = 5 then [13] else tx) ++ x :: t) := by
  obtain ⟨h1, h2⟩ := hq
  have hh : q = 1 ∨ q = 2 ∨ q = 3 ∨ q = 4 ∨ q = 5 := by omega
  rcases hh with rfl | rfl | rfl | rfl | rfl
  · have htx : tx = [] := ht
    subst htx
    by_cases h13 : x = 13
    · subst h13; simp [nx1_13, fls]
    · cases hx : tkb x with
      | true => simp [nx1_tok hx, fls, tex, h13]
      | false => exact absurd (nx1_no hx h13) h
  · by_cases h58 : x = 58
    · subst h58; simp [nx2_58, fls, tex]
    · cases hx : tkb x with
      | true => simp [nx2_tok hx, fls, tex]
      | false => exact absurd (nx2_no hx h58) h
  · by_cases h13 : x = 13
    · subst h13; simp [nx3_13, fls, tex]
    · cases hx : txb x with
      | true => simp [nx3_txt hx, fls, tex]
      | false => exact absurd (nx3_no hx h13) h
  · obtain ⟨n, u, rfl, g0, g1⟩ := ht
    by_cases h10 : x = 10
    · subst h10
      have hne : ∀ b ∈ n ++ 58 :: u, b ≠ 13 := by
        intro b hb
        rcases List.mem_append.1 hb with hb | hb
        · exact tok_every13 g0 b hb
        · rcases List.mem_cons.1 hb with rfl | hb
          · decide
          · exact text_every13 g1 b hb
      have hg : good (arr (n ++ 58 :: u)) = true := good_of (arr_list _) g0 g1
      have e1 : (n ++ 58 :: u ++ [13]).dropLast = n ++ 58 :: u := List.dropLast_concat
      have hl : (n ++ 58 :: u).length ≠ 0 := by simp
      generalize n ++ 58 :: u = y at *
      rw [nx4_10, if_neg (by decide), if_neg (by decide)]
      simp only [fls, tex, if_true, true_or, List.nil_append, e1, lf, hg]
      rw [show y ++ [13] ++ 10 :: t = y ++ 13 :: 10 :: t by simp, fof_some (eol_line hne t) hl, List.take_left]
      rw [show y ++ 13 :: 10 :: t = (y ++ [13, 10]) ++ t by simp, show y.length + 2 = (y ++ [13, 10]).length by simp, List.drop_left]
      simp
    · exact absurd (nx4_no h10) h
  · by_cases h10 : x = 10
    · subst h10; exact absurd nx5_10 h6
    · exact absurd (nx5_no h10) h

/-- A section, byte by byte, is what layer 6 says, up to the first byte that is beyond the limits. -/
theorem go_sec {l : Lim} {D : List UInt8} {c : Nat} (t : List UInt8) : ∀ (q a b i : Nat) (tx : List UInt8) (fs : List Fld), 1 ≤ q ∧ q ≤ 5 → Tx q tx →
    (lp l q a b (t.take (run q t).1) < (run q t).1 → ∃ s', go l (sc D c q a b tx fs) t i = (s', i + lp l q a b (t.take (run q t).1), 5) ∧ s'.data = D) ∧
    (¬ lp l q a b (t.take (run q t).1) < (run q t).1 → ∃ s', go l (sc D c q a b tx fs) t i = (s', i + (run q t).1, (run q t).2) ∧ s'.data = D ∧ ((run q t).2 = 0 → s'.fields = fs ++ fof ((if q = 5 then [13] else tx) ++ t))) := by
  induction t with
  | nil =>
    intro q a b i tx fs hq ht
    refine ⟨fun h => by simp [run, lp] at h, fun _ => ⟨_, rfl, rfl, fun h => by simp [run] at h⟩⟩
  | cons x t ih =>
    intro q a b i tx fs hq ht
    by_cases h0 : nx q x = 0
    · rw [run_bad h0]
      refine ⟨fun h => by simp at h, fun _ => ⟨sc D c q a b tx fs, ?_, rfl, fun h => by simp at h⟩⟩
      exact go_bad (by rw [sec_er x hq, if_pos h0]) (by decide)
    · cases hl : lim l q a b x with
      | true =>
        have hpos : 0 < (run q (x :: t)).1 := by
          by_cases h6 : nx q x = 6
          · rw [run_end h6]; decide
          · rw [run_step rfl h0 h6]; simp
        obtain ⟨m, hm⟩ : ∃ m, (run q (x :: t)).1 = m + 1 := ⟨(run q (x :: t)).1 - 1, by omega⟩
        rw [hm, List.take_succ_cons, lp_no hl]
        refine ⟨fun _ => ⟨sc D c q a b tx fs, ?_, rfl⟩, fun h => absurd (Nat.succ_pos m) h⟩
        exact go_bad (by rw [sec_er x hq, if_neg h0, if_pos hl]) (by decide)
      | false =>
        have e0 : er l (sc D c q a b tx fs) x = 0 := by rw [sec_er x hq, if_neg h0, hl]; rfl
        obtain ⟨e1, e2, e3⟩ := sec_nxt (D := D) (c := c) (a := a) (b := b) (fs := fs) x hq h0 ht
        by_cases h6 : nx q x = 6
        · rw [run_end h6]
          have hq5 : q = 5 := by
            have := hq.1; have := hq.2
            have hh : q = 1 ∨ q = 2 ∨ q = 3 ∨ q = 4 ∨ q = 5 := by omega
            unfold nx at h6
            rcases hh with rfl | rfl | rfl | rfl | rfl <;> first | rfl | (exfalso; revert h6; (repeat' split) <;> simp_all)
          subst hq5
          have hx : x = 10 := by
            by_cases h10 : x = 10
            · exact h10
            · exact absurd (nx5_no h10) h0
          subst hx
          rw [List.take_succ_cons, lp_yes hl]
          refine ⟨fun h => by simp [lp] at h, fun _ => ⟨_, go_last e0 e1 (by rw [h6]; rfl), rfl, fun _ => ?_⟩⟩
          have htx : tx = [] := ht
          subst htx
          show fls 5 [] fs = fs ++ fof ([13] ++ 10 :: t)
          rw [show [13] ++ 10 :: t = 13 :: 10 :: t from rfl, fof_last (eol_hit t)]
          simp [fls]
        · rw [run_step rfl h0 h6]
          simp only
          rw [List.take_succ_cons, lp_yes hl]
          have hp : (sc D c (nx q x) (up q a x) (wd q b x) (tex q tx x) (fls q tx fs)).place ≠ 11 := by show 5 + nx q x ≠ 11; omega
          rw [go_step e0 e1 hp]
          obtain ⟨i1, i2⟩ := ih (nx q x) (up q a x) (wd q b x) (i + 1) (tex q tx x) (fls q tx fs) ⟨by omega, by omega⟩ (e3 h6)
          refine ⟨fun h => ?_, fun h => ?_⟩
          · obtain ⟨s', j1, j2⟩ := i1 (by omega)
            exact ⟨s', by rw [j1]; congr 2; omega, j2⟩
          · obtain ⟨s', j1, j2, j3⟩ := i2 (by omega)
            refine ⟨s', by rw [j1]; congr 2; omega, j2, fun h0' => ?_⟩
            rw [j3 h0', sec_fields x t hq h0 h6 ht]

theorem run_whole (q : Nat) (l : List UInt8) (h : (run q l).2 = 0) : run q (l.take (run q l).1) = run q l := by
  induction l generalizing q with
  | nil => simp [run] at h
  | cons b l ih =>
    by_cases z0 : nx q b = 0
    · rw [run_bad z0] at h; simp at h
    · by_cases z6 : nx q b = 6
      · rw [run_end z6, List.take_succ_cons, run_end z6]
      · have h' := h
        rw [run_step rfl z0 z6] at h'
        rw [run_step (l := l) rfl z0 z6]
        simp only at h' ⊢
        rw [List.take_succ_cons, run_step rfl z0 z6, ih _ h']
/-- It goes on so far, or is a whole one. -/
def Sound (q : Nat) (t : List UInt8) : Prop := run q t = (t.length, 4) ∨ run q t = (t.length, 0)
theorem sound_take (q : Nat) (t : List UInt8) : Sound q (t.take (run q t).1) := by
  have hk := run_kind q t
  have hl : (t.take (run q t).1).length = (run q t).1 := by rw [List.length_take]; omega
  by_cases h : (run q t).2 = 0
  · right
    rw [run_whole q t h, hl, ← h]
  · left
    rw [run_cut q t _ (Nat.le_refl _) (fun e => absurd e h), hl]

/-- What is told byte by byte never goes farther than the limits say. -/
theorem lp_len {l : Lim} (t : List UInt8) : ∀ (q a b : Nat), 1 ≤ q ∧ q ≤ 5 → run q t = (t.length, 4) → lp l q a b t = t.length → b ≤ l.bytes → (q = 5 → t = []) ∧ b + t.length ≤ l.bytes + 1 := by
  induction t with
  | nil => intro q a b _ _ _ hb; exact ⟨fun _ => rfl, by simp; omega⟩
  | cons x t ih =>
    intro q a b hq hr hl hb
    have h0 : nx q x ≠ 0 := by intro h; rw [run_bad h] at hr; simp at hr
    have h6 : nx q x ≠ 6 := by intro h; rw [run_end h] at hr; simp at hr
    rw [run_step rfl h0 h6] at hr
    simp only [List.length_cons, Prod.mk.injEq] at hr
    have hr' : run (nx q x) t = (t.length, 4) := by rw [← hr.2, show t.length = (run (nx q x) t).1 by omega]
    cases hli : lim l q a b x with
    | true => rw [lp_no hli] at hl; simp at hl
    | false =>
      rw [lp_yes hli] at hl
      simp only [List.length_cons] at hl ⊢
      have hn : 1 ≤ nx q x ∧ nx q x ≤ 5 := by
        have : nx q x ≤ 6 := by unfold nx; (repeat' split) <;> omega
        omega
      have q5 : q ≠ 5 := by
        rintro rfl
        by_cases h10 : x = 10
        · subst h10; exact h6 nx5_10
        · exact h0 (nx5_no h10)
      refine ⟨fun h => absurd h q5, ?_⟩
      by_cases h13 : q = 1 ∧ x = 13
      · obtain ⟨rfl, rfl⟩ := h13
        have := ih 5 (up 1 a 13) (wd 1 b 13) ⟨by decide, by decide⟩ (by rw [nx1_13] at hr'; exact hr') (by rw [nx1_13] at hl; omega) (by simp [wd]; exact hb)
        rw [this.1 rfl]; simp; omega
      · have hb' : b < l.bytes := by
          simp [lim, q5, h13] at hli
          omega
        have hw : wd q b x = b + 1 := by simp [wd, q5, h13]
        have := (ih (nx q x) (up q a x) (wd q b x) hn hr' (by omega) (by omega)).2
        omega

/-- A section of more bytes than the limit, and an end, has one among them that is beyond the limits. -/
theorem go_trunc {l : Lim} {D : List UInt8} {c i : Nat} (P : List UInt8) : go l (s6 D c) P i = go l (s6 D c) (P.take (l.bytes + 2)) i := by
  by_cases h : P.length ≤ l.bytes + 2
  · rw [List.take_of_length_le h]
  · have hl : (P.take (l.bytes + 2)).length = l.bytes + 2 := by rw [List.length_take]; omega
    conv => lhs; rw [← List.take_append_drop (l.bytes + 2) P]
    refine go_app _ _ _ _ _ ?_
    generalize P.take (l.bytes + 2) = t at *
    intro h4
    obtain ⟨i1, i2⟩ := go_sec (l := l) (D := D) (c := c) t 1 0 0 i [] [] ⟨by decide, by decide⟩ rfl
    by_cases hw : lp l 1 0 0 (t.take (run 1 t).1) < (run 1 t).1
    · obtain ⟨s', j, _⟩ := i1 hw
      rw [show s6 D c = sc D c 1 0 0 [] [] from rfl, j] at h4
      simp at h4
    · obtain ⟨s', j, _⟩ := i2 hw
      rw [show s6 D c = sc D c 1 0 0 [] [] from rfl, j] at h4
      have hk := run_kind 1 t
      simp only at h4
      have hm : (run 1 t).1 = t.length := by omega
      rw [hm, List.take_length] at hw
      have := lp_le l 1 0 0 t
      have := (lp_len (l := l) t 1 0 0 ⟨by decide, by decide⟩ (by rw [← h4, ← hm]) (by omega) (Nat.zero_le _)).2
      omega

/-- Bytes of a line, up to its end. -/
theorem lim_line {l : Lim} {q a b : Nat} {x : UInt8} (h5 : q ≠ 5) (h1 : q ≠ 1) : lim l q a b x = decide (l.bytes ≤ b) := by simp [lim, h5, h1]
theorem lp_mid {l : Lim} {q a b : Nat} {x : UInt8} {t : List UInt8} (h5 : q ≠ 5) (h1 : q ≠ 1) : lp l q a b (x :: t) = if l.bytes ≤ b then 0 else lp l (nx q x) a (b + 1) t + 1 := by
  by_cases hb : l.bytes ≤ b
  · rw [if_pos hb, lp_no (by rw [lim_line h5 h1]; exact decide_eq_true hb)]
  · rw [if_neg hb, lp_yes (by rw [lim_line h5 h1]; exact decide_eq_false hb), show up q a x = a by simp [up, h1], show wd q b x = b + 1 by simp [wd, h5, h1]]
theorem sound_step {q : Nat} {x : UInt8} {t : List UInt8} (h : Sound q (x :: t)) : nx q x ≠ 0 ∧ (nx q x = 6 → t = []) ∧ (nx q x ≠ 6 → Sound (nx q x) t) := by
  have h0 : nx q x ≠ 0 := by intro e; unfold Sound at h; rw [run_bad e] at h; simp at h
  refine ⟨h0, fun e => ?_, fun e => ?_⟩
  · unfold Sound at h; rw [run_end e] at h; simp at h; exact h
  · unfold Sound at h ⊢
    rw [run_step rfl h0 e] at h
    simp only [List.length_cons, Prod.mk.injEq] at h
    rcases h with ⟨h1, h2⟩ | ⟨h1, h2⟩
    · left; rw [← h2, show t.length = (run (nx q x) t).1 by omega]
    · right; rw [← h2, show t.length = (run (nx q x) t).1 by omega]
theorem lpB {l : Lim} (t : List UInt8) : ∀ (a b : Nat), Sound 3 t → b ≤ l.bytes →
    lp l 3 a b t = match eol t with | none => min t.length (l.bytes - b) | some k => if l.bytes < b + k + 2 then l.bytes - b else k + 2 + lp l 1 a (b + k + 2) (t.drop (k + 2)) := by
  induction t with
  | nil => intro a b _ _; simp [lp, eol]
  | cons x t ih =>
    intro a b hs hb
    obtain ⟨h0, h6, hs'⟩ := sound_step hs
    rw [lp_mid (by decide) (by decide)]
    by_cases h13 : x = 13
    · subst h13
      rw [nx3_13] at h0 h6 hs' ⊢
      have hs4 := hs' (by decide)
      cases t with
      | nil =>
        rw [show eol [13] = none by decide]
        simp only [lp, List.length_cons, List.length_nil]
        rw [Nat.min_def]
        (repeat' split) <;> omega
      | cons y t =>
        obtain ⟨g0, g6, gs⟩ := sound_step hs4
        have hy : y = 10 := by
          by_cases h10 : y = 10
          · exact h10
          · exact absurd (nx4_no h10) g0
        subst hy
        rw [eol_hit, lp_mid (by decide) (by decide), nx4_10]
        simp only [List.drop_succ_cons, List.drop_zero]
        by_cases c1 : l.bytes ≤ b
        · rw [if_pos c1, if_pos (by omega)]; omega
        · rw [if_neg c1]
          by_cases c2 : l.bytes ≤ b + 1
          · rw [if_pos c2, if_pos (by omega)]; omega
          · rw [if_neg c2, if_neg (by omega), show b + 1 + 1 = b + 0 + 2 by omega]; omega
    · cases hx : txb x with
      | false => exact absurd (nx3_no hx h13) h0
      | true =>
        rw [nx3_txt hx] at hs' ⊢
        have hs3 := hs' (by decide)
        rw [eol_free h13]
        by_cases c1 : l.bytes ≤ b
        · rw [if_pos c1]
          cases he : eol t with
          | none => simp only [Option.map_none, List.length_cons]; rw [Nat.min_def]; split <;> omega
          | some k => simp only [Option.map_some]; rw [if_pos (by omega)]; omega
        · rw [if_neg c1, ih a (b + 1) hs3 (by omega)]
          cases he : eol t with
          | none => simp only [Option.map_none, List.length_cons]; rw [Nat.min_def, Nat.min_def]; (repeat' split) <;> omega
          | some k =>
            simp only [Option.map_some]
            by_cases c2 : l.bytes < b + 1 + k + 2
            · rw [if_pos c2, if_pos (by omega)]; omega
            · rw [if_neg c2, if_neg (by omega), show k + 1 + 2 = (k + 2) + 1 by omega, List.drop_succ_cons, show b + 1 + k + 2 = b + (k + 1) + 2 by omega]; omega
theorem lpA {l : Lim} (t : List UInt8) : ∀ (a b : Nat), Sound 2 t → b ≤ l.bytes →
    lp l 2 a b t = match eol t with | none => min t.length (l.bytes - b) | some k => if l.bytes < b + k + 2 then l.bytes - b else k + 2 + lp l 1 a (b + k + 2) (t.drop (k + 2)) := by
  induction t with
  | nil => intro a b _ _; simp [lp, eol]
  | cons x t ih =>
    intro a b hs hb
    obtain ⟨h0, h6, hs'⟩ := sound_step hs
    rw [lp_mid (by decide) (by decide)]
    have fin : ∀ q, q = 2 ∨ q = 3 → nx 2 x = q → x ≠ 13 → (∀ a b, b ≤ l.bytes → lp l q a b t = match eol t with | none => min t.length (l.bytes - b) | some k => if l.bytes < b + k + 2 then l.bytes - b else k + 2 + lp l 1 a (b + k + 2) (t.drop (k + 2))) →
        (if l.bytes ≤ b then 0 else lp l (nx 2 x) a (b + 1) t + 1) = match eol (x :: t) with | none => min (x :: t).length (l.bytes - b) | some k => if l.bytes < b + k + 2 then l.bytes - b else k + 2 + lp l 1 a (b + k + 2) ((x :: t).drop (k + 2)) := by
      intro q _ hq h13 hi
      rw [hq, eol_free h13]
      by_cases c1 : l.bytes ≤ b
      · rw [if_pos c1]
        cases he : eol t with
        | none => simp only [Option.map_none, List.length_cons]; rw [Nat.min_def]; split <;> omega
        | some k => simp only [Option.map_some]; rw [if_pos (by omega)]; omega
      · rw [if_neg c1, hi a (b + 1) (by omega)]
        cases he : eol t with
        | none => simp only [Option.map_none, List.length_cons]; rw [Nat.min_def, Nat.min_def]; (repeat' split) <;> omega
        | some k =>
          simp only [Option.map_some]
          by_cases c2 : l.bytes < b + 1 + k + 2
          · rw [if_pos c2, if_pos (by omega)]; omega
          · rw [if_neg c2, if_neg (by omega), show k + 1 + 2 = (k + 2) + 1 by omega, List.drop_succ_cons, show b + 1 + k + 2 = b + (k + 1) + 2 by omega]; omega
    by_cases h58 : x = 58
    · subst h58
      have hs3 := hs' (by rw [nx2_58]; decide)
      rw [nx2_58] at hs3
      exact fin 3 (.inr rfl) nx2_58 (by decide) (fun a b hb => lpB t a b hs3 hb)
    · cases hx : tkb x with
      | false => exact absurd (nx2_no hx h58) h0
      | true =>
        have hs2 := hs' (by rw [nx2_tok hx]; decide)
        rw [nx2_tok hx] at hs2
        exact fin 2 (.inl rfl) (nx2_tok hx) (tok_ne hx).2.1 (fun a b hb => ih a b hs2 hb)

/-- As the lines say it. -/
def wi (l : Lim) (T : Nat) : Nat → List (Nat × List UInt8) → Nat
  | _, [] => T
  | a, (p, x) :: r => if x = [] ∨ x = [13] then T else if a = l.fields then p else if l.bytes < p + x.length + 2 then min l.bytes T else wi l T (a + 1) r
theorem eol_more {t : List UInt8} (h : eol t = none) : eol (t ++ [13, 10]) = some t.length := by
  induction t with
  | nil => rfl
  | cons b t ih =>
    unfold eol at h
    split at h
    · simp at h
    · rename_i hb
      have h' : eol t = none := by simpa using h
      rw [List.cons_append]
      unfold eol
      rw [if_neg, ih h']
      · simp
      · rintro ⟨h1, h2⟩
        cases t with
        | nil => simp at h2
        | cons c t => exact hb ⟨h1, by simpa using h2⟩
theorem eol_app {t : List UInt8} {k : Nat} (h : eol t = some k) (y : List UInt8) : eol (t ++ y) = some k := by
  have hle := eol_le h
  induction t generalizing k with
  | nil => simp [eol] at h
  | cons b t ih =>
    unfold eol at h
    rw [List.cons_append]
    unfold eol
    split at h
    · rename_i hb
      rw [if_pos ⟨hb.1, by cases t with
        | nil => simp at hb
        | cons c t => simpa using hb.2⟩]
      exact h
    · rename_i hb
      cases he : eol t with
      | none => simp [he] at h
      | some j =>
        rw [he] at h
        have hj := eol_le he
        rw [if_neg, ih he hj]
        · exact h
        · rintro ⟨h1, h2⟩
          cases t with
          | nil => simp [eol] at he
          | cons c t => exact hb ⟨h1, by simpa using h2⟩
theorem sound_line {b : UInt8} {t : List UInt8} {k : Nat} (h13 : b ≠ 13) (hs : Sound 1 (b :: t)) (he : eol (b :: t) = some k) : 0 < k ∧ Sound 1 ((b :: t).drop (k + 2)) := by
  have hle := eol_le he
  rcases wrong_run b t h13 with ⟨w, _, h2⟩ | ⟨_, h2, _⟩ | ⟨_, j, h2, hj, _, hr⟩
  · unfold Sound at hs; rw [h2] at hs; simp at hs
  · rw [he] at h2; cases h2
  · rw [he] at h2
    cases h2
    refine ⟨hj, ?_⟩
    unfold Sound at hs ⊢
    rw [hr] at hs
    simp only [Prod.mk.injEq] at hs
    rw [List.length_drop]
    rcases hs with ⟨h1, h2⟩ | ⟨h1, h2⟩
    · left; rw [← h2, show (b :: t).length - (k + 2) = (run 1 ((b :: t).drop (k + 2))).1 by omega]
    · right; rw [← h2, show (b :: t).length - (k + 2) = (run 1 ((b :: t).drop (k + 2))).1 by omega]
theorem wi_lp {l : Lim} (n : Nat) : ∀ (t : List UInt8) (a p : Nat), t.length ≤ n → Sound 1 t → p ≤ l.bytes → a ≤ l.fields → wi l (p + t.length) a (lns p (t ++ [13, 10])) = p + lp l 1 a p t := by
  induction n with
  | zero =>
    intro t a p hn _ _ _
    obtain rfl : t = [] := List.eq_nil_of_length_eq_zero (by omega)
    rw [lns_last (t := [] ++ [13, 10]) rfl]
    simp [wi, lp]
  | succ n ih =>
    intro t a p hn hs hp ha
    cases t with
    | nil =>
      rw [lns_last (t := [] ++ [13, 10]) rfl]
      simp [wi, lp]
    | cons x t =>
      by_cases h13 : x = 13
      · subst h13
        obtain ⟨h0, h6, hs'⟩ := sound_step hs
        rw [nx1_13] at hs'
        have hs5 := hs' (by decide)
        rw [lp_yes (by simp [lim]), nx1_13]
        cases t with
        | nil =>
          have e : eol ([13] ++ [13, 10]) = some 1 := by decide
          rw [lns_some e (by decide)]
          simp [wi, lp]
        | cons y t =>
          obtain ⟨g0, g6, gs⟩ := sound_step hs5
          have hy : y = 10 := by
            by_cases h10 : y = 10
            · exact h10
            · exact absurd (nx5_no h10) g0
          subst hy
          obtain rfl := g6 nx5_10
          rw [lp_yes (by simp [lim]), lns_last (t := [13, 10] ++ [13, 10]) rfl]
          simp [wi, lp]
      · obtain ⟨h0, h6, hs'⟩ := sound_step hs
        have hx : tkb x = true := by
          cases hx : tkb x with
          | true => rfl
          | false => exact absurd (nx1_no hx h13) h0
        rw [nx1_tok hx] at hs'
        have hs2 := hs' (by decide)
        have hup : up 1 a x = a + 1 := by simp [up, h13]
        have hwd : wd 1 p x = p + 1 := by simp [wd, h13]
        have hne : ∀ k, 0 < k → ((x :: t).take k = [] ∨ (x :: t).take k = [13]) → False := by
          intro k hk h
          obtain ⟨k, rfl⟩ : ∃ j, k = j + 1 := ⟨k - 1, by omega⟩
          rw [List.take_succ_cons] at h
          simp [h13] at h
        have hlA := lpA (l := l) t (a + 1) (p + 1) hs2
        have hef := eol_free h13 t
        have line : ∀ (ln : List UInt8) (r : List (Nat × List UInt8)), ¬ (ln = [] ∨ ln = [13]) → wi l (p + (x :: t).length) a ((p, ln) :: r) = if a = l.fields then p else if l.bytes < p + ln.length + 2 then min l.bytes (p + (x :: t).length) else wi l (p + (x :: t).length) (a + 1) r := by
          intro ln r h
          conv => lhs; unfold wi
          rw [if_neg h]
        cases he : eol (x :: t) with
        | none =>
          have he' : eol t = none := by
            rw [he] at hef
            cases h : eol t with
            | none => rfl
            | some j => rw [h] at hef; cases hef
          rw [lns_some (eol_more he) (by simp), List.take_left, List.drop_eq_nil_of_le (by simp), lns_none (a := p + ((x :: t).length + 2)) (t := []) rfl]
          rw [line _ _ (by simp [h13])]
          simp only [wi]
          by_cases c1 : a = l.fields
          · rw [if_pos c1, lp_no (by simp [lim, h13, c1])]; rfl
          · rw [if_neg c1]
            by_cases c2 : l.bytes ≤ p
            · rw [lp_no (by simp [lim, h13, c2]), if_pos (by omega)]; simp; omega
            · rw [lp_yes (by simp [lim, h13]; omega), nx1_tok hx, hup, hwd, hlA (by omega), he']
              simp only [List.length_cons]
              by_cases c3 : l.bytes < p + (t.length + 1) + 2
              · rw [if_pos c3]; omega
              · rw [if_neg c3]; omega
        | some k =>
          obtain ⟨hk, hsd⟩ := sound_line h13 hs he
          have hle := eol_le he
          obtain ⟨j, rfl⟩ : ∃ j, k = j + 1 := ⟨k - 1, by omega⟩
          have he' : eol t = some j := by
            rw [he] at hef
            cases h : eol t with
            | none => rw [h] at hef; cases hef
            | some i => rw [h] at hef; simp at hef; subst hef; rfl
          have hlen : ((x :: t).take (j + 1)).length = j + 1 := by rw [List.length_take]; omega
          have hd : ((x :: t) ++ [13, 10]).drop (j + 1 + 2) = (x :: t).drop (j + 1 + 2) ++ [13, 10] := by rw [List.drop_append_of_le_length (by omega)]
          rw [lns_some (eol_app he _) (by omega), List.take_append_of_le_length (by omega), hd, line _ _ (hne _ hk), hlen]
          simp only [List.length_cons] at hle ⊢
          by_cases c1 : a = l.fields
          · rw [if_pos c1, lp_no (by simp [lim, h13, c1])]; rfl
          · rw [if_neg c1]
            by_cases c2 : l.bytes ≤ p
            · rw [lp_no (by simp [lim, h13, c2]), if_pos (by omega)]; omega
            · rw [lp_yes (by simp [lim, h13]; omega), nx1_tok hx, hup, hwd, hlA (by omega), he']
              simp only
              by_cases c3 : l.bytes < p + (j + 1) + 2
              · rw [if_pos c3, if_pos (by omega)]; omega
              · rw [if_neg c3, if_neg (by omega)]
                have hI := ih ((x :: t).drop (j + 1 + 2)) (a + 1) (p + (j + 1 + 2)) (by rw [List.length_drop]; simp only [List.length_cons] at hn ⊢; omega) hsd (by omega) (by omega)
                rw [List.length_drop, List.length_cons, show p + (j + 1 + 2) + (t.length + 1 - (j + 1 + 2)) = p + (t.length + 1) by omega] at hI
                rw [hI, show j + 1 + 2 = (j + 2) + 1 by omega, List.drop_succ_cons, show p + (j + 2 + 1) = p + 1 + j + 2 by omega]
                omega

/-- What the reader tells of a section: how many bytes, and what of it. -/
def secM (l : Lim) (P : List UInt8) : Nat := (run 1 (P.take (l.bytes + 2))).1
def secW (l : Lim) (P : List UInt8) : Nat := wi l (secM l P) 0 (lns 0 ((P.take (l.bytes + 2)).take (secM l P) ++ [13, 10]))
theorem sec_read {l : Lim} {D : List UInt8} {c i : Nat} (P : List UInt8) :
    secW l P ≤ secM l P ∧ (secW l P < secM l P → ∃ s', go l (s6 D c) P i = (s', i + secW l P, 5) ∧ s'.data = D) ∧
    (¬ secW l P < secM l P → ∃ s', go l (s6 D c) P i = (s', i + secM l P, (run 1 (P.take (l.bytes + 2))).2) ∧ s'.data = D ∧ ((run 1 (P.take (l.bytes + 2))).2 = 0 → s'.fields = fof (P.take (l.bytes + 2)))) := by
  rw [go_trunc]
  unfold secW secM
  generalize P.take (l.bytes + 2) = t
  have hk := run_kind 1 t
  have hl : (t.take (run 1 t).1).length = (run 1 t).1 := by rw [List.length_take]; omega
  have hw := wi_lp (l := l) _ (t.take (run 1 t).1) 0 0 (Nat.le_refl _) (sound_take 1 t) (Nat.zero_le _) (Nat.zero_le _)
  rw [hl, Nat.zero_add, Nat.zero_add] at hw
  rw [hw]
  obtain ⟨i1, i2⟩ := go_sec (l := l) (D := D) (c := c) t 1 0 0 i [] [] ⟨by decide, by decide⟩ rfl
  have := lp_le l 1 0 0 (t.take (run 1 t).1)
  refine ⟨by omega, i1, fun h => ?_⟩
  obtain ⟨s', j1, j2, j3⟩ := i2 h
  exact ⟨s', j1, j2, fun h => by simpa using j3 h⟩

end Bd
end Go.Proofs.YtjolpnjmelifbaaGreatDoor
