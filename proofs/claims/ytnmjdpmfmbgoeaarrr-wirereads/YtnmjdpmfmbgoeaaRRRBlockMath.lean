/- Plain words for layer 6: sections of fields: where a byte may stand, lines, what is put. -/
import Derived.Test.YtnmjdpmfmbgoeaaRRRFieldMath
import Derived.Lib.IndexMore
namespace Go.Proofs.YtnmjdpmfmbgoeaaRRR
namespace Bk
open Oc Fl

def tkb (b : UInt8) : Bool := tokB (b.toNat : Int)
def txb (b : UInt8) : Bool := txtB (b.toNat : Int)

/-- Where the byte behind b stands, if b stands at q. -/
def nx (q : Nat) (b : UInt8) : Nat :=
  if q = 1 ∧ b = 13 then 5 else if q = 2 ∧ b = 58 then 3 else if (q = 1 ∨ q = 2) ∧ tkb b = true then 2
  else if q = 3 ∧ b = 13 then 4 else if q = 3 ∧ txb b = true then 3 else if q = 4 ∧ b = 10 then 1 else if q = 5 ∧ b = 10 then 6 else 0

/-- How far a text goes on as a section, and what is told: 0 a whole one, 2 a wrong byte, 4 more may come. -/
def run : Nat → List UInt8 → Nat × Nat
  | _, [] => (0, 4)
  | q, b :: l => if nx q b = 0 then (0, 2) else if nx q b = 6 then (1, 0) else ((run (nx q b) l).1 + 1, (run (nx q b) l).2)

theorem run_step {q : Nat} {b : UInt8} {l : List UInt8} {q' : Nat} (h : nx q b = q') (h0 : q' ≠ 0) (h6 : q' ≠ 6) : run q (b :: l) = ((run q' l).1 + 1, (run q' l).2) := by
  subst h; simp [run, h0, h6]
theorem run_bad {q : Nat} {b : UInt8} {l : List UInt8} (h : nx q b = 0) : run q (b :: l) = (0, 2) := by simp [run, h]
theorem run_end {q : Nat} {b : UInt8} {l : List UInt8} (h : nx q b = 6) : run q (b :: l) = (1, 0) := by simp [run, h]

theorem run_kind (q : Nat) (l : List UInt8) : (run q l).2 = 0 ∧ 0 < (run q l).1 ∧ (run q l).1 ≤ l.length ∨ (run q l).2 = 2 ∧ (run q l).1 < l.length ∨ (run q l).2 = 4 ∧ (run q l).1 = l.length := by
  induction l generalizing q with
  | nil => right; right; exact ⟨rfl, rfl⟩
  | cons b l ih =>
    by_cases h0 : nx q b = 0
    · rw [run_bad h0]; right; left; simp
    · by_cases h6 : nx q b = 6
      · rw [run_end h6]; left; simp
      · rw [run_step rfl h0 h6]
        have := ih (nx q b)
        simp only [List.length_cons]
        omega
/-- What has gone wrong, or come to its end, stays so, whatever follows. -/
theorem run_app (q : Nat) (l m : List UInt8) (h : (run q l).2 ≠ 4) : run q (l ++ m) = run q l := by
  induction l generalizing q with
  | nil => exact absurd rfl h
  | cons b l ih =>
    rw [List.cons_append]
    by_cases h0 : nx q b = 0
    · rw [run_bad h0, run_bad h0]
    · by_cases h6 : nx q b = 6
      · rw [run_end h6, run_end h6]
      · rw [run_step rfl h0 h6] at h ⊢
        rw [run_step rfl h0 h6, ih _ h]
/-- Cut short, it goes on so far. -/
theorem run_cut (q : Nat) (l : List UInt8) (k : Nat) (h : k ≤ (run q l).1) (h0 : (run q l).2 = 0 → k < (run q l).1) : run q (l.take k) = (k, 4) := by
  induction l generalizing q k with
  | nil => simp [run] at h; subst h; rfl
  | cons b l ih =>
    cases k with
    | zero => rfl
    | succ k =>
      rw [List.take_succ_cons]
      by_cases z0 : nx q b = 0
      · rw [run_bad z0] at h; simp at h
      · by_cases z6 : nx q b = 6
        · rw [run_end z6] at h h0; simp at h0
        · rw [run_step rfl z0 z6] at h h0 ⊢
          simp only at h h0
          rw [ih (nx q b) k (by omega) (by intro e; have := h0 e; omega)]
theorem run_wrong (q : Nat) (l : List UInt8) (h : (run q l).2 = 2) : run q (l.take ((run q l).1 + 1)) = run q l := by
  induction l generalizing q with
  | nil => simp [run] at h
  | cons b l ih =>
    rw [List.take_succ_cons]
    by_cases z0 : nx q b = 0
    · rw [run_bad z0, run_bad z0]
    · by_cases z6 : nx q b = 6
      · rw [run_end z6] at h; simp at h
      · have h' := h
        rw [run_step rfl z0 z6] at h'
        rw [run_step (l := l) rfl z0 z6]
        simp only at h' ⊢
        rw [run_step rfl z0 z6, ih _ h']

theorem tok_ne {b : UInt8} (h : tkb b = true) : b ≠ 58 ∧ b ≠ 13 ∧ b ≠ 10 := by
  refine ⟨?_, ?_, ?_⟩ <;> (rintro rfl; revert h; decide)
theorem txt_ne {b : UInt8} (h : txb b = true) : b ≠ 13 ∧ b ≠ 10 := by
  refine ⟨?_, ?_⟩ <;> (rintro rfl; revert h; decide)
theorem nx1_13 : nx 1 13 = 5 := by decide
theorem nx1_tok {b : UInt8} (h : tkb b = true) : nx 1 b = 2 := by have := (tok_ne h).2.1; simp [nx, h, this]
theorem nx1_no {b : UInt8} (h : tkb b = false) (h13 : b ≠ 13) : nx 1 b = 0 := by simp [nx, h, h13]
theorem nx2_58 : nx 2 58 = 3 := by decide
theorem nx2_tok {b : UInt8} (h : tkb b = true) : nx 2 b = 2 := by have := (tok_ne h).1; simp [nx, h, this]
theorem nx2_no {b : UInt8} (h : tkb b = false) (h58 : b ≠ 58) : nx 2 b = 0 := by simp [nx, h, h58]
theorem nx3_13 : nx 3 13 = 4 := by decide
theorem nx3_txt {b : UInt8} (h : txb b = true) : nx 3 b = 3 := by have := (txt_ne h).1; simp [nx, h, this]
theorem nx3_no {b : UInt8} (h : txb b = false) (h13 : b ≠ 13) : nx 3 b = 0 := by simp [nx, h, h13]
theorem nx4_10 : nx 4 10 = 1 := by decide
theorem nx4_no {b : UInt8} (h : b ≠ 10) : nx 4 b = 0 := by simp [nx, h]
theorem nx5_10 : nx 5 10 = 6 := by decide
theorem nx5_no {b : UInt8} (h : b ≠ 10) : nx 5 b = 0 := by simp [nx, h]

/-- Where the first D with an A behind it stands. -/
def eol : List UInt8 → Option Nat
  | [] => none
  | b :: l => if b = 13 ∧ l.head? = some 10 then some 0 else (eol l).map (· + 1)
theorem eol_free {b : UInt8} (h : b ≠ 13) (l : List UInt8) : eol (b :: l) = (eol l).map (· + 1) := by simp [eol, h]
theorem eol_hit (l : List UInt8) : eol (13 :: 10 :: l) = some 0 := by simp [eol]
theorem eol_le {l : List UInt8} {k : Nat} (h : eol l = some k) : k + 2 ≤ l.length := by
  induction l generalizing k with
  | nil => simp [eol] at h
  | cons b l ih =>
    unfold eol at h
    by_cases hb : b = 13 ∧ l.head? = some 10
    · rw [if_pos hb] at h
      simp at h; subst h
      cases l with
      | nil => simp at hb
      | cons c l => simp
    · rw [if_neg hb] at h
      cases he : eol l with
      | none => simp [he] at h
      | some j => simp [he] at h; have := ih he; simp; omega
theorem eol_take {l : List UInt8} {k : Nat} (h : eol l = some k) (m : Nat) (hm : k + 2 ≤ m) : eol (l.take m) = some k := by
  induction l generalizing k m with
  | nil => simp [eol] at h
  | cons b l ih =>
    obtain ⟨m, rfl⟩ : ∃ n, m = n + 1 := ⟨m - 1, by omega⟩
    rw [List.take_succ_cons]
    unfold eol at h ⊢
    by_cases hb : b = 13 ∧ l.head? = some 10
    · rw [if_pos hb] at h
      simp at h; subst h
      rw [if_pos ⟨hb.1, by rw [List.head?_take, if_neg (by omega)]; exact hb.2⟩]
    · rw [if_neg hb] at h
      cases he : eol l with
      | none => simp [he] at h
      | some j =>
        simp [he] at h
        rw [if_neg, ih he m (by omega)]
        · simp [h]
        · rintro ⟨h1, h2⟩
          rw [List.head?_take, if_neg (by omega)] at h2
          exact hb ⟨h1, h2⟩
theorem eol_line {x : List UInt8} (h : ∀ b ∈ x, b ≠ 13) (y : List UInt8) : eol (x ++ 13 :: 10 :: y) = some x.length := by
  induction x with
  | nil => exact eol_hit y
  | cons b x ih =>
    rw [List.cons_append, eol_free (h b List.mem_cons_self), ih fun c hc => h c (List.mem_cons_of_mem _ hc)]
    rfl
theorem eol_drop (l : List UInt8) (i : Nat) (b : UInt8) (h : l[i]? = some b) (hn : ¬ (b = 13 ∧ l[i + 1]? = some 10)) : eol (l.drop i) = (eol (l.drop (i + 1))).map (· + 1) := by
  have hlt := (List.getElem?_eq_some_iff.1 h).1
  rw [List.drop_eq_getElem_cons hlt]
  have e : l[i] = b := (List.getElem?_eq_some_iff.1 h).2
  rw [e]
  conv => lhs; unfold eol
  rw [if_neg]
  rw [List.head?_drop]
  exact hn
theorem eol_drop_hit (l : List UInt8) (i : Nat) (h : l[i]? = some 13) (hn : l[i + 1]? = some 10) : eol (l.drop i) = some 0 := by
  have hlt := (List.getElem?_eq_some_iff.1 h).1
  rw [List.drop_eq_getElem_cons hlt]
  have e : l[i] = 13 := (List.getElem?_eq_some_iff.1 h).2
  rw [e]
  unfold eol
  rw [if_pos ⟨rfl, by rw [List.head?_drop]; exact hn⟩]
theorem eol_short {l : List UInt8} (h : l.length < 2) : eol l = none := by
  cases he : eol l with
  | none => rfl
  | some k => have := eol_le he; omega

/-- As the library tells it. -/
theorem index_eol (l : List UInt8) : Lib.index l [13, 10] = match eol l with | some k => (k : Int) | none => -1 := by
  induction l with
  | nil => rfl
  | cons b l ih =>
    unfold Lib.index eol
    have hp : ([13, 10] : List UInt8).isPrefixOf (b :: l) = decide (b = 13 ∧ l.head? = some 10) := by
      cases l with
      | nil => rw [Bool.eq_iff_iff]; simp [List.isPrefixOf]
      | cons c l => rw [Bool.eq_iff_iff]; simp [List.isPrefixOf]; exact ⟨fun ⟨a, b⟩ => ⟨a.symm, b.symm⟩, fun ⟨a, b⟩ => ⟨a.symm, b.symm⟩⟩
    rw [hp, ih]
    by_cases hb : b = 13 ∧ l.head? = some 10
    · simp only [hb, and_self, decide_true, if_true]; rfl
    · rw [decide_eq_false hb, if_neg hb]
      cases he : eol l with
      | none => simp
      | some k =>
        have : ((k : Int) == -1) = false := by rw [beq_eq_false_iff_ne]; omega
        simp [this]
theorem cut_eol (l : List UInt8) : Lib.cut l [13, 10] = match eol l with | some k => (l.take k, l.drop (k + 2), true) | none => (l, [], false) := by
  unfold Lib.cut
  rw [index_eol]
  cases he : eol l with
  | none => simp
  | some k => simp

/-- The first byte of a line's value that is wrong; of a line. -/
def wB : Nat → List UInt8 → Int
  | _, [] => -1
  | a, b :: l => if txb b = true then wB (a + 1) l else if b ≠ 13 then (a : Int) else match l with | [] => -1 | d :: _ => if d ≠ 10 then (a : Int) + 1 else -1
def wA : Nat → List UInt8 → Int
  | _, [] => -1
  | a, b :: l => if tkb b = true then wA (a + 1) l else if b ≠ 58 ∨ a = 0 then (a : Int) else wB (a + 1) l

theorem text_cons (b : UInt8) (l : List UInt8) : text (b :: l) = (txb b && text l) := by simp [text, every, txb]

/-- What a value's rest comes to. -/
theorem wB_run (l : List UInt8) (a : Nat) :
    (∃ w, wB a l = ((a + w : Nat) : Int) ∧ run 3 l = (w, 2)) ∨ (wB a l = -1 ∧ eol l = none ∧ run 3 l = (l.length, 4)) ∨
    (wB a l = -1 ∧ ∃ k, eol l = some k ∧ text (l.take k) = true ∧ run 3 l = (k + 2 + (run 1 (l.drop (k + 2))).1, (run 1 (l.drop (k + 2))).2)) := by
  induction l generalizing a with
  | nil => right; left; exact ⟨rfl, rfl, rfl⟩
  | cons b l ih =>
    cases hb : txb b with
    | true =>
      have e1 : wB a (b :: l) = wB (a + 1) l := by
        conv => lhs; unfold wB
        rw [if_pos hb]
      have e2 := eol_free (txt_ne hb).1 l
      have e3 := run_step (l := l) (nx3_txt hb) (by decide) (by decide)
      rw [e1, e2, e3]
      rcases ih (a + 1) with ⟨w, h1, h2⟩ | ⟨h1, h2, h3⟩ | ⟨h1, k, h2, h3, h4⟩
      · left; refine ⟨w + 1, by rw [h1]; congr 1; omega, by rw [h2]⟩
      · right; left; refine ⟨h1, by rw [h2]; rfl, by rw [h3]; rfl⟩
      · right; right; refine ⟨h1, k + 1, by rw [h2]; rfl, by rw [List.take_succ_cons, text_cons, hb, h3]; rfl, ?_⟩
        rw [h4]
        simp only [show k + 1 + 2 = (k + 2) + 1 by omega, List.drop_succ_cons]
        congr 1; omega
    | false =>
      by_cases h13 : b = 13
      · subst h13
        have e3 := run_step (l := l) nx3_13 (by decide) (by decide)
        rw [e3]
        cases l with
        | nil => right; left; exact ⟨by simp [wB, hb], by simp [eol], rfl⟩
        | cons d l =>
          by_cases hd : d = 10
          · subst hd
            right; right
            refine ⟨by simp [wB, hb], 0, eol_hit l, rfl, ?_⟩
            rw [run_step nx4_10 (by decide) (by decide)]
            simp; omega
          · left
            refine ⟨1, by simp [wB, hb, hd], ?_⟩
            rw [run_bad (nx4_no hd)]
      · left
        exact ⟨0, by simp [wB, hb, h13], run_bad (nx3_no hb h13)⟩
/-- What a name's rest comes to. -/
theorem wA_run (l : List UInt8) (a : Nat) (ha : a ≠ 0) :
    (∃ w, wA a l = ((a + w : Nat) : Int) ∧ run 2 l = (w, 2)) ∨ (wA a l = -1 ∧ eol l = none ∧ run 2 l = (l.length, 4)) ∨
    (wA a l = -1 ∧ ∃ k, eol l = some k ∧ (∃ x u, l.take k = x ++ 58 :: u ∧ every tokB x = true ∧ text u = true) ∧ run 2 l = (k + 2 + (run 1 (l.drop (k + 2))).1, (run 1 (l.drop (k + 2))).2)) := by
  induction l generalizing a with
  | nil => right; left; exact ⟨rfl, rfl, rfl⟩
  | cons b l ih =>
    cases hb : tkb b with
    | true =>
      have e1 : wA a (b :: l) = wA (a + 1) l := by
        conv => lhs; unfold wA
        rw [if_pos hb]
      have e2 := eol_free (tok_ne hb).2.1 l
      have e3 := run_step (l := l) (nx2_tok hb) (by decide) (by decide)
      rw [e1, e2, e3]
      rcases ih (a + 1) (by omega) with ⟨w, h1, h2⟩ | ⟨h1, h2, h3⟩ | ⟨h1, k, h2, ⟨x, u, hx, hx1, hu⟩, h4⟩
      · left; refine ⟨w + 1, by rw [h1]; congr 1; omega, by rw [h2]⟩
      · right; left; refine ⟨h1, by rw [h2]; rfl, by rw [h3]; rfl⟩
      · right; right; refine ⟨h1, k + 1, by rw [h2]; rfl, ⟨b :: x, u, by rw [List.take_succ_cons, hx]; rfl, ?_, hu⟩, ?_⟩
        · unfold every at hx1 ⊢; rw [List.all_cons, hx1, show tokB (b.toNat : Int) = true from hb]; rfl
        · rw [h4]
          simp only [show k + 1 + 2 = (k + 2) + 1 by omega, List.drop_succ_cons]
          congr 1; omega
    | false =>
      by_cases h58 : b = 58
      · subst h58
        have e1 : wA a (58 :: l) = wB (a + 1) l := by
          conv => lhs; unfold wA
          rw [if_neg (by rw [hb]; decide), if_neg (by simp [ha])]
        have e2 := eol_free (show (58 : UInt8) ≠ 13 by decide) l
        have e3 := run_step (l := l) nx2_58 (by decide) (by decide)
        rw [e1, e2, e3]
        rcases wB_run l (a + 1) with ⟨w, h1, h2⟩ | ⟨h1, h2, h3⟩ | ⟨h1, k, h2, h3, h4⟩
        · left; refine ⟨w + 1, by rw [h1]; congr 1; omega, by rw [h2]⟩
        · right; left; refine ⟨h1, by rw [h2]; rfl, by rw [h3]; rfl⟩
        · right; right; refine ⟨h1, k + 1, by rw [h2]; rfl, ⟨[], l.take k, by rw [List.take_succ_cons]; rfl, rfl, h3⟩, ?_⟩
          rw [h4]
          simp only [show k + 1 + 2 = (k + 2) + 1 by omega, List.drop_succ_cons]
          congr 1; omega
      · left
        exact ⟨0, by simp [wA, hb, h58], run_bad (nx2_no hb h58)⟩
theorem good_of {s : ByteArray} {n u : List UInt8} (hs : s.data.toList = n ++ 58 :: u) (hn : token n = true) (hu : text u = true) : good s = true := by
  have ecol : col s = n.length := by unfold col; rw [hs]; exact token_col hn
  have e1 : (before s).data.toList = n := by rw [before_list, ecol, hs]; simp
  have e2 : (behind s).data.toList = u := by
    rw [behind_list, ecol, hs, show n.length + 1 = (n ++ [58]).length by simp, show n ++ 58 :: u = (n ++ [58]) ++ u by simp]
    exact List.drop_left
  have e3 : s.size = n.length + (u.length + 1) := by rw [← blen' s, hs]; simp
  unfold good
  rw [e1, e2, hn, hu, decide_eq_true (by omega)]; rfl
/-- A text as an array. -/
def arr (l : List UInt8) : ByteArray := ⟨l.toArray⟩
theorem arr_list (l : List UInt8) : (arr l).data.toList = l := by simp [arr]
theorem arr_size (l : List UInt8) : (arr l).size = l.length := by rw [← blen', arr_list]
theorem arr_of (s : ByteArray) : arr s.data.toList = s := b_ext (arr_list _)
theorem arr_empty {l : List UInt8} : arr l = ⟨#[]⟩ ↔ l = [] := ⟨fun h => by have := congrArg (fun x : ByteArray => x.data.toList) h; simpa [arr_list] using this, fun h => by rw [h]; rfl⟩

/-- What a line comes to. -/
theorem wrong_run (b : UInt8) (l : List UInt8) (h13 : b ≠ 13) :
    (∃ w : Nat, wA 0 (b :: l) = (w : Int) ∧ run 1 (b :: l) = (w, 2)) ∨ (wA 0 (b :: l) = -1 ∧ eol (b :: l) = none ∧ run 1 (b :: l) = ((b :: l).length, 4)) ∨
    (wA 0 (b :: l) = -1 ∧ ∃ k, eol (b :: l) = some k ∧ 0 < k ∧ good (arr ((b :: l).take k)) = true ∧ run 1 (b :: l) = (k + 2 + (run 1 ((b :: l).drop (k + 2))).1, (run 1 ((b :: l).drop (k + 2))).2)) := by
  cases hb : tkb b with
  | true =>
    have e1 : wA 0 (b :: l) = wA 1 l := by
        conv => lhs; unfold wA
        rw [if_pos hb]
    have e2 := eol_free h13 l
    have e3 := run_step (l := l) (nx1_tok hb) (by decide) (by decide)
    rw [e1, e2, e3]
    rcases wA_run l 1 (by decide) with ⟨w, h1, h2⟩ | ⟨h1, h2, h3⟩ | ⟨h1, k, h2, ⟨x, u, hx, hx1, hu⟩, h4⟩
    · left; refine ⟨w + 1, by rw [h1]; congr 1; omega, by rw [h2]⟩
    · right; left; refine ⟨h1, by rw [h2]; rfl, by rw [h3]; rfl⟩
    · right; right
      refine ⟨h1, k + 1, by rw [h2]; rfl, by omega, ?_, ?_⟩
      · refine good_of (n := b :: x) (u := u) (by rw [arr_list, List.take_succ_cons, hx]; rfl) ?_ hu
        unfold token every at *
        rw [List.all_cons, hx1, show tokB (b.toNat : Int) = true from hb]; rfl
      · rw [h4]
        simp only [show k + 1 + 2 = (k + 2) + 1 by omega, List.drop_succ_cons]
        congr 1; omega
  | false =>
    left
    exact ⟨0, by simp [wA, hb], run_bad (nx1_no hb h13)⟩
theorem run1_nil : run 1 [] = (0, 4) := rfl
theorem run1_one : run 1 [13] = (1, 4) := by decide
theorem run1_bad {b : UInt8} (l : List UInt8) (h : b ≠ 10) : run 1 (13 :: b :: l) = (1, 2) := by rw [run_step nx1_13 (by decide) (by decide), run_bad (nx5_no h)]
theorem run1_end (l : List UInt8) : run 1 (13 :: 10 :: l) = (2, 0) := by rw [run_step nx1_13 (by decide) (by decide), run_end nx5_10]

/-- The lines of a text, with their places, up to an empty one. -/
def lns (a : Nat) (t : List UInt8) : List (Nat × List UInt8) :=
  match h : eol t with
  | none => []
  | some k => (a, t.take k) :: if k = 0 then [] else lns (a + (k + 2)) (t.drop (k + 2))
  termination_by t.length
  decreasing_by have := eol_le h; simp; omega
theorem lns_none {a : Nat} {t : List UInt8} (h : eol t = none) : lns a t = [] := by unfold lns; split <;> simp_all
theorem lns_last {a : Nat} {t : List UInt8} (h : eol t = some 0) : lns a t = [(a, [])] := by
  unfold lns; split
  · simp_all
  · rename_i k hk; rw [h] at hk; cases hk; simp
theorem lns_some {a : Nat} {t : List UInt8} {k : Nat} (h : eol t = some k) (hk : k ≠ 0) : lns a t = (a, t.take k) :: lns (a + (k + 2)) (t.drop (k + 2)) := by
  conv => lhs; unfold lns
  split
  · simp_all
  · rename_i j hj; rw [h] at hj; cases hj; rw [if_neg hk]

/-- The fields of lines. -/
def fl (p : List (Nat × List UInt8)) : List Fld := (p.filter fun x => !x.2.isEmpty).map fun x => parsed (arr x.2)
/-- The fields of a text that is a section. -/
def fof (t : List UInt8) : List Fld := fl (lns 0 t)
theorem fl_cons (a : Nat) (x : List UInt8) (p : List (Nat × List UInt8)) : fl ((a, x) :: p) = (if x.isEmpty then [] else [parsed (arr x)]) ++ fl p := by
  unfold fl; rw [List.filter_cons]; cases hx : x.isEmpty <;> simp
theorem fl_append (p q : List (Nat × List UInt8)) : fl (p ++ q) = fl p ++ fl q := by simp [fl]
theorem take_ne {t : List UInt8} {k : Nat} (h : eol t = some k) (hk : k ≠ 0) : (t.take k).isEmpty = false := by
  have := eol_le h
  cases t with
  | nil => simp [eol] at h
  | cons b t => cases k with
    | zero => exact absurd rfl hk
    | succ k => rfl
theorem fl_lns (n : Nat) (t : List UInt8) (ht : t.length ≤ n) (a b : Nat) : fl (lns a t) = fl (lns b t) := by
  induction n generalizing t a b with
  | zero => have h : eol t = none := eol_short (by omega); rw [lns_none h, lns_none h]
  | succ n ih =>
    cases h : eol t with
    | none => rw [lns_none h, lns_none h]
    | some k =>
      by_cases hk : k = 0
      · subst hk; rw [lns_last h, lns_last h]; rfl
      · have := eol_le h
        rw [lns_some h hk, lns_some h hk, fl_cons, fl_cons, ih _ (by simp; omega) (a + (k + 2)) (b + (k + 2))]
theorem fof_last {t : List UInt8} (h : eol t = some 0) : fof t = [] := by unfold fof; rw [lns_last h]; rfl
theorem fof_some {t : List UInt8} {k : Nat} (h : eol t = some k) (hk : k ≠ 0) : fof t = parsed (arr (t.take k)) :: fof (t.drop (k + 2)) := by
  unfold fof
  rw [lns_some h hk, fl_cons, take_ne h hk, fl_lns _ _ (Nat.le_refl _) _ 0]; rfl

/-- Of a whole section the lines are those of the text that it begins; each is a field's. -/
theorem whole_lines (n : Nat) (t : List UInt8) (ht : t.length ≤ n) (h : (run 1 t).2 = 0) (a : Nat) :
    lns a (t.take (run 1 t).1) = lns a t ∧ (∀ x ∈ lns a t, x.2 = [] ∨ good (arr x.2) = true) ∧ (∀ x ∈ lns a t, x.2.length ≤ t.length) ∧ (lns a t).length ≤ t.length := by
  induction n generalizing t a with
  | zero => cases t with
    | nil => simp [run] at h
    | cons => simp at ht
  | succ n ih =>
    cases t with
    | nil => simp [run] at h
    | cons b l =>
      by_cases hb : b = 13
      · subst hb
        cases l with
        | nil => rw [run1_one] at h; simp at h
        | cons d l =>
          by_cases hd : d = 10
          · subst hd
            rw [run1_end, lns_last (eol_hit l), lns_last (t := List.take 2 (13 :: 10 :: l)) (eol_hit [])]
            simp
          · rw [run1_bad l hd] at h; simp at h
      · rcases wrong_run b l hb with ⟨w, _, h2⟩ | ⟨_, _, h3⟩ | ⟨_, k, he, hk, hg, hr⟩
        · rw [h2] at h; simp at h
        · rw [h3] at h; simp at h
        · rw [hr] at h ⊢
          simp only at h ⊢
          generalize b :: l = t at *
          have hle := eol_le he
          have hk0 : k ≠ 0 := by omega
          obtain ⟨i1, i2, i3, i4⟩ := ih (t.drop (k + 2)) (by simp; omega) h (a + (k + 2))
          have et : eol (t.take (k + 2 + (run 1 (t.drop (k + 2))).1)) = some k := eol_take he _ (by omega)
          refine ⟨?_, ?_, ?_, ?_⟩
          · rw [lns_some et hk0, lns_some he hk0, List.take_take, Nat.min_eq_left (by omega), List.drop_take, Nat.add_sub_cancel_left, i1]
          · rw [lns_some he hk0]
            intro x hx
            rcases List.mem_cons.1 hx with rfl | hx
            · exact .inr hg
            · exact i2 x hx
          · rw [lns_some he hk0]
            intro x hx
            rcases List.mem_cons.1 hx with rfl | hx
            · simp; omega
            · have := i3 x hx; simp at this; omega
          · rw [lns_some he hk0]
            simp at i4 ⊢; omega

/-- Fields' lines, each with its end. -/
def body (l : List Fld) : List UInt8 := l.flatMap fun f => (line f).data.toList ++ [13, 10]
/-- Their section. -/
def sec (l : List Fld) : List UInt8 := body l ++ [13, 10]
def rights (l : List Fld) : Bool := l.all right
theorem run_toks {x : List UInt8} (h : every tokB x = true) (y : List UInt8) : run 2 (x ++ y) = (x.length + (run 2 y).1, (run 2 y).2) := by
  induction x with
  | nil => simp
  | cons b x ih =>
    unfold every at h ih
    rw [List.all_cons, Bool.and_eq_true] at h
    rw [List.cons_append, run_step (nx2_tok h.1) (by decide) (by decide), ih h.2]
    simp; omega
theorem run_txts {x : List UInt8} (h : text x = true) (y : List UInt8) : run 3 (x ++ y) = (x.length + (run 3 y).1, (run 3 y).2) := by
  induction x with
  | nil => simp
  | cons b x ih =>
    rw [text_cons, Bool.and_eq_true] at h
    rw [List.cons_append, run_step (nx3_txt h.1) (by decide) (by decide), ih h.2]
    simp; omega
theorem line_text {f : Fld} (hr : right f = true) : ∃ u, (line f).data.toList = f.name.data.toList ++ 58 :: u ∧ text u = true := by
  refine ⟨_, line_list f, ?_⟩
  unfold right value at hr
  simp only [Bool.and_eq_true] at hr
  rw [text_append, text_append, hr.2.1]
  split <;> decide
theorem line_ne {f : Fld} (hr : right f = true) : ∀ b ∈ (line f).data.toList, b ≠ 13 := by
  obtain ⟨u, h1, h2⟩ := line_text hr
  rw [h1]
  unfold right token every at hr
  simp only [Bool.and_eq_true] at hr
  have ha := List.all_eq_true.1 hr.1.2
  unfold text every at h2
  have hc := List.all_eq_true.1 h2
  intro b hb
  rcases List.mem_append.1 hb with hb | hb
  · exact (tok_ne (ha b hb)).2.1
  · rcases List.mem_cons.1 hb with rfl | hb
    · decide
    · exact (txt_ne (hc b hb)).1
theorem line_pos (f : Fld) : (line f).data.toList.length ≠ 0 := by rw [line_list]; simp
theorem run_line {f : Fld} (hr : right f = true) (y : List UInt8) : run 1 ((line f).data.toList ++ 13 :: 10 :: y) = ((line f).data.toList.length + 2 + (run 1 y).1, (run 1 y).2) := by
  obtain ⟨u, h1, h2⟩ := line_text hr
  rw [h1]
  unfold right token at hr
  simp only [Bool.and_eq_true] at hr
  obtain ⟨⟨hn, hx⟩, _⟩ := hr
  cases hl : f.name.data.toList with
  | nil => rw [hl] at hn; simp at hn
  | cons b x =>
    rw [hl] at hx
    unfold every at hx
    rw [List.all_cons, Bool.and_eq_true] at hx
    rw [List.cons_append, List.cons_append, run_step (nx1_tok hx.1) (by decide) (by decide), List.append_assoc, run_toks hx.2, List.cons_append, run_step nx2_58 (by decide) (by decide), run_txts h2,
      run_step nx3_13 (by decide) (by decide), run_step nx4_10 (by decide) (by decide)]
    simp; omega
theorem body_cons (f : Fld) (l : List Fld) : body (f :: l) = (line f).data.toList ++ 13 :: 10 :: body l := by simp [body]
theorem body_snoc (l : List Fld) (f : Fld) : body (l ++ [f]) = body l ++ (line f).data.toList ++ [13, 10] := by simp [body]
theorem run_body {l : List Fld} (h : rights l = true) (y : List UInt8) : run 1 (body l ++ y) = ((body l).length + (run 1 y).1, (run 1 y).2) := by
  induction l with
  | nil => simp [body]
  | cons f l ih =>
    unfold rights at h ih
    rw [List.all_cons, Bool.and_eq_true] at h
    rw [body_cons, List.append_assoc, List.cons_append, List.cons_append, run_line h.1, ih h.2]
    simp; omega
theorem fof_body {l : List Fld} (h : rights l = true) (y : List UInt8) : fof (body l ++ y) = l ++ fof y := by
  induction l with
  | nil => simp [body]
  | cons f l ih =>
    unfold rights at h ih
    rw [List.all_cons, Bool.and_eq_true] at h
    rw [body_cons, List.append_assoc, List.cons_append, List.cons_append, fof_some (eol_line (line_ne h.1) _) (line_pos f)]
    rw [List.take_left, arr_of, (line_parse h.1).2]
    rw [show (line f).data.toList ++ 13 :: 10 :: (body l ++ y) = ((line f).data.toList ++ [13, 10]) ++ (body l ++ y) by simp,
      show (line f).data.toList.length + 2 = ((line f).data.toList ++ [13, 10]).length by simp, List.drop_left, ih h.2]
    rfl
/-- What is put is scanned as it was, whatever follows. -/
theorem run_sec {l : List Fld} (h : rights l = true) (y : List UInt8) : run 1 (sec l ++ y) = ((sec l).length, 0) := by
  unfold sec
  rw [List.append_assoc, run_body h, show [13, 10] ++ y = 13 :: 10 :: y from rfl, run1_end]
  simp
theorem fof_sec {l : List Fld} (h : rights l = true) (y : List UInt8) : fof (sec l ++ y) = l := by
  unfold sec
  rw [List.append_assoc, fof_body h, show [13, 10] ++ y = 13 :: 10 :: y from rfl, fof_last (eol_hit y)]
  simp
theorem body_len (l : List Fld) : (body l).length ≤ bulk l * 4 := by
  induction l with
  | nil => simp [body]
  | cons f l ih =>
    rw [body_cons, bulk]
    have := line_size f
    rw [← blen' (line f)] at this
    simp only [List.length_append, List.length_cons]
    omega
theorem sec_len (l : List Fld) : (sec l).length = (body l).length + 2 := by simp [sec]

end Bk
end Go.Proofs.YtnmjdpmfmbgoeaaRRR
