/- Plain words for layer 5: fields, their lines, lists of them. -/
import Derived.Test.YtnmjdpmfmbgoeaaRRROctetMath
import Derived.Lib.IndexLaws
namespace Go.Proofs.YtnmjdpmfmbgoeaaRRR
namespace Fl
open Oc

/-- A field. -/
structure Fld where
  name : ByteArray
  value : ByteArray
def right (f : Fld) : Bool := token f.name.data.toList && value f.value.data.toList
/-- A field's line. -/
def line (f : Fld) : ByteArray := if f.value.size = 0 then f.name ++ ⟨#[58]⟩ else f.name ++ ⟨#[58]⟩ ++ ⟨#[32]⟩ ++ f.value
/-- Where the first colon stands; the length, if there is none. -/
def col (s : ByteArray) : Nat := s.data.toList.findIdx (· == 58)
def before (s : ByteArray) : ByteArray := s.extract 0 (col s)
def behind (s : ByteArray) : ByteArray := s.extract (col s + 1) s.size
def good (s : ByteArray) : Bool := decide (col s < s.size) && token (before s).data.toList && text (behind s).data.toList
def parsed (s : ByteArray) : Fld := ⟨before s, ⟨(trim (behind s).data.toList).toArray⟩⟩
/-- Does the field have the name? -/
def has (name : ByteArray) (f : Fld) : Bool := alike f.name.data.toList name.data.toList
def get (l : List Fld) (name : ByteArray) : List ByteArray := (l.filter (has name)).map (·.value)
def hasAny (names : List ByteArray) (f : Fld) : Bool := names.any fun n => has n f
def without (l : List Fld) (names : List ByteArray) : List Fld := l.filter fun f => !hasAny names f

theorem blen' (s : ByteArray) : s.data.toList.length = s.size := by simp
theorem col_le (s : ByteArray) : col s ≤ s.size := by unfold col; rw [← blen' s]; exact List.findIdx_le_length
theorem col_at {s : ByteArray} (h : col s < s.size) : s[col s] = 58 := by
  have h2 : s.data.toList.findIdx (· == 58) < s.data.toList.length := by rw [blen']; exact h
  have := List.findIdx_getElem (p := (· == (58 : UInt8))) (xs := s.data.toList) (w := h2)
  simpa [col, ByteArray.getElem_eq_getElem_data] using this
theorem col_lt {s : ByteArray} {k : Nat} (hk : k < col s) (h : k < s.size) : ¬ s[k] = 58 := by
  have := List.not_of_lt_findIdx (p := (· == (58 : UInt8))) (xs := s.data.toList) (i := k) hk
  simpa [ByteArray.getElem_eq_getElem_data] using this
theorem col_le_of {s : ByteArray} {k : Nat} (h : k < s.size) (hc : s[k] = 58) : col s ≤ k := by
  refine Nat.not_lt.1 fun hh => col_lt hh h hc
theorem col_index (s : ByteArray) : Lib.indexByte s.data.toList 58 = if col s < s.size then (col s : Int) else -1 := by
  unfold col
  rw [← blen' s]
  generalize s.data.toList = l
  induction l with
  | nil => rfl
  | cons b l ih =>
    unfold Lib.indexByte
    rw [List.findIdx_cons, ih]
    by_cases hb : b = 58
    · subst hb; simp
    · have : (b == 58) = false := by simpa using hb
      rw [this]
      simp only [Bool.false_eq_true, if_false, cond_false, List.length_cons]
      by_cases h : l.findIdx (· == 58) < l.length
      · have h2 : l.findIdx (· == 58) + 1 < l.length + 1 := by omega
        rw [if_pos h, if_pos h2]
        have h3 : ((l.findIdx (· == 58) : Int) == -1) = false := by rw [beq_eq_false_iff_ne]; omega
        rw [h3]
        simp
      · have h2 : ¬ l.findIdx (· == 58) + 1 < l.length + 1 := by omega
        rw [if_neg h, if_neg h2]
        rfl
/-- As the library tells it. -/
def colI (s : ByteArray) : Int := if col s < s.size then (col s : Int) else -1
theorem colI_some {s : ByteArray} (h : col s < s.size) : colI s = (col s : Int) := if_pos h
theorem colI_none {s : ByteArray} (h : ¬ col s < s.size) : colI s = -1 := if_neg h
theorem before_list (s : ByteArray) : (before s).data.toList = s.data.toList.take (col s) := by
  simp [before, ByteArray.data_extract, List.extract_eq_take_drop]
theorem behind_list (s : ByteArray) : (behind s).data.toList = s.data.toList.drop (col s + 1) := by
  have : s.size = s.data.toList.length := (blen' s).symm
  simp only [behind, ByteArray.data_extract, Array.toList_extract, List.extract_eq_take_drop]
  rw [this, List.take_of_length_le]
  simp
theorem before_size (s : ByteArray) : (before s).size = col s := by
  rw [← blen', before_list, List.length_take, blen']; have := col_le s; omega
theorem behind_size (s : ByteArray) : (behind s).size = s.size - (col s + 1) := by
  rw [← blen', behind_list, List.length_drop, blen']

theorem b_ext {a b : ByteArray} (h : a.data.toList = b.data.toList) : a = b := by
  cases a; cases b; congr; exact Array.toList_inj.1 h
theorem text_trimL {l : List UInt8} (h : text l = true) : text (trimL l) = true := by
  unfold text every trimL at *
  rw [List.all_eq_true] at *
  exact fun x hx => h x ((List.dropWhile_suffix _).subset hx)
theorem text_trimR {l : List UInt8} (h : text l = true) : text (trimR l) = true := by
  unfold text every trimR at *
  rw [List.all_eq_true] at *
  intro x hx
  rw [List.mem_reverse] at hx
  exact h x (List.mem_reverse.1 ((List.dropWhile_suffix _).subset hx))
/-- What is parsed is right. -/
theorem parsed_right {s : ByteArray} (h : good s = true) : right (parsed s) = true := by
  unfold good at h
  simp only [Bool.and_eq_true, decide_eq_true_eq] at h
  unfold right parsed
  simp only [Bool.and_eq_true]
  refine ⟨h.1.2, ?_⟩
  show value (trim _) = true
  rw [value_trim]
  exact text_trimL (text_trimR h.2)
theorem trimL_blanks {b l : List UInt8} (hb : ∀ x ∈ b, blk x = true) : trimL (b ++ l) = trimL l := by
  induction b with
  | nil => rfl
  | cons x b ih =>
    rw [List.cons_append, trimL_cons, if_pos (hb x List.mem_cons_self), ih fun y hy => hb y (List.mem_cons_of_mem _ hy)]
theorem trimR_blanks {b : List UInt8} (l : List UInt8) (hb : ∀ x ∈ b, blk x = true) : trimR (l ++ b) = trimR l := by
  have e := trimL_blanks (b := b.reverse) (l := l.reverse) (fun x hx => hb x (List.mem_reverse.1 hx))
  unfold trimR
  rw [List.reverse_append]
  unfold trimL at e
  rw [e]
theorem trim_same {l : List UInt8} (h : (trim l).length = l.length) : trim l = l := by
  have h1 : trimR l = l := by
    have hp : trimR l <+: l := by
      unfold trimR
      have := List.dropWhile_suffix (l := l.reverse) blk
      rw [← List.reverse_suffix, List.reverse_reverse]
      exact this
    refine hp.eq_of_length ?_
    have a := trimL_le (trimR l)
    have b := trimR_le l
    unfold trim at h
    omega
  unfold trim at h ⊢
  rw [h1] at h ⊢
  have hp : trimL l <:+ l := List.dropWhile_suffix _
  exact hp.eq_of_length h
theorem blk_text {x : UInt8} (h : blk x = true) : txtB (x.toNat : Int) = true := by
  unfold blk blkB at h; unfold txtB
  simp at h ⊢
  omega
theorem blanks_text {b : List UInt8} (hb : ∀ x ∈ b, blk x = true) : text b = true := by
  unfold text every
  rw [List.all_eq_true]
  exact fun x hx => blk_text (hb x hx)
theorem tok_colon : tokB 58 = false := by decide
theorem token_col {n l : List UInt8} (h : token n = true) : (n ++ 58 :: l).findIdx (· == 58) = n.length := by
  unfold token every at h
  simp only [Bool.and_eq_true] at h
  have h2 := List.all_eq_true.1 h.2
  clear h
  induction n with
  | nil => simp [List.findIdx_cons]
  | cons x n ih =>
    rw [List.cons_append, List.findIdx_cons]
    have hx := h2 x List.mem_cons_self
    have : (x == 58) = false := by
      rw [beq_eq_false_iff_ne]
      rintro rfl
      revert hx
      decide
    rw [this]
    simp only [cond_false, List.length_cons]
    rw [ih fun y hy => h2 y (List.mem_cons_of_mem _ hy)]
/-- A line with blanks around the value is parsed as the field. -/
theorem parse_line {s : ByteArray} {f : Fld} (hr : right f = true) {b c : List UInt8} (hb : ∀ x ∈ b, blk x = true) (hc : ∀ x ∈ c, blk x = true)
    (hs : s.data.toList = f.name.data.toList ++ 58 :: (b ++ f.value.data.toList ++ c)) : good s = true ∧ parsed s = f := by
  unfold right at hr
  simp only [Bool.and_eq_true] at hr
  obtain ⟨hn, hv⟩ := hr
  have ecol : col s = f.name.data.toList.length := by unfold col; rw [hs]; exact token_col hn
  have elen : s.size = f.name.data.toList.length + 1 + (b.length + f.value.data.toList.length + c.length) := by
    rw [← blen' s, hs]; simp; omega
  have e1 : (before s).data.toList = f.name.data.toList := by rw [before_list, ecol, hs]; simp
  have e2 : (behind s).data.toList = b ++ f.value.data.toList ++ c := by
    rw [behind_list, ecol, hs]
    rw [show f.name.data.toList.length + 1 = (f.name.data.toList ++ [58]).length by simp]
    rw [show f.name.data.toList ++ 58 :: (b ++ f.value.data.toList ++ c) = (f.name.data.toList ++ [58]) ++ (b ++ f.value.data.toList ++ c) by simp]
    exact List.drop_left
  have hv' := hv
  unfold value at hv'
  simp only [Bool.and_eq_true] at hv'
  refine ⟨?_, ?_⟩
  · unfold good
    rw [e1, e2, hn]
    have : col s < s.size := by omega
    rw [text_append, text_append, blanks_text hb, blanks_text hc]
    simp [this, hv'.1]
  · unfold parsed
    have h3 : trim (behind s).data.toList = f.value.data.toList := by
      rw [e2]
      have h4 : trim (b ++ f.value.data.toList ++ c) = trim f.value.data.toList := by
        unfold trim
        rw [trimR_blanks _ hc]
        show trim (b ++ f.value.data.toList) = trim f.value.data.toList
        rw [← trim_turn, trimL_blanks hb, trim_turn]
      rw [h4]
      exact trim_same (of_decide_eq_true hv'.2)
    have h1 : before s = f.name := b_ext e1
    rw [h1, h3]

theorem line_list (f : Fld) : (line f).data.toList = f.name.data.toList ++ 58 :: ((if f.value.size = 0 then [] else [32]) ++ f.value.data.toList ++ []) := by
  unfold line
  by_cases h : f.value.size = 0
  · rw [if_pos h, if_pos h]
    have : f.value.data.toList = [] := List.eq_nil_of_length_eq_zero (by rw [blen']; exact h)
    rw [this]; simp
  · rw [if_neg h, if_neg h]; simp
theorem line_parse {f : Fld} (hr : right f = true) : good (line f) = true ∧ parsed (line f) = f :=
  parse_line hr (b := if f.value.size = 0 then [] else [32]) (c := []) (fun x hx => by split at hx <;> simp at hx; subst hx; decide) (fun x hx => by cases hx) (line_list f)
theorem line_size (f : Fld) : (line f).size ≤ f.name.size + f.value.size + 2 := by
  have := congrArg List.length (line_list f)
  rw [blen'] at this
  rw [this]
  simp only [List.length_append, List.length_cons, blen', List.append_nil]
  split <;> simp <;> omega

/-- How great fields are. -/
def bulk : List Fld → Nat
  | [] => 0
  | f :: l => f.name.size + f.value.size + 1 + bulk l
theorem bulk_len (l : List Fld) : l.length ≤ bulk l := by
  induction l with
  | nil => simp [bulk]
  | cons f l ih => simp only [bulk, List.length_cons]; omega
theorem bulk_mem {l : List Fld} {f : Fld} (h : f ∈ l) : f.name.size + f.value.size + 1 ≤ bulk l := by
  induction l with
  | nil => cases h
  | cons g l ih =>
    simp only [bulk]
    rcases List.mem_cons.1 h with rfl | h
    · omega
    · have := ih h; omega
theorem bulk_snoc (l : List Fld) (f : Fld) : bulk (l ++ [f]) = bulk l + (f.name.size + f.value.size + 1) := by
  induction l with
  | nil => simp [bulk]
  | cons g l ih => simp only [List.cons_append, bulk, ih]; omega
theorem bulk_append (l m : List Fld) : bulk (l ++ m) = bulk l + bulk m := by
  induction l with
  | nil => simp [bulk]
  | cons g l ih => simp only [List.cons_append, bulk, ih]; omega
theorem bulk_take (l : List Fld) (k : Nat) : bulk (l.take k) ≤ bulk l := by
  conv => rhs; rw [← List.take_append_drop k l]
  rw [bulk_append]; omega

theorem get_append (a b : List Fld) (n : ByteArray) : get (a ++ b) n = get a n ++ get b n := by simp [get]
theorem without_append (a b : List Fld) (ns : List ByteArray) : without (a ++ b) ns = without a ns ++ without b ns := by simp [without]
theorem both_all (l : List Fld) (n : ByteArray) : (without l [n]).length + (get l n).length = l.length := by
  induction l with
  | nil => rfl
  | cons f l ih =>
    simp only [without, get, hasAny, List.any_cons, List.any_nil, Bool.or_false, List.length_map, List.filter_cons, List.length_cons] at ih ⊢
    cases has n f <;> simp <;> omega

end Fl
end Go.Proofs.YtnmjdpmfmbgoeaaRRR
