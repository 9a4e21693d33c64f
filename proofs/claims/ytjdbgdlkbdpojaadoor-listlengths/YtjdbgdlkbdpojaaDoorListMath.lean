/- Plain words for layer 7: values cut at a byte, items, numbers, lengths, codings. -/
import Derived.Test.YtjdbgdlkbdpojaaDoorFieldMath
namespace Go.Proofs.YtjdbgdlkbdpojaaDoor
namespace Ls
open Oc Fl

/-- A text as an array. -/
def arr (l : List UInt8) : ByteArray := ⟨l.toArray⟩
theorem arr_list (l : List UInt8) : (arr l).data.toList = l := by simp [arr]
theorem arr_size (l : List UInt8) : (arr l).size = l.length := by rw [← blen', arr_list]
theorem arr_of (s : ByteArray) : arr s.data.toList = s := b_ext (arr_list _)
theorem arr_ne {l : List UInt8} (h : l ≠ []) : ((arr l).toList == []) = false := by
  rw [ByteArray.toList_eq, arr_list]; simpa using h

/-- Where the first byte c stands; the length, if there is none. -/
def pos (c : UInt8) (l : List UInt8) : Nat := l.findIdx (· == c)
theorem pos_le (c : UInt8) (l : List UInt8) : pos c l ≤ l.length := List.findIdx_le_length
theorem pos_cons (c x : UInt8) (l : List UInt8) : pos c (x :: l) = if x = c then 0 else pos c l + 1 := by
  unfold pos; rw [List.findIdx_cons]
  by_cases h : x = c
  · simp [h]
  · have : (x == c) = false := by simpa using h
    rw [this, if_neg h]; rfl
theorem pos_index (c : UInt8) (l : List UInt8) : Lib.indexByte l c = if pos c l < l.length then (pos c l : Int) else -1 := by
  induction l with
  | nil => rfl
  | cons b l ih =>
    unfold Lib.indexByte
    rw [pos_cons, ih]
    by_cases hb : b = c
    · subst hb; simp
    · have : (b == c) = false := by simpa using hb
      rw [this, if_neg hb]
      simp only [Bool.false_eq_true, if_false, List.length_cons]
      by_cases h : pos c l < l.length
      · have h2 : pos c l + 1 < l.length + 1 := by omega
        rw [if_pos h, if_pos h2]
        have h3 : ((pos c l : Int) == -1) = false := by rw [beq_eq_false_iff_ne]; omega
        rw [h3]; simp
      · have h2 : ¬ pos c l + 1 < l.length + 1 := by omega
        rw [if_neg h, if_neg h2]; rfl
theorem pos_at {c : UInt8} {l : List UInt8} (h : pos c l < l.length) : l[pos c l]? = some c := by
  have := List.findIdx_getElem (p := (· == c)) (xs := l) (w := h)
  rw [List.getElem?_eq_getElem h]
  exact congrArg some (beq_iff_eq.1 this)
theorem pos_lt {c : UInt8} {l : List UInt8} {k : Nat} (hk : k < pos c l) : l[k]? ≠ some c := by
  have := List.not_of_lt_findIdx (p := (· == c)) (xs := l) (i := k) hk
  have hl : k < l.length := Nat.lt_of_lt_of_le hk (pos_le c l)
  rw [List.getElem?_eq_getElem hl]
  simpa using this
theorem pos_of {c : UInt8} {l : List UInt8} {k : Nat} (h : l[k]? = some c) : pos c l ≤ k := Nat.not_lt.1 fun hh => pos_lt hh h

/-- What stands between the bytes c. -/
def parts (c : UInt8) : List UInt8 → List (List UInt8)
  | [] => [[]]
  | x :: l => if x = c then [] :: parts c l else match parts c l with
    | [] => [[x]]
    | p :: ps => (x :: p) :: ps
theorem parts_ne (c : UInt8) (l : List UInt8) : parts c l ≠ [] := by
  cases l with
  | nil => simp [parts]
  | cons x l =>
    unfold parts
    split
    · simp
    · split <;> simp
theorem parts_none {c : UInt8} {l : List UInt8} (h : ¬ pos c l < l.length) : parts c l = [l] := by
  induction l with
  | nil => rfl
  | cons x l ih =>
    rw [pos_cons] at h
    by_cases hx : x = c
    · rw [if_pos hx] at h; simp at h
    · rw [if_neg hx] at h
      unfold parts
      rw [if_neg hx, ih (by simp at h; omega)]
theorem parts_some {c : UInt8} {l : List UInt8} (h : pos c l < l.length) : parts c l = l.take (pos c l) :: parts c (l.drop (pos c l + 1)) := by
  induction l with
  | nil => simp at h
  | cons x l ih =>
    rw [pos_cons] at h ⊢
    by_cases hx : x = c
    · rw [if_pos hx]
      conv => lhs; unfold parts
      rw [if_pos hx]; rfl
    · rw [if_neg hx] at h ⊢
      have := ih (by simp at h; omega)
      conv => lhs; unfold parts
      rw [if_neg hx, this]; rfl
theorem parts_len (c : UInt8) (l : List UInt8) : (parts c l).length ≤ l.length + 1 := by
  induction l with
  | nil => simp [parts]
  | cons x l ih =>
    unfold parts
    split
    · simp; omega
    · split
      · simp
      · rename_i h; rw [h] at ih; simp at ih ⊢; omega
theorem parts_sum (c : UInt8) (l : List UInt8) : ∀ p ∈ parts c l, p.length ≤ l.length := by
  induction l with
  | nil => simp [parts]
  | cons x l ih =>
    unfold parts
    intro p hp
    split at hp
    · rcases List.mem_cons.1 hp with rfl | hp
      · simp
      · have := ih p hp; simp; omega
    · split at hp
      · simp at hp; subst hp; simp
      · rename_i h
        rcases List.mem_cons.1 hp with rfl | hp
        · have := ih _ (by rw [h]; exact List.mem_cons_self); simp; omega
        · have := ih p (by rw [h]; exact List.mem_cons_of_mem _ hp); simp; omega
theorem parts_hit (c : UInt8) (l : List UInt8) : parts c (c :: l) = [] :: parts c l := by
  conv => lhs; unfold parts
  rw [if_pos rfl]
theorem parts_miss {c x : UInt8} {l p : List UInt8} {ps : List (List UInt8)} (hx : ¬ x = c) (h : parts c l = p :: ps) : parts c (x :: l) = (x :: p) :: ps := by
  conv => lhs; unfold parts
  rw [if_neg hx, h]
theorem parts_app (c : UInt8) (a b : List UInt8) : parts c (a ++ c :: b) = parts c a ++ parts c b := by
  induction a with
  | nil => simp [parts]
  | cons x a ih =>
    rw [List.cons_append]
    by_cases hx : x = c
    · rw [hx, parts_hit, parts_hit, ih]; rfl
    · cases h : parts c a with
      | nil => exact absurd h (parts_ne c a)
      | cons p ps => rw [parts_miss hx h, parts_miss hx (by rw [ih, h]; rfl)]; rfl

/-- The items of parts. -/
def live (ps : List (List UInt8)) : List (List UInt8) := (ps.map trim).filter fun t => !t.isEmpty
theorem live_app (a b : List (List UInt8)) : live (a ++ b) = live a ++ live b := by simp [live]
theorem live_cons (p : List UInt8) (ps : List (List UInt8)) : live (p :: ps) = (if trim p = [] then [] else [trim p]) ++ live ps := by
  unfold live
  rw [List.map_cons, List.filter_cons]
  by_cases h : trim p = []
  · rw [if_pos h, h]; rfl
  · have : (!(trim p).isEmpty) = true := by simpa using h
    rw [if_neg h, this]; rfl
/-- The items of a value. -/
def itm (l : List UInt8) : List (List UInt8) := live (parts 44 l)
theorem itm_none {l : List UInt8} (h : ¬ pos 44 l < l.length) : itm l = if trim l = [] then [] else [trim l] := by
  unfold itm; rw [parts_none h, live_cons]; simp [live]
theorem itm_some {l : List UInt8} (h : pos 44 l < l.length) : itm l = (if trim (l.take (pos 44 l)) = [] then [] else [trim (l.take (pos 44 l))]) ++ itm (l.drop (pos 44 l + 1)) := by
  unfold itm; rw [parts_some h, live_cons]
theorem live_len (ps : List (List UInt8)) : (live ps).length ≤ ps.length := by
  unfold live; exact Nat.le_trans (List.length_filter_le _ _) (by simp)
theorem itm_len (l : List UInt8) : (itm l).length ≤ l.length + 1 := Nat.le_trans (live_len _) (parts_len _ _)
theorem itm_size (l : List UInt8) : ∀ t ∈ itm l, t.length ≤ l.length ∧ t ≠ [] := by
  intro t ht
  unfold itm live at ht
  obtain ⟨h1, h2⟩ := List.mem_filter.1 ht
  obtain ⟨p, hp, rfl⟩ := List.mem_map.1 h1
  exact ⟨Nat.le_trans (trim_le p) (parts_sum _ _ p hp), by simpa using h2⟩
theorem itm_app (a b : List UInt8) : itm (a ++ 44 :: b) = itm a ++ itm b := by
  unfold itm; rw [parts_app, live_app]

/-- The same of texts as arrays. -/
def itmB (s : ByteArray) : List ByteArray := (itm s.data.toList).map arr
def items (vs : List ByteArray) : List ByteArray := vs.flatMap itmB
/-- What values weigh. -/
def bulk (vs : List ByteArray) : Nat := (vs.map fun s => s.size + 1).sum
theorem bulk_cons (s : ByteArray) (vs : List ByteArray) : bulk (s :: vs) = s.size + 1 + bulk vs := by simp [bulk]
theorem bulk_app (a b : List ByteArray) : bulk (a ++ b) = bulk a + bulk b := by simp [bulk]
theorem bulk_take (vs : List ByteArray) (k : Nat) : bulk (vs.take k) ≤ bulk vs := by
  conv => rhs; rw [← List.take_append_drop k vs]
  rw [bulk_app]; omega
theorem bulk_len (vs : List ByteArray) : vs.length ≤ bulk vs := by
  induction vs with
  | nil => simp
  | cons s vs ih => rw [bulk_cons]; simp; omega
theorem bulk_mem {vs : List ByteArray} {s : ByteArray} (h : s ∈ vs) : s.size + 1 ≤ bulk vs := by
  induction vs with
  | nil => simp at h
  | cons a vs ih =>
    rw [bulk_cons]
    rcases List.mem_cons.1 h with rfl | h
    · omega
    · have := ih h; omega
theorem bulk_succ {vs : List ByteArray} {k : Nat} {s : ByteArray} (h : vs[k]? = some s) : bulk (vs.take (k + 1)) = bulk (vs.take k) + s.size + 1 := by
  rw [List.take_add_one, h, Option.toList_some, bulk_app, bulk_cons]; simp [bulk]; omega
theorem itmB_len (s : ByteArray) : (itmB s).length ≤ s.size + 1 := by unfold itmB; rw [List.length_map, ← blen' s]; exact itm_len _
theorem items_app (a b : List ByteArray) : items (a ++ b) = items a ++ items b := by simp [items]
theorem items_len (vs : List ByteArray) : (items vs).length ≤ bulk vs := by
  induction vs with
  | nil => simp [items]
  | cons s vs ih =>
    have := itmB_len s
    rw [show items (s :: vs) = itmB s ++ items vs by simp [items], List.length_append, bulk_cons]; omega
theorem items_succ {vs : List ByteArray} {k : Nat} {s : ByteArray} (h : vs[k]? = some s) : items (vs.take (k + 1)) = items (vs.take k) ++ itmB s := by
  rw [List.take_add_one, h, Option.toList_some, items_app]; simp [items]
theorem itmB_size {s t : ByteArray} (h : t ∈ itmB s) : t.size ≤ s.size ∧ t.size ≠ 0 := by
  obtain ⟨l, hl, rfl⟩ := List.mem_map.1 h
  have := itm_size _ l hl
  rw [arr_size, ← blen' s]
  exact ⟨this.1, fun e => this.2 (List.eq_nil_of_length_eq_zero e)⟩
theorem items_size {vs : List ByteArray} {t : ByteArray} (h : t ∈ items vs) : t.size ≤ bulk vs := by
  obtain ⟨s, hs, ht⟩ := List.mem_flatMap.1 h
  have := (itmB_size ht).1
  have := bulk_mem hs
  omega

/-- What stands ahead of an item's semicolon, trimmed. -/
def nm (s : ByteArray) : ByteArray := arr (trim (s.data.toList.take (pos 59 s.data.toList)))
theorem nm_size (s : ByteArray) : (nm s).size ≤ s.size := by
  unfold nm; rw [arr_size, ← blen' s]
  exact Nat.le_trans (trim_le _) (by rw [List.length_take]; omega)

/-- Codings. -/
def tok (s : ByteArray) : Bool := token (nm s).data.toList
def cod (s : ByteArray) : ByteArray := arr (small (nm s).data.toList)
def codings (vs : List ByteArray) : List ByteArray × Nat :=
  if vs = [] then ([], 7) else if items vs = [] then ([], 2) else if (items vs).all tok then ((items vs).map cod, 0) else ([], 2)
def hasW (w : ByteArray) (vs : List ByteArray) : Bool := (items vs).any fun t => alike (nm t).data.toList w.data.toList

/-! Numbers. -/
def dgb (b : UInt8) : Bool := decide (48 ≤ b.toNat ∧ b.toNat ≤ 57)
def form (l : List UInt8) : Bool := !l.isEmpty && l.all dgb
def valF (n : Nat) (l : List UInt8) : Nat := l.foldl (fun n b => n * 10 + (b.toNat - 48)) n
def val (l : List UInt8) : Nat := valF 0 l
def top : Nat := 4611686018427387903
def num (l : List UInt8) : Nat × Nat := if form l = false then (0, 2) else if val l > top then (0, 3) else (val l, 0)
theorem valF_app (n : Nat) (a b : List UInt8) : valF n (a ++ b) = valF (valF n a) b := by simp [valF]
theorem valF_ge (n : Nat) (l : List UInt8) : n * 10 ^ l.length ≤ valF n l := by
  induction l generalizing n with
  | nil => simp [valF]
  | cons x l ih =>
    have := ih (n * 10 + (x.toNat - 48))
    rw [show valF n (x :: l) = valF (n * 10 + (x.toNat - 48)) l from rfl, List.length_cons, Nat.pow_succ]
    refine Nat.le_trans ?_ this
    rw [Nat.mul_comm (10 ^ l.length) 10, ← Nat.mul_assoc]
    exact Nat.mul_le_mul_right _ (by omega)
theorem valF_le (n : Nat) (l : List UInt8) : n ≤ valF n l := by
  refine Nat.le_trans ?_ (valF_ge n l)
  exact Nat.le_mul_of_pos_right _ (Nat.pow_pos (by decide))
theorem valF_lt (n : Nat) (l : List UInt8) (h : l.all dgb = true) : valF n l < (n + 1) * 10 ^ l.length := by
  induction l generalizing n with
  | nil => simp [valF]
  | cons x l ih =>
    simp only [List.all_cons, Bool.and_eq_true] at h
    have := ih (n * 10 + (x.toNat - 48)) h.2
    rw [show valF n (x :: l) = valF (n * 10 + (x.toNat - 48)) l from rfl, List.length_cons, Nat.pow_succ]
    refine Nat.lt_of_lt_of_le this ?_
    rw [Nat.mul_comm (10 ^ l.length) 10, ← Nat.mul_assoc]
    refine Nat.mul_le_mul_right _ ?_
    have : x.toNat ≤ 57 := (of_decide_eq_true h.1).2
    omega
theorem val_take {l : List UInt8} {k : Nat} {x : UInt8} (h : l[k]? = some x) : val (l.take (k + 1)) = val (l.take k) * 10 + (x.toNat - 48) := by
  rw [List.take_add_one, h, Option.toList_some]; unfold val; rw [valF_app]; rfl
theorem val_mono (l : List UInt8) (k : Nat) : val (l.take k) ≤ val l := by
  conv => rhs; rw [← List.take_append_drop k l]
  unfold val; rw [valF_app]; exact valF_le _ _
/-- Noughts ahead, but for a last digit. -/
def lead : List UInt8 → Nat
  | [] => 0
  | [_] => 0
  | x :: y :: l => if x = 48 then lead (y :: l) + 1 else 0
theorem lead_lt (x : UInt8) (l : List UInt8) : lead (x :: l) < (x :: l).length := by
  induction l generalizing x with
  | nil => simp [lead]
  | cons y l ih =>
    unfold lead
    split
    · have := ih y; simp at this ⊢; omega
    · simp
theorem lead_at {l : List UInt8} {i : Nat} (h : i ≤ lead l) : i < lead l ↔ (l[i]? = some 48 ∧ i + 1 < l.length) := by
  induction l generalizing i with
  | nil => simp [lead]
  | cons x l ih =>
    cases l with
    | nil => simp [lead] at h ⊢
    | cons y l =>
      unfold lead at h ⊢
      by_cases hx : x = 48
      · rw [if_pos hx] at h ⊢
        cases i with
        | zero => simp [hx]
        | succ i =>
          have := ih (i := i) (by omega)
          simp only [List.getElem?_cons_succ, List.length_cons] at this ⊢
          rw [← Nat.succ_eq_add_one] at *
          constructor
          · intro hh; have := this.1 (by omega); exact ⟨this.1, by omega⟩
          · intro hh; have := this.2 ⟨hh.1, by omega⟩; omega
      · rw [if_neg hx] at h ⊢
        obtain rfl : i = 0 := by omega
        simp [hx]
theorem val_lead (l : List UInt8) : val (l.drop (lead l)) = val l := by
  induction l with
  | nil => rfl
  | cons x l ih =>
    cases l with
    | nil => rfl
    | cons y l =>
      unfold lead
      by_cases hx : x = 48
      · rw [if_pos hx, List.drop_succ_cons, ih, hx]; rfl
      · rw [if_neg hx]; rfl
theorem lead_far {l : List UInt8} (h : l.length - lead l > 19) (hd : l.all dgb = true) : val l > top := by
  rw [← val_lead]
  have hm : ∀ x, l[lead l]? = some x → x ≠ 48 := fun x hx e => by
    have := (lead_at (Nat.le_refl (lead l))).2 ⟨by rw [hx, e], by omega⟩
    omega
  cases hx : l.drop (lead l) with
  | nil => have := congrArg List.length hx; simp at this; omega
  | cons x m =>
    have h0 : l[lead l]? = some x := by
      have : (l.drop (lead l))[0]? = some x := by rw [hx]; rfl
      rwa [List.getElem?_drop] at this
    have hxd : dgb x = true := List.all_eq_true.1 hd x (List.mem_of_getElem? h0)
    have h1 := hm x h0
    have h2 : 48 ≤ x.toNat := (of_decide_eq_true hxd).1
    have h3 : x.toNat ≠ 48 := fun e => h1 (UInt8.toNat_inj.1 (by rw [e]; rfl))
    have hl : m.length ≥ 19 := by have := congrArg List.length hx; simp at this; omega
    have := valF_ge (0 * 10 + (x.toNat - 48)) m
    show valF (0 * 10 + (x.toNat - 48)) m > top
    have hp : 10 ^ 19 ≤ 10 ^ m.length := Nat.pow_le_pow_right (by decide) hl
    have : 1 * 10 ^ 19 ≤ (0 * 10 + (x.toNat - 48)) * 10 ^ m.length := Nat.mul_le_mul (by omega) hp
    unfold top
    omega
theorem lead_near {l : List UInt8} (h : ¬ l.length - lead l > 19) (hd : l.all dgb = true) : val l < 10000000000000000000 := by
  rw [← val_lead]
  have h1 : (l.drop (lead l)).all dgb = true := List.all_eq_true.2 fun x hx => List.all_eq_true.1 hd x (List.mem_of_mem_drop hx)
  have := valF_lt 0 _ h1
  have h2 : 10 ^ (l.drop (lead l)).length ≤ 10 ^ 19 := Nat.pow_le_pow_right (by decide) (by rw [List.length_drop]; omega)
  show valF 0 _ < _
  have h3 : (10 : Nat) ^ 19 = 10000000000000000000 := by decide
  omega

/-! Lengths: as the program goes. -/
structure St where
  lo : Nat
  hi : Nat
  e : Nat
def next (t : St) (x : Nat × Nat) : St := ⟨min t.lo x.1, max t.hi x.1, if x.2 = 3 then 3 else t.e⟩
def goI (t : St) : List ByteArray → Option St
  | [] => some t
  | x :: xs => if (num x.data.toList).2 = 2 then none else goI (next t (num x.data.toList)) xs
def goV (t : St) : List ByteArray → Option St
  | [] => some t
  | v :: vs => if itmB v = [] then none else (goI t (itmB v)).bind fun t' => goV t' vs
def fin : Option St → Nat × Nat
  | none => (0, 2)
  | some t => if t.e ≠ 0 then (0, t.e) else if t.lo ≠ t.hi then (0, 2) else (t.hi, 0)
def length (vs : List ByteArray) : Nat × Nat := if vs = [] then (0, 7) else fin (goV ⟨18446744073709551615, 0, 0⟩ vs)
theorem goI_cons (t : St) (x : ByteArray) (xs : List ByteArray) : goI t (x :: xs) = if (num x.data.toList).2 = 2 then none else goI (next t (num x.data.toList)) xs := rfl
theorem goV_cons (t : St) (v : ByteArray) (vs : List ByteArray) : goV t (v :: vs) = if itmB v = [] then none else (goI t (itmB v)).bind fun t' => goV t' vs := rfl
theorem goI_app (t : St) (a b : List ByteArray) : goI t (a ++ b) = (goI t a).bind fun t' => goI t' b := by
  induction a generalizing t with
  | nil => rfl
  | cons x a ih =>
    rw [List.cons_append, goI_cons, goI_cons]
    split
    · rfl
    · rw [ih]
theorem goI_one (t : St) (x : ByteArray) : goI t [x] = if (num x.data.toList).2 = 2 then none else some (next t (num x.data.toList)) := rfl
theorem goV_app (t : St) (a b : List ByteArray) : goV t (a ++ b) = (goV t a).bind fun t' => goV t' b := by
  induction a generalizing t with
  | nil => rfl
  | cons x a ih =>
    rw [List.cons_append, goV_cons, goV_cons]
    split
    · rfl
    · cases goI t (itmB x) with
      | none => rfl
      | some t' => exact ih t'

/-! As the document goes: whether one was too great, whether all were alike, the last one; behind the first one or not. -/
structure Sr where
  big : Bool
  al : Bool
  n : Nat
  on : Bool
def nextR (t : Sr) (x : Nat × Nat) : Sr := ⟨t.big || x.2 == 3, t.al && !(t.on && x.1 != t.n), x.1, true⟩
def goIR (t : Sr) : List ByteArray → Option Sr
  | [] => some t
  | x :: xs => if (num x.data.toList).2 = 2 then none else goIR (nextR t (num x.data.toList)) xs
def goVR (t : Sr) : List ByteArray → Option Sr
  | [] => some t
  | v :: vs => if itmB v = [] then none else (goIR t (itmB v)).bind fun t' => goVR t' vs
def finR : Option Sr → Nat × Nat
  | none => (0, 2)
  | some t => if t.big then (0, 3) else if t.al = false then (0, 2) else (t.n, 0)
theorem goIR_cons (t : Sr) (x : ByteArray) (xs : List ByteArray) : goIR t (x :: xs) = if (num x.data.toList).2 = 2 then none else goIR (nextR t (num x.data.toList)) xs := rfl
theorem goVR_cons (t : Sr) (v : ByteArray) (vs : List ByteArray) : goVR t (v :: vs) = if itmB v = [] then none else (goIR t (itmB v)).bind fun t' => goVR t' vs := rfl
theorem goIR_one (t : Sr) (x : ByteArray) : goIR t [x] = if (num x.data.toList).2 = 2 then none else some (nextR t (num x.data.toList)) := rfl
theorem goIR_app (t : Sr) (a b : List ByteArray) : goIR t (a ++ b) = (goIR t a).bind fun t' => goIR t' b := by
  induction a generalizing t with
  | nil => rfl
  | cons x a ih =>
    rw [List.cons_append, goIR_cons, goIR_cons]
    split
    · rfl
    · rw [ih]
theorem goVR_app (t : Sr) (a b : List ByteArray) : goVR t (a ++ b) = (goVR t a).bind fun t' => goVR t' b := by
  induction a generalizing t with
  | nil => rfl
  | cons x a ih =>
    rw [List.cons_append, goVR_cons, goVR_cons]
    split
    · rfl
    · cases goIR t (itmB x) with
      | none => rfl
      | some t' => exact ih t'
/-- Both are at the same place. -/
def Like (t : St) (u : Sr) : Prop := t.e = (if u.big then 3 else 0) ∧ (if u.on then t.lo ≤ u.n ∧ u.n ≤ t.hi ∧ (u.al = true ↔ t.lo = t.hi) else t.lo = 18446744073709551615 ∧ t.hi = 0 ∧ u.al = true)
theorem num_le (l : List UInt8) : (num l).1 ≤ top ∧ ((num l).2 = 0 ∨ (num l).2 = 2 ∨ (num l).2 = 3) := by
  unfold num
  split
  · simp
  · split
    · simp
    · simp; omega
theorem like_next {t : St} {u : Sr} (h : Like t u) (x : Nat × Nat) (hx : x.1 ≤ top) : Like (next t x) (nextR u x) := by
  obtain ⟨tl, th, te⟩ := t
  obtain ⟨ub, ua, un, uo⟩ := u
  obtain ⟨x1, x2⟩ := x
  unfold top at hx
  obtain ⟨h1, h2⟩ := h
  simp only at h1 h2 hx
  refine ⟨?_, ?_⟩
  · simp only [next, nextR]
    by_cases hb : x2 = 3
    · simp [hb]
    · rw [if_neg hb, h1]; cases ub <;> simp [hb]
  · simp only [next, nextR, if_true]
    cases uo with
    | false =>
      simp at h2
      obtain ⟨rfl, rfl, rfl⟩ := h2
      refine ⟨Nat.min_le_right _ _, Nat.le_max_right _ _, ?_⟩
      simp; omega
    | true =>
      simp at h2
      obtain ⟨a1, a2, a3⟩ := h2
      refine ⟨Nat.min_le_right _ _, Nat.le_max_right _ _, ?_⟩
      cases ua with
      | true =>
        simp at a3
        subst a3
        obtain rfl : un = tl := by omega
        by_cases hn : x1 = un
        · subst hn; simp
        · simp [hn]; omega
      | false =>
        simp at a3
        simp; omega
def LikeO : Option St → Option Sr → Prop
  | none, none => True
  | some t, some u => Like t u
  | _, _ => False
theorem like_goI {t : St} {u : Sr} (h : Like t u) (xs : List ByteArray) : LikeO (goI t xs) (goIR u xs) := by
  induction xs generalizing t u with
  | nil => exact h
  | cons x xs ih =>
    unfold goI goIR
    split
    · trivial
    · exact ih (like_next h _ (num_le _).1)
theorem goIR_on {u u' : Sr} {xs : List ByteArray} (h : goIR u xs = some u') (hx : xs ≠ [] ∨ u.on = true) : u'.on = true := by
  induction xs generalizing u with
  | nil => cases h; exact hx.resolve_left (fun e => e rfl)
  | cons x xs ih =>
    unfold goIR at h
    split at h
    · cases h
    · exact ih h (.inr rfl)
theorem goVR_on {u u' : Sr} {vs : List ByteArray} (h : goVR u vs = some u') (hx : vs ≠ [] ∨ u.on = true) : u'.on = true := by
  induction vs generalizing u with
  | nil => cases h; exact hx.resolve_left (fun e => e rfl)
  | cons v vs ih =>
    unfold goVR at h
    split at h
    · cases h
    · rename_i hv
      cases hg : goIR u (itmB v) with
      | none => rw [hg] at h; cases h
      | some u1 => rw [hg] at h; exact ih h (.inr (goIR_on hg (.inl hv)))
theorem like_goV {t : St} {u : Sr} (h : Like t u) (vs : List ByteArray) : LikeO (goV t vs) (goVR u vs) := by
  induction vs generalizing t u with
  | nil => exact h
  | cons v vs ih =>
    unfold goV goVR
    split
    · trivial
    · have := like_goI h (itmB v)
      cases hg : goI t (itmB v) with
      | none =>
        cases hr : goIR u (itmB v) with
        | none => trivial
        | some u' => rw [hg, hr] at this; exact this.elim
      | some t' =>
        cases hr : goIR u (itmB v) with
        | none => rw [hg, hr] at this; exact this.elim
        | some u' => rw [hg, hr] at this; exact ih this
theorem length_ref {vs : List ByteArray} (h : vs ≠ []) : length vs = finR (goVR ⟨false, true, 0, false⟩ vs) := by
  unfold length
  rw [if_neg h]
  have key := like_goV (t := ⟨18446744073709551615, 0, 0⟩) (u := ⟨false, true, 0, false⟩) ⟨rfl, by simp⟩ vs
  cases hg : goV ⟨18446744073709551615, 0, 0⟩ vs with
  | none =>
    cases hr : goVR ⟨false, true, 0, false⟩ vs with
    | none => rfl
    | some u' => rw [hg, hr] at key; exact key.elim
  | some t' =>
    cases hr : goVR ⟨false, true, 0, false⟩ vs with
    | none => rw [hg, hr] at key; exact key.elim
    | some u' =>
      rw [hg, hr] at key
      have hon := goVR_on hr (.inl h)
      obtain ⟨h1, h2⟩ := key
      rw [hon] at h2
      simp only [if_true] at h2
      obtain ⟨a1, a2, a3⟩ := h2
      simp only [fin, finR]
      rw [h1]
      cases u'.big with
      | true => simp
      | false =>
        simp only [Bool.false_eq_true, if_false, ne_eq, not_true, ite_not]
        cases hal : u'.al with
        | true => rw [hal] at a3; have := a3.1 rfl; simp [this]; omega
        | false => rw [hal] at a3; simp at a3; simp [a3]

end Ls
end Go.Proofs.YtjdbgdlkbdpojaaDoor
