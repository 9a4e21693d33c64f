/- MG: FiltMath, OutMath, OutWhole, OutRight in one. -/
import Derived.Test.YtilebfpaibajcaaGreatDoorMB
import Derived.Test.YtilebfpaibajcaaGreatDoorEncKinds
import Derived.Test.YtilebfpaibajcaaGreatDoorMD
/- Plain words for layer 13: the names that may not be trailers; fields parted by them. -/
namespace Go.Proofs.YtilebfpaibajcaaGreatDoor
namespace Ft
open Oc Fl
set_option linter.unusedVariables false
set_option maxRecDepth 100000

/-- The names that may not be trailers. -/
def nms : List ByteArray := [
  ⟨#[65, 117, 116, 104, 111, 114, 105, 122, 97, 116, 105, 111, 110]⟩,
  ⟨#[67, 97, 99, 104, 101, 45, 67, 111, 110, 116, 114, 111, 108]⟩,
  ⟨#[67, 111, 110, 110, 101, 99, 116, 105, 111, 110]⟩,
  ⟨#[67, 111, 110, 116, 101, 110, 116, 45, 69, 110, 99, 111, 100, 105, 110, 103]⟩,
  ⟨#[67, 111, 110, 116, 101, 110, 116, 45, 76, 101, 110, 103, 116, 104]⟩,
  ⟨#[67, 111, 110, 116, 101, 110, 116, 45, 82, 97, 110, 103, 101]⟩,
  ⟨#[67, 111, 110, 116, 101, 110, 116, 45, 84, 121, 112, 101]⟩,
  ⟨#[67, 111, 111, 107, 105, 101]⟩,
  ⟨#[69, 120, 112, 101, 99, 116]⟩,
  ⟨#[72, 111, 115, 116]⟩,
  ⟨#[73, 102, 45, 77, 97, 116, 99, 104]⟩,
  ⟨#[73, 102, 45, 77, 111, 100, 105, 102, 105, 101, 100, 45, 83, 105, 110, 99, 101]⟩,
  ⟨#[73, 102, 45, 78, 111, 110, 101, 45, 77, 97, 116, 99, 104]⟩,
  ⟨#[73, 102, 45, 82, 97, 110, 103, 101]⟩,
  ⟨#[73, 102, 45, 85, 110, 109, 111, 100, 105, 102, 105, 101, 100, 45, 83, 105, 110, 99, 101]⟩,
  ⟨#[75, 101, 101, 112, 45, 65, 108, 105, 118, 101]⟩,
  ⟨#[77, 97, 120, 45, 70, 111, 114, 119, 97, 114, 100, 115]⟩,
  ⟨#[80, 114, 97, 103, 109, 97]⟩,
  ⟨#[80, 114, 111, 120, 121, 45, 65, 117, 116, 104, 101, 110, 116, 105, 99, 97, 116, 101]⟩,
  ⟨#[80, 114, 111, 120, 121, 45, 65, 117, 116, 104, 111, 114, 105, 122, 97, 116, 105, 111, 110]⟩,
  ⟨#[80, 114, 111, 120, 121, 45, 67, 111, 110, 110, 101, 99, 116, 105, 111, 110]⟩,
  ⟨#[82, 97, 110, 103, 101]⟩,
  ⟨#[83, 101, 116, 45, 67, 111, 111, 107, 105, 101]⟩,
  ⟨#[84, 69]⟩,
  ⟨#[84, 114, 97, 105, 108, 101, 114]⟩,
  ⟨#[84, 114, 97, 110, 115, 102, 101, 114, 45, 69, 110, 99, 111, 100, 105, 110, 103]⟩,
  ⟨#[85, 112, 103, 114, 97, 100, 101]⟩,
  ⟨#[87, 87, 87, 45, 65, 117, 116, 104, 101, 110, 116, 105, 99, 97, 116, 101]⟩]
/-- May it not be a trailer's name? -/
def forb (s : ByteArray) : Bool := nms.any fun n => alike s.data.toList n.data.toList
def bad (f : Fld) : Bool := forb f.name
/-- Those fields that are forbidden, or aren't. -/
def sel (b : Bool) (l : List Fld) : List Fld := l.filter fun f => bad f == b

theorem nms_len : nms.length = 28 := rfl
theorem nms_size : ∀ n ∈ nms, n.size ≤ 100 := by decide
theorem nms_forb : ∀ n ∈ nms, forb n = true := fun n hn => by
  unfold forb
  rw [List.any_eq_true]
  exact ⟨n, hn, by unfold alike; simp⟩
theorem nms_x : ∀ n ∈ nms, forb (n ++ ⟨#[120]⟩) = false := by decide +kernel
theorem forb_length : forb ⟨#[99, 111, 110, 116, 101, 110, 116, 45, 108, 101, 110, 103, 116, 104]⟩ = true := by decide +kernel
theorem forb_sum : forb ⟨#[88, 45, 83, 117, 109]⟩ = false := by decide +kernel

theorem any_snoc {α : Type} {p : α → Bool} {l : List α} {k : Nat} {x : α} (h : l[k]? = some x) : (l.take (k + 1)).any p = ((l.take k).any p || p x) := by
  rw [List.take_add_one, h, List.any_append]; simp
theorem any_here {α : Type} {p : α → Bool} {l : List α} {k : Nat} {x : α} (h : l[k]? = some x) (hx : p x = true) : l.any p = true :=
  List.any_eq_true.2 ⟨x, List.mem_of_getElem? h, hx⟩

theorem sel_take {l : List Fld} {k : Nat} {f : Fld} (b : Bool) (h : l[k]? = some f) : sel b (l.take (k + 1)) = sel b (l.take k) ++ (if bad f = b then [f] else []) := by
  rw [List.take_add_one, h]
  simp only [Option.toList_some, sel, List.filter_append, List.filter_cons, List.filter_nil]
  by_cases hb : bad f = b <;> simp [hb]
theorem sel_len (b : Bool) (l : List Fld) : (sel b l).length ≤ l.length := List.length_filter_le _ _
theorem sel_take_len (b : Bool) (l : List Fld) (k : Nat) : (sel b (l.take k)).length ≤ l.length := by
  have := sel_len b (l.take k)
  rw [List.length_take] at this
  omega
theorem sel_both (l : List Fld) : (sel false l).length + (sel true l).length = l.length := by
  induction l with
  | nil => rfl
  | cons f l ih =>
    simp only [sel, List.filter_cons, List.length_cons] at ih ⊢
    cases bad f
    · rw [if_pos (show (false == false) = true by decide), if_neg (show ¬ (false == true) = true by decide), List.length_cons]; omega
    · rw [if_neg (show ¬ (true == false) = true by decide), if_pos (show (true == true) = true by decide), List.length_cons]; omega
theorem sel_again (l : List Fld) : sel false (sel false l) = sel false l := by
  unfold sel; rw [List.filter_filter]; congr 1; funext f; cases bad f <;> rfl
theorem sel_none (l : List Fld) : sel true (sel false l) = [] := by
  unfold sel; rw [List.filter_filter, List.filter_eq_nil_iff]
  intro f _; cases bad f <;> simp
theorem sel_append (b : Bool) (l m : List Fld) : sel b (l ++ m) = sel b l ++ sel b m := by unfold sel; rw [List.filter_append]
theorem sel_mem {b : Bool} {l : List Fld} {f : Fld} (h : f ∈ sel b l) : f ∈ l := (List.mem_filter.1 h).1

end Ft
end Go.Proofs.YtilebfpaibajcaaGreatDoor

/- Plain words for layer 14: an outlet, as the document has it; whole bodies. -/
namespace Go.Proofs.YtilebfpaibajcaaGreatDoor
namespace Ot
open Oc Fl Bk Bd Ft
set_option linter.unusedVariables false
set_option maxRecDepth 100000

/-- An outlet: its encoder, all that this wrote, how many bytes of it were to be written, whether it is shut. -/
structure Rs where
  E : Es
  A : List UInt8
  W : Nat
  shut : Bool
/-- Is a body of a size given in full? -/
def full (E : Es) (n : Nat) : Bool :=
  match E.k with
  | .fix s => decide (0 < n) && decide (n = s)
  | _ => false
def upto (E : Es) (n : Nat) : Nat := if full E n = true then n - 1 else n

/-- Data. -/
def putA (o : Rs) (T : List UInt8) : List UInt8 := o.A ++ putBx o.E T
def stopP (o : Rs) (T : List UInt8) : Prop := o.shut = true ∨ putEx o.E T ≠ 0
instance (o : Rs) (T : List UInt8) : Decidable (stopP o T) := by unfold stopP; infer_instance
def putO (o : Rs) (T : List UInt8) : Rs := if stopP o T then o else ⟨putEs o.E T, putA o T, upto o.E (putA o T).length, false⟩
def putOe (o : Rs) (T : List UInt8) : Nat := if o.shut = true then 8 else putEx o.E T
def putOb (o : Rs) (T : List UInt8) : List UInt8 := if stopP o T then [] else ((putA o T).take (upto o.E (putA o T).length)).drop o.W
/-- The end. -/
def endA (o : Rs) (l : List Fld) : List UInt8 := o.A ++ endBx o.E (sel false l)
def stopE (o : Rs) (l : List Fld) : Prop := o.shut = true ∨ endEx o.E (sel false l) ≠ 0
instance (o : Rs) (l : List Fld) : Decidable (stopE o l) := by unfold stopE; infer_instance
def endO (o : Rs) (l : List Fld) : Rs := if stopE o l then o else ⟨endEs o.E (sel false l), endA o l, (endA o l).length, true⟩
def endOe (o : Rs) (l : List Fld) : Nat := if o.shut = true then 8 else endEx o.E (sel false l)
def endOb (o : Rs) (l : List Fld) : List UInt8 := if stopE o l then [] else (endA o l).drop o.W
/-- Given up. -/
def abortO (o : Rs) : Rs := { o with shut := true }
def abortOe (o : Rs) : Nat := if o.shut = true then 8 else 0
def keptO (o : Rs) : Nat := if o.shut = true then 0 else o.A.length - o.W
def newO (kind : Int) (size : Nat) : Rs := ⟨newEs kind size, [], 0, false⟩

/-- Chunked bytes that are no body yet, or data of as many bytes as were given. -/
def dataOk (o : Rs) : Prop :=
  match o.E.k with
  | .chk => o.E.done = false → ∃ L : List (List UInt8), o.A = cks [] L ∧ L.flatten.length = o.E.d
  | _ => o.A.length = o.E.d
/-- What holds of an outlet. -/
structure Ok (o : Rs) : Prop where
  ok : o.E.ok
  low : o.W ≤ o.A.length
  data : dataOk o
  done : o.E.done = true → o.shut = true
  w : o.W = if o.E.done = true then o.A.length else upto o.E o.A.length

theorem full_d {E E' : Es} (h : E'.k = E.k) (n : Nat) : full E' n = full E n := by unfold full; rw [h]
theorem upto_d {E E' : Es} (h : E'.k = E.k) (n : Nat) : upto E' n = upto E n := by unfold upto; rw [full_d h]
theorem upto_le (E : Es) (n : Nat) : upto E n ≤ n ∧ n ≤ upto E n + 1 := by unfold upto; split <;> omega
theorem putEs_k (x : Es) (T : List UInt8) : (putEs x T).k = x.k := by
  obtain ⟨k, d, done⟩ := x
  unfold putEs
  cases done <;> cases k <;> rfl
theorem putEs_done (x : Es) (T : List UInt8) : (putEs x T).done = x.done := by
  obtain ⟨k, d, done⟩ := x
  unfold putEs
  cases done <;> cases k <;> rfl
theorem endEs_k (x : Es) (l : List Fld) : (endEs x l).k = x.k := rfl
theorem endEs_d (x : Es) (l : List Fld) : (endEs x l).d = x.d := rfl
theorem putEs_ok {x : Es} (T : List UInt8) (h : x.ok) : (putEs x T).ok := by
  obtain ⟨k, d, done⟩ := x
  unfold putEs
  cases done with
  | true => exact h
  | false =>
    cases k with
    | fix s =>
      show fixD s d T ≤ s ∧ s ≤ 4611686018427387903
      obtain ⟨h1, h2⟩ : d ≤ s ∧ s ≤ 4611686018427387903 := h
      refine ⟨?_, h2⟩
      unfold fixD
      split <;> omega
    | chk => trivial
    | unt => trivial
theorem ck_data (L : List (List UInt8)) (T : List UInt8) : cks [] L ++ ck [] T = cks [] (L ++ [T]) := (cks_snoc _ _ _).symm

theorem new_ok {kind : Int} {size : Nat} (h : rightE kind size = true) : Ok (newO kind size) := by
  have hk : (newEs kind size).done = false := rfl
  have hu : upto (newEs kind size) 0 = 0 := by have := (upto_le (newEs kind size) 0).1; omega
  refine ⟨?_, Nat.le_refl _, ?_, (fun h => by cases h), ?_⟩
  · unfold rightE at h
    show (newEs kind size).ok
    unfold newEs Es.ok
    by_cases h1 : kind = 1
    · subst h1
      simp at h
      simp only [if_pos]
      exact ⟨Nat.zero_le _, h⟩
    · simp only [if_neg h1]
      by_cases h2 : kind = 2 <;> simp only [h2, if_pos] <;> trivial
  · unfold dataOk newO newEs
    by_cases h1 : kind = 1
    · simp only [if_pos h1]; rfl
    · simp only [if_neg h1]
      by_cases h2 : kind = 2
      · simp only [if_pos h2]; exact fun _ => ⟨[], rfl, rfl⟩
      · simp only [if_neg h2]; rfl
  · show 0 = if (newEs kind size).done = true then 0 else upto (newEs kind size) 0
    rw [hu]; split <;> rfl

theorem put_ok {o : Rs} (T : List UInt8) (h : Ok o) : Ok (putO o T) := by
  unfold putO
  by_cases hs : stopP o T
  · rw [if_pos hs]; exact h
  rw [if_neg hs]
  unfold stopP at hs
  have hsh : o.shut = false := by cases e : o.shut with | false => rfl | true => exact absurd (.inl e) hs
  have he : putEx o.E T = 0 := by
    by_cases e : putEx o.E T = 0
    · exact e
    · exact absurd (.inr e) hs
  have hd : o.E.done = false := by cases e : o.E.done with | false => rfl | true => rw [h.done e] at hsh; cases hsh
  refine ⟨putEs_ok T h.ok, (upto_le _ _).1, ?_, (fun hx => by rw [putEs_done, hd] at hx; cases hx), ?_⟩
  · have hdo := h.data
    unfold dataOk at hdo ⊢
    unfold putA
    obtain ⟨E, A, W, sh⟩ := o
    obtain ⟨k, d, done⟩ := E
    simp only at hd hdo he ⊢
    subst hd
    cases k with
    | fix s =>
      simp only at hdo ⊢
      have hle : ¬ s < d + T.length := fun hh => by
        have : putEx ⟨.fix s, d, false⟩ T = 6 := if_pos hh
        omega
      show (A ++ fixB s d T).length = fixD s d T
      rw [show fixB s d T = T from if_neg hle, show fixD s d T = d + T.length from if_neg hle, List.length_append]
      have : A.length = d := hdo
      omega
    | chk =>
      have hdo' : false = false → ∃ L : List (List UInt8), A = cks [] L ∧ L.flatten.length = d := hdo
      show _ = false → ∃ L : List (List UInt8), A ++ ck [] T = cks [] L ∧ L.flatten.length = d + T.length
      intro _
      obtain ⟨L, h1, h2⟩ := hdo' rfl
      refine ⟨L ++ [T], ?_, ?_⟩
      · rw [h1, ck_data]
      · simp at h2 ⊢
        omega
    | unt =>
      show (A ++ T).length = d + T.length
      have : A.length = d := hdo
      rw [List.length_append]
      omega
  · show upto o.E (putA o T).length = if (putEs o.E T).done = true then (putA o T).length else upto (putEs o.E T) (putA o T).length
    rw [putEs_done, hd, if_neg (by decide), upto_d (putEs_k _ _)]

theorem end_ok {o : Rs} (l : List Fld) (h : Ok o) : Ok (endO o l) := by
  unfold endO
  by_cases hs : stopE o l
  · rw [if_pos hs]; exact h
  rw [if_neg hs]
  unfold stopE at hs
  have hsh : o.shut = false := by cases e : o.shut with | false => rfl | true => exact absurd (.inl e) hs
  have he : endEx o.E (sel false l) = 0 := by
    by_cases e : endEx o.E (sel false l) = 0
    · exact e
    · exact absurd (.inr e) hs
  have hde : (endEs o.E (sel false l)).done = true := by unfold endEs; rw [he]; simp
  refine ⟨h.ok, Nat.le_refl _, ?_, fun _ => rfl, ?_⟩
  · have hdo := h.data
    unfold dataOk at hdo ⊢
    unfold endA
    simp only [endEs_k]
    obtain ⟨E, A, W, sh⟩ := o
    obtain ⟨k, d, done⟩ := E
    have hd : done = false := by cases done with | false => rfl | true => have := h.done rfl; simp only at this hsh; rw [this] at hsh; cases hsh
    subst hd
    simp only at hdo hde ⊢
    cases k with
    | fix s => simp only at hdo ⊢; show (A ++ []).length = d; rw [List.append_nil]; exact hdo
    | chk => intro hx; rw [hde] at hx; cases hx
    | unt => simp only at hdo ⊢; show (A ++ []).length = d; rw [List.append_nil]; exact hdo
  · show (endA o l).length = if (endEs o.E (sel false l)).done = true then _ else _
    rw [hde, if_pos rfl]
theorem abort_ok {o : Rs} (h : Ok o) : Ok (abortO o) := ⟨h.ok, h.low, h.data, fun _ => rfl, h.w⟩
theorem kept_le {o : Rs} (h : Ok o) : o.A.length ≤ o.W + 1 := by
  have h1 := h.w
  have h2 := (upto_le o.E o.A.length).2
  split at h1 <;> omega

end Ot
end Go.Proofs.YtilebfpaibajcaaGreatDoor

/- Plain words for layer 14: whole bodies; what an outlet has written is one just when it was ended. -/
namespace Go.Proofs.YtilebfpaibajcaaGreatDoor
namespace Ot
open Oc Fl Bk Bd Ft
set_option linter.unusedVariables false
set_option maxRecDepth 100000

/-- A framing that an intake may have. -/
def right14 (k s : Int) : Bool := (decide (k = 0) || decide (k = 2) || decide (k = 3)) && decide (s = 0) || decide (k = 1) && decide (s ≤ 4611686018427387903)
def lmax : Lim := ⟨65536, 65536, 65536⟩
def scanM (T : List UInt8) : St × Nat × Nat := go lmax (sz [] 0 0) T 0
/-- Are the bytes, and no more, a whole body? -/
def wholeF (k s : Int) (T : List UInt8) : Bool :=
  right14 k s && if k = 2 then decide ((scanM T).2.2 = 0) && decide ((scanM T).2.1 = T.length) else decide (k = 3) || decide ((T.length : Int) = s)

theorem right14_of {kind : Int} {size : Nat} (h : rightE kind size = true) : right14 kind size = true := by
  unfold rightE at h
  unfold right14
  simp at h ⊢
  omega
theorem kind_cases {kind : Int} {size : Nat} (h : rightE kind size = true) : (kind = 1 ∧ size ≤ 4611686018427387903 ∧ (newEs kind size).k = .fix size) ∨ (kind = 2 ∧ size = 0 ∧ (newEs kind size).k = .chk) ∨ (kind = 3 ∧ size = 0 ∧ (newEs kind size).k = .unt) := by
  unfold rightE at h
  by_cases h1 : kind = 1
  · subst h1
    simp at h
    exact .inl ⟨rfl, h, rfl⟩
  by_cases h2 : kind = 2
  · subst h2
    simp at h
    exact .inr (.inl ⟨rfl, h, rfl⟩)
  · simp [h1, h2] at h
    obtain ⟨rfl, h⟩ := h
    exact .inr (.inr ⟨rfl, h, rfl⟩)

/-- Chunks alone are no body. -/
theorem chunks_more (L : List (List UInt8)) (h : L.flatten.length ≤ 4611686018427387903) : (scanM (cks [] L)).2.2 = 4 := by
  unfold scanM
  have := go_chunks (l := lmax) (e := []) (.inl rfl) L [] [] 0 (fun c hc => Nat.le_trans (flat_mem hc) h)
  rw [List.append_nil] at this
  rw [this]
  rfl
theorem body_whole (L : List (List UInt8)) (fs : List Fld) (h : L.flatten.length ≤ 4611686018427387903) (hr : rights fs = true) (hf : fs.length ≤ 65536) (hb : (body fs).length ≤ 65536) :
    (scanM (bod [] L fs)).2.2 = 0 ∧ (scanM (bod [] L fs)).2.1 = (bod [] L fs).length := by
  unfold scanM
  obtain ⟨s', h1, h2, h3⟩ := go_bod (l := lmax) (e := []) (.inl rfl) (cs := L) (fun c hc => Nat.le_trans (flat_mem hc) h) hr hf hb []
  rw [List.append_nil] at h1
  rw [h1]
  exact ⟨rfl, rfl⟩

/-- What was ended is whole. -/
theorem whole_end {o : Rs} {l : List Fld} {kind : Int} {size : Nat} (h : Ok o) (hk : o.E.k = (newEs kind size).k) (hr : rightE kind size = true) (hs : ¬ stopE o l) (hd : o.E.d ≤ 4611686018427387903) (hf : (sel false l).length ≤ 65536) (hb : (body (sel false l)).length ≤ 65536) :
    wholeF kind size (endA o l) = true := by
  have hsh : o.shut = false := by cases e : o.shut with | false => rfl | true => exact absurd (.inl e) hs
  have he : endEx o.E (sel false l) = 0 := by
    by_cases e : endEx o.E (sel false l) = 0
    · exact e
    · exact absurd (.inr e) hs
  have hdn : o.E.done = false := by cases e : o.E.done with | false => rfl | true => rw [h.done e] at hsh; cases hsh
  have hok := h.ok
  have hda := h.data
  unfold wholeF
  rw [right14_of hr]
  unfold endA
  obtain ⟨E, A, W, sh⟩ := o
  obtain ⟨k, d, done⟩ := E
  simp only at hk hdn hd
  subst hdn
  rcases kind_cases hr with ⟨rfl, hs1, hk1⟩ | ⟨rfl, rfl, hk1⟩ | ⟨rfl, rfl, hk1⟩
  · obtain rfl := hk.trans hk1
    have h1 : A.length = d := hda
    have h2 : d ≤ size ∧ size ≤ 4611686018427387903 := hok
    have h3 : ¬ d < size := fun hh => by
      have : endEx ⟨.fix size, d, false⟩ (sel false l) = 4 := if_pos hh
      simp only at he
      omega
    show (true && if (1 : Int) = 2 then _ else decide ((1 : Int) = 3) || decide (((A ++ []).length : Int) = size)) = true
    rw [if_neg (by decide), List.append_nil]
    simp
    omega
  · obtain rfl := hk.trans hk1
    obtain ⟨L, h1, h2⟩ := (show false = false → ∃ L : List (List UInt8), A = cks [] L ∧ L.flatten.length = d from hda) rfl
    have hrr : rights (sel false l) = true := by
      cases hx : rights (sel false l) with
      | true => rfl
      | false =>
        have : endEx ⟨.chk, d, false⟩ (sel false l) = 1 := by show wrongE _ = 1; unfold wrongE; rw [if_neg (by rw [hx]; decide)]
        simp only at he
        omega
    show (true && if (2 : Int) = 2 then decide ((scanM (A ++ lastB (sel false l))).2.2 = 0) && decide ((scanM (A ++ lastB (sel false l))).2.1 = (A ++ lastB (sel false l)).length) else _) = true
    have e1 : A ++ lastB (sel false l) = bod [] L (sel false l) := by rw [h1, lastB_yes hrr]; unfold bod; simp
    rw [if_pos rfl, e1]
    obtain ⟨q1, q2⟩ := body_whole L (sel false l) (by omega) hrr hf hb
    rw [q1, q2]
    simp
  · show (true && if (3 : Int) = 2 then _ else decide ((3 : Int) = 3) || _) = true
    rw [if_neg (by decide)]
    rfl
/-- What was not is none. -/
theorem whole_not {o : Rs} {kind : Int} {size : Nat} (h : Ok o) (hk : o.E.k = (newEs kind size).k) (hr : rightE kind size = true) (hdn : o.E.done = false) (h3 : kind ≠ 3) (h0 : ¬ (kind = 1 ∧ size = 0)) (hd : o.E.d ≤ 4611686018427387903) :
    wholeF kind size (o.A.take o.W) = false := by
  have hok := h.ok
  have hda := h.data
  have hw := h.w
  have hlow := h.low
  unfold wholeF
  rw [right14_of hr]
  obtain ⟨E, A, W, sh⟩ := o
  obtain ⟨k, d, done⟩ := E
  simp only at hk hdn hd
  subst hdn
  rw [if_neg (show ¬ false = true by decide)] at hw
  rcases kind_cases hr with ⟨rfl, hs1, hk1⟩ | ⟨rfl, rfl, hk1⟩ | ⟨rfl, rfl, hk1⟩
  · obtain rfl := hk.trans hk1
    have h1 : A.length = d := hda
    have h2 : d ≤ size ∧ size ≤ 4611686018427387903 := hok
    have h4 : W = upto ⟨.fix size, d, false⟩ A.length := hw
    have h5 : W ≠ size := by
      have e : full ⟨.fix size, d, false⟩ A.length = (decide (0 < A.length) && decide (A.length = size)) := rfl
      unfold upto at h4
      rw [e] at h4
      simp at h4
      split at h4 <;> omega
    show (true && if (1 : Int) = 2 then _ else decide ((1 : Int) = 3) || decide (((A.take W).length : Int) = size)) = false
    rw [if_neg (by decide), List.length_take, Nat.min_eq_left hlow]
    simp
    omega
  · obtain rfl := hk.trans hk1
    obtain ⟨L, h1, h2⟩ := (show false = false → ∃ L : List (List UInt8), A = cks [] L ∧ L.flatten.length = d from hda) rfl
    have h4 : W = A.length := hw
    show (true && if (2 : Int) = 2 then decide ((scanM (A.take W)).2.2 = 0) && _ else _) = false
    rw [if_pos rfl, h4, List.take_length, h1, chunks_more L (by omega)]
    rfl
  · exact absurd rfl h3

/-- What was written, one piece behind the other. -/
theorem put_take {o : Rs} (T : List UInt8) (h : Ok o) : o.A.take o.W ++ putOb o T = (putO o T).A.take (putO o T).W := by
  unfold putOb putO
  by_cases hs : stopP o T
  · rw [if_pos hs, if_pos hs, List.append_nil]
  rw [if_neg hs, if_neg hs]
  have hsh : o.shut = false := by cases e : o.shut with | false => rfl | true => exact absurd (.inl e) hs
  have hd : o.E.done = false := by cases e : o.E.done with | false => rfl | true => rw [h.done e] at hsh; cases hsh
  have hw := h.w
  rw [if_neg (by rw [hd]; decide)] at hw
  have hu : o.W ≤ upto o.E (putA o T).length := by
    rw [hw]
    by_cases e : (putA o T).length = o.A.length
    · rw [e]; exact Nat.le_refl _
    · have h1 : o.A.length ≤ (putA o T).length := by unfold putA; rw [List.length_append]; omega
      have := (upto_le o.E o.A.length).1
      have := (upto_le o.E (putA o T).length).2
      omega
  have e1 : o.A.take o.W = ((putA o T).take (upto o.E (putA o T).length)).take o.W := by
    rw [List.take_take, Nat.min_eq_left hu]
    unfold putA
    rw [List.take_append_of_le_length h.low]
  show _ = (putA o T).take (upto o.E (putA o T).length)
  rw [e1, List.take_append_drop]
theorem end_take {o : Rs} (l : List Fld) (h : Ok o) (hs : ¬ stopE o l) : o.A.take o.W ++ endOb o l = endA o l := by
  unfold endOb
  rw [if_neg hs]
  have e1 : o.A.take o.W = (endA o l).take o.W := by
    unfold endA
    rw [List.take_append_of_le_length h.low]
  rw [e1, List.take_append_drop]

end Ot
end Go.Proofs.YtilebfpaibajcaaGreatDoor

/- Which framings an intake may have: what intake.Right, and the document's, answer. -/
namespace Go.Proofs.YtilebfpaibajcaaGreatDoor
open Go.ChangeShapes Go.WideShapes Go.ChangeAt Go.RowKit
open Oc Fl Bk Bd Ot
set_option linter.unusedVariables false
set_option maxRecDepth 100000

/-- A framing as a value. -/
abbrev fr14 (k s : Int) : Value := .agg #[.int .i64 k, .int .u64 s]
theorem right14_no {k s : Int} (h0 : k ≠ 0) (h1 : k ≠ 1) (h2 : k ≠ 2) (h3 : k ≠ 3) : right14 k s = false := by unfold right14; simp [h0, h1, h2, h3]
set_option maxHeartbeats 2000000 in
theorem right14_any (k s : Int) (w : World) : Calls Tryz.prog 37 #[fr14 k s] w fun x w' => x = .returned (.bool (right14 k s)) ∧ Below w.heap.size w w' := by
  have HB := Lib.hid (below_box w (.cells #[.int .i64 k, .int .u64 s] 24))
  unfold fr14
  by_cases h0 : k = 0
  · subst h0
    go_enter Tryz.func37, Tryz.ntmps37
    go_wp2_with fail
    go_ret
    exact ⟨ret_bool (by unfold right14; rw [Bool.eq_iff_iff]; simp), HB.out⟩
  by_cases h1 : k = 1
  · subst h1
    go_enter Tryz.func37, Tryz.ntmps37
    go_wp2_with fail
    go_ret
    exact ⟨ret_bool (by unfold right14; rw [Bool.eq_iff_iff]; simp), HB.out⟩
  by_cases h2 : k = 2
  · subst h2
    go_enter Tryz.func37, Tryz.ntmps37
    go_wp2_with fail
    go_ret
    exact ⟨ret_bool (by unfold right14; rw [Bool.eq_iff_iff]; simp), HB.out⟩
  by_cases h3 : k = 3
  · subst h3
    go_enter Tryz.func37, Tryz.ntmps37
    go_wp2_with fail
    go_ret
    exact ⟨ret_bool (by unfold right14; rw [Bool.eq_iff_iff]; simp), HB.out⟩
  rw [right14_no h0 h1 h2 h3]
  have e0 : (k == 0) = false := beq_eq_false_iff_ne.2 h0
  have e1 : (k == 1) = false := beq_eq_false_iff_ne.2 h1
  have e2 : (k == 2) = false := beq_eq_false_iff_ne.2 h2
  have e3 : (k == 3) = false := beq_eq_false_iff_ne.2 h3
  clear h0 h1 h2 h3
  go_enter Tryz.func37, Tryz.ntmps37
  go_wp2_with fail
  go_ret
  exact ⟨rfl, HB.out⟩
set_option maxHeartbeats 2000000 in
theorem rright14_any (k s : Int) (w : World) : Calls Tryz.prog 35 #[fr14 k s] w fun x w' => x = .returned (.bool (right14 k s)) ∧ Below w.heap.size w w' := by
  have HB := Lib.hid (below_box w (.cells #[.int .i64 k, .int .u64 s] 24))
  unfold fr14
  by_cases hs : 4611686018427387903 < s
  · have hF : right14 k s = false := by unfold right14; simp; omega
    rw [hF]
    clear hF
    by_cases hk0 : k < 0
    · go_enter Tryz.func35, Tryz.ntmps35
      go_wp2_with fail
      go_ret
      exact ⟨rfl, HB.out⟩
    by_cases hk3 : 3 < k
    · go_enter Tryz.func35, Tryz.ntmps35
      go_wp2_with fail
      go_ret
      exact ⟨rfl, HB.out⟩
    go_enter Tryz.func35, Tryz.ntmps35
    go_wp2_with fail
    go_ret
    exact ⟨rfl, HB.out⟩
  by_cases hk0 : k < 0
  · rw [right14_no (by omega) (by omega) (by omega) (by omega)]
    go_enter Tryz.func35, Tryz.ntmps35
    go_wp2_with fail
    go_ret
    exact ⟨rfl, HB.out⟩
  by_cases hk3 : 3 < k
  · rw [right14_no (by omega) (by omega) (by omega) (by omega)]
    go_enter Tryz.func35, Tryz.ntmps35
    go_wp2_with fail
    go_ret
    exact ⟨rfl, HB.out⟩
  by_cases h1 : k = 1
  · subst h1
    have hF : right14 1 s = true := by unfold right14; simp; omega
    rw [hF]
    clear hF
    go_enter Tryz.func35, Tryz.ntmps35
    go_wp2_with fail
    go_ret
    exact ⟨rfl, HB.out⟩
  have e1 : (k == 1) = false := beq_eq_false_iff_ne.2 h1
  have hF : right14 k s = (s == 0) := by unfold right14; rw [Bool.eq_iff_iff]; simp; omega
  rw [hF]
  clear hF h1
  go_enter Tryz.func35, Tryz.ntmps35
  go_wp2_with fail
  go_ret
  exact ⟨rfl, HB.out⟩

end Go.Proofs.YtilebfpaibajcaaGreatDoor
