/- ME: BodyMath, BodySec, BodyPutMath in one. -/
import Derived.Test.YtilebfpaibajcaaGreatDoorMB
import Derived.Test.YtilebfpaibajcaaGreatDoorHexaMath
/- Plain words for layer 8: chunked bodies, byte by byte. -/
namespace Go.Proofs.YtilebfpaibajcaaGreatDoor
namespace Bd
open Oc Fl Bk Hx

structure Lim where
  ext : Nat
  fields : Nat
  bytes : Nat

/-- Where the next byte stands, and what was read. -/
structure St where
  place : Nat
  n : Nat
  count : Nat
  lines : Nat
  size : Nat
  text : List UInt8
  data : List UInt8
  fields : List Fld

/-- The field of a line. -/
def lf (x : List UInt8) : Fld := if good (arr x) = true then parsed (arr x) else ⟨⟨#[]⟩, ⟨#[]⟩⟩
def dn (c : UInt8) : Nat := (dg (c.toNat : Int)).toNat
def lineE (l : Lim) (s : St) : Nat := if l.bytes ≤ s.size then 5 else 0

/-- What is wrong with the byte c, or 0. -/
def er (l : Lim) (s : St) (c : UInt8) : Nat :=
  match s.place with
  | 0 => if isd c = true then (if s.count = 16 ∨ 288230376151711743 < s.n then 3 else 0) else if s.count = 0 ∨ (c ≠ 59 ∧ c ≠ 13) then 2 else if c = 13 then 0 else if l.ext < 1 then 5 else 0
  | 1 => if c = 13 then 0 else if txb c = false then 2 else if l.ext ≤ s.count then 5 else 0
  | 2 => if c = 10 then 0 else 2
  | 3 => 0
  | 4 => if c = 13 then 0 else 2
  | 5 => if c = 10 then 0 else 2
  | 6 => if c = 13 then 0 else if tkb c = false then 2 else if l.fields ≤ s.lines then 5 else lineE l s
  | 7 => if c = 58 then lineE l s else if tkb c = false then 2 else lineE l s
  | 8 => if c = 13 then lineE l s else if txb c = false then 2 else lineE l s
  | 9 => if c = 10 then lineE l s else 2
  | 10 => if c = 10 then 0 else 2
  | _ => 0
/-- The state behind the byte c, which isn't wrong. -/
def nxt (s : St) (c : UInt8) : St :=
  match s.place with
  | 0 => if isd c = true then { s with n := 16 * s.n + dn c, count := s.count + 1 } else if c = 13 then { s with place := 2 } else { s with place := 1, count := 1 }
  | 1 => if c = 13 then { s with place := 2 } else { s with count := s.count + 1 }
  | 2 => if 0 < s.n then { s with place := 3 } else { s with place := 6 }
  | 3 => { s with data := s.data ++ [c], n := s.n - 1, place := if s.n - 1 = 0 then 4 else 3 }
  | 4 => { s with place := 5 }
  | 5 => { s with place := 0, count := 0 }
  | 6 => if c = 13 then { s with place := 10 } else { s with lines := s.lines + 1, place := 7, size := s.size + 1, text := s.text ++ [c] }
  | 7 => { s with place := if c = 58 then 8 else 7, size := s.size + 1, text := s.text ++ [c] }
  | 8 => { s with place := if c = 13 then 9 else 8, size := s.size + 1, text := s.text ++ [c] }
  | 9 => { s with size := s.size + 1, fields := s.fields ++ [lf s.text.dropLast], text := [], place := 6 }
  | 10 => { s with place := 11 }
  | _ => s

/-- Byte by byte: the last state, the place, and what is told there. -/
def go (l : Lim) : St → List UInt8 → Nat → St × Nat × Nat
  | s, [], i => (s, i, 4)
  | s, c :: r, i => if er l s c = 0 then (if (nxt s c).place = 11 then (nxt s c, i + 1, 0) else go l (nxt s c) r (i + 1)) else (s, i, er l s c)

theorem go_nil (l : Lim) (s : St) (i : Nat) : go l s [] i = (s, i, 4) := rfl
theorem go_bad {l : Lim} {s : St} {c : UInt8} {r : List UInt8} {i e : Nat} (h : er l s c = e) (he : e ≠ 0) : go l s (c :: r) i = (s, i, e) := by
  subst h; simp [go, he]
theorem go_step {l : Lim} {s s' : St} {c : UInt8} {r : List UInt8} {i : Nat} (h : er l s c = 0) (hs : nxt s c = s') (hp : s'.place ≠ 11) : go l s (c :: r) i = go l s' r (i + 1) := by
  subst hs
  show (if er l s c = 0 then (if (nxt s c).place = 11 then (nxt s c, i + 1, 0) else go l (nxt s c) r (i + 1)) else (s, i, er l s c)) = _
  rw [if_pos h, if_neg hp]
theorem go_last {l : Lim} {s s' : St} {c : UInt8} {r : List UInt8} {i : Nat} (h : er l s c = 0) (hs : nxt s c = s') (hp : s'.place = 11) : go l s (c :: r) i = (s', i + 1, 0) := by
  subst hs
  show (if er l s c = 0 then (if (nxt s c).place = 11 then (nxt s c, i + 1, 0) else go l (nxt s c) r (i + 1)) else (s, i, er l s c)) = _
  rw [if_pos h, if_pos hp]

theorem go_at (l : Lim) (s : St) (x : List UInt8) (i : Nat) : i ≤ (go l s x i).2.1 ∧ (go l s x i).2.1 ≤ i + x.length ∧ ((go l s x i).2.2 = 4 → (go l s x i).2.1 = i + x.length) := by
  induction x generalizing s i with
  | nil => exact ⟨Nat.le_refl _, Nat.le_refl _, fun _ => rfl⟩
  | cons c r ih =>
    by_cases h : er l s c = 0
    · by_cases hp : (nxt s c).place = 11
      · rw [go_last h rfl hp]; simp
      · rw [go_step h rfl hp]
        have := ih (nxt s c) (i + 1)
        simp only [List.length_cons]
        omega
    · rw [go_bad rfl h]
      simp only [List.length_cons]
      refine ⟨Nat.le_refl _, by omega, fun e => ?_⟩
      exfalso
      revert e
      unfold er lineE
      (repeat' split) <;> simp
theorem er_four (l : Lim) (s : St) (c : UInt8) : er l s c ≠ 4 := by unfold er lineE; (repeat' split) <;> simp
theorem er_le (l : Lim) (s : St) (c : UInt8) : er l s c ≤ 5 := by unfold er lineE; (repeat' split) <;> simp
theorem go_le (l : Lim) (s : St) (x : List UInt8) (i : Nat) : (go l s x i).2.2 ≤ 5 := by
  induction x generalizing s i with
  | nil => simp [go]
  | cons c r ih =>
    by_cases h : er l s c = 0
    · by_cases hp : (nxt s c).place = 11
      · rw [go_last h rfl hp]; simp
      · rw [go_step h rfl hp]; exact ih _ _
    · rw [go_bad rfl h]; exact er_le l s c
/-- What has gone wrong, or come to its end, stays so, whatever follows. -/
theorem go_app (l : Lim) (s : St) (x y : List UInt8) (i : Nat) (h : (go l s x i).2.2 ≠ 4) : go l s (x ++ y) i = go l s x i := by
  induction x generalizing s i with
  | nil => exact absurd rfl h
  | cons c r ih =>
    rw [List.cons_append]
    by_cases h0 : er l s c = 0
    · by_cases hp : (nxt s c).place = 11
      · rw [go_last h0 rfl hp, go_last h0 rfl hp]
      · rw [go_step h0 rfl hp] at h ⊢
        rw [go_step h0 rfl hp, ih _ _ h]
    · rw [go_bad rfl h0, go_bad rfl h0]
theorem nxt_data (s : St) (c : UInt8) : ∃ d, (nxt s c).data = s.data ++ d := by
  unfold nxt
  split
  case h_4 => exact ⟨[c], rfl⟩
  all_goals (try split) <;> (try split) <;> exact ⟨[], by simp⟩
theorem go_data (l : Lim) (s : St) (x : List UInt8) (i : Nat) : ∃ d, (go l s x i).1.data = s.data ++ d := by
  induction x generalizing s i with
  | nil => exact ⟨[], by simp [go]⟩
  | cons c r ih =>
    by_cases h : er l s c = 0
    · by_cases hp : (nxt s c).place = 11
      · rw [go_last h rfl hp]; exact nxt_data s c
      · rw [go_step h rfl hp]
        obtain ⟨d, hd⟩ := ih (nxt s c) (i + 1)
        obtain ⟨d', hd'⟩ := nxt_data s c
        exact ⟨d' ++ d, by rw [hd, hd', List.append_assoc]⟩
    · rw [go_bad rfl h]; exact ⟨[], by simp⟩
/-- Cut short ahead of its end, it goes on so far; its data are a beginning. -/
theorem go_cut (l : Lim) (s : St) (x : List UInt8) (i k : Nat) (h0 : (go l s x i).2.2 = 0) (hk : i + k < (go l s x i).2.1) :
    (go l s (x.take k) i).2 = (i + k, 4) ∧ ∃ d, (go l s x i).1.data = (go l s (x.take k) i).1.data ++ d := by
  induction x generalizing s i k with
  | nil => simp [go] at h0
  | cons c r ih =>
    by_cases h : er l s c = 0
    · by_cases hp : (nxt s c).place = 11
      · rw [go_last h rfl hp] at hk ⊢
        obtain rfl : k = 0 := by simp at hk; omega
        exact ⟨rfl, nxt_data s c⟩
      · cases k with
        | zero => exact ⟨rfl, go_data l s (c :: r) i⟩
        | succ k =>
          rw [List.take_succ_cons]
          rw [go_step h rfl hp] at h0 hk ⊢
          rw [go_step h rfl hp]
          have := ih (nxt s c) (i + 1) k h0 (by omega)
          rw [show i + (k + 1) = i + 1 + k by omega]
          exact this
    · rw [go_bad rfl h] at h0; exact absurd h0 h

/-- Greater limits. -/
structure Lim.le (l g : Lim) : Prop where
  ext : l.ext ≤ g.ext
  fields : l.fields ≤ g.fields
  bytes : l.bytes ≤ g.bytes
theorem er_limits {l g : Lim} (h : l.le g) (s : St) (c : UInt8) (h5 : er l s c ≠ 5) : er g s c = er l s c := by
  obtain ⟨h1, h2, h3⟩ := h
  obtain ⟨p, n, k, li, si, tx, da, fs⟩ := s
  have a1 : ¬ l.ext < 1 → ¬ g.ext < 1 := by omega
  have a2 : ¬ l.ext ≤ k → ¬ g.ext ≤ k := by omega
  have a3 : ¬ l.fields ≤ li → ¬ g.fields ≤ li := by omega
  have a4 : ¬ l.bytes ≤ si → ¬ g.bytes ≤ si := by omega
  match p with
  | 0 =>
    simp only [er] at h5 ⊢
    by_cases b1 : isd c = true
    · rw [if_pos b1, if_pos b1]
    · rw [if_neg b1] at h5 ⊢
      rw [if_neg b1]
      by_cases b2 : k = 0 ∨ c ≠ 59 ∧ c ≠ 13
      · rw [if_pos b2, if_pos b2]
      · rw [if_neg b2] at h5 ⊢
        rw [if_neg b2]
        by_cases b3 : c = 13
        · rw [if_pos b3, if_pos b3]
        · rw [if_neg b3] at h5 ⊢
          rw [if_neg b3]
          by_cases b4 : l.ext < 1
          · rw [if_pos b4] at h5; exact absurd rfl h5
          · rw [if_neg b4, if_neg (a1 b4)]
  | 1 =>
    simp only [er] at h5 ⊢
    by_cases b1 : c = 13
    · rw [if_pos b1, if_pos b1]
    · rw [if_neg b1] at h5 ⊢
      rw [if_neg b1]
      by_cases b2 : txb c = false
      · rw [if_pos b2, if_pos b2]
      · rw [if_neg b2] at h5 ⊢
        rw [if_neg b2]
        by_cases b4 : l.ext ≤ k
        · rw [if_pos b4] at h5; exact absurd rfl h5
        · rw [if_neg b4, if_neg (a2 b4)]
  | 2 =>
    rfl
  | 3 =>
    rfl
  | 4 =>
    rfl
  | 5 =>
    rfl
  | 6 =>
    simp only [er, lineE] at h5 ⊢
    by_cases b1 : c = 13
    · rw [if_pos b1, if_pos b1]
    · rw [if_neg b1] at h5 ⊢
      rw [if_neg b1]
      by_cases b2 : tkb c = false
      · rw [if_pos b2, if_pos b2]
      · rw [if_neg b2] at h5 ⊢
        rw [if_neg b2]
        by_cases b3 : l.fields ≤ li
        · rw [if_pos b3] at h5; exact absurd rfl h5
        · rw [if_neg b3] at h5 ⊢
          rw [if_neg (a3 b3)]
          by_cases b4 : l.bytes ≤ si
          · rw [if_pos b4] at h5; exact absurd rfl h5
          · rw [if_neg b4, if_neg (a4 b4)]
  | 7 =>
    simp only [er, lineE] at h5 ⊢
    by_cases b4 : l.bytes ≤ si
    · rw [if_pos b4] at h5 ⊢
      by_cases b1 : c = 58
      · rw [if_pos b1] at h5; exact absurd rfl h5
      · rw [if_neg b1] at h5 ⊢
        rw [if_neg b1]
        by_cases b2 : tkb c = false
        · rw [if_pos b2, if_pos b2]
        · rw [if_neg b2] at h5; exact absurd rfl h5
    · rw [if_neg b4, if_neg (a4 b4)]
  | 8 =>
    simp only [er, lineE] at h5 ⊢
    by_cases b4 : l.bytes ≤ si
    · rw [if_pos b4] at h5 ⊢
      by_cases b1 : c = 13
      · rw [if_pos b1] at h5; exact absurd rfl h5
      · rw [if_neg b1] at h5 ⊢
        rw [if_neg b1]
        by_cases b2 : txb c = false
        · rw [if_pos b2, if_pos b2]
        · rw [if_neg b2] at h5; exact absurd rfl h5
    · rw [if_neg b4, if_neg (a4 b4)]
  | 9 =>
    simp only [er, lineE] at h5 ⊢
    by_cases b4 : l.bytes ≤ si
    · rw [if_pos b4] at h5 ⊢
      by_cases b1 : c = 10
      · rw [if_pos b1] at h5; exact absurd rfl h5
      · rw [if_neg b1, if_neg b1]
    · rw [if_neg b4, if_neg (a4 b4)]
  | 10 =>
    rfl
  | q + 11 =>
    rfl
theorem go_limits {l g : Lim} (h : l.le g) (s : St) (x : List UInt8) (i : Nat) :
    ((go l s x i).2.2 ≠ 5 → go g s x i = go l s x i) ∧ ((go l s x i).2.2 = 5 → (go l s x i).2.1 ≤ (go g s x i).2.1) := by
  induction x generalizing s i with
  | nil => exact ⟨fun _ => rfl, fun h => by simp [go] at h⟩
  | cons c r ih =>
    by_cases h5 : er l s c = 5
    · rw [go_bad h5 (by decide)]
      exact ⟨fun h => absurd rfl h, fun _ => (go_at g s (c :: r) i).1⟩
    · have e := er_limits h s c h5
      by_cases h0 : er l s c = 0
      · by_cases hp : (nxt s c).place = 11
        · rw [go_last h0 rfl hp, go_last (e.trans h0) rfl hp]; simp
        · rw [go_step h0 rfl hp, go_step (e.trans h0) rfl hp]; exact ih _ _
      · rw [go_bad rfl h0, go_bad e h0]
        exact ⟨fun _ => rfl, fun h => absurd h h5⟩

/-- At a size's digits, in an extension, at data, behind them, at the section. -/
def sz (D : List UInt8) (n c : Nat) : St := ⟨0, n, c, 0, 0, [], D, []⟩
def ex (D : List UInt8) (n c : Nat) : St := ⟨1, n, c, 0, 0, [], D, []⟩
def dt (D : List UInt8) (n c : Nat) : St := ⟨3, n, c, 0, 0, [], D, []⟩
def d4 (D : List UInt8) (c : Nat) : St := ⟨4, 0, c, 0, 0, [], D, []⟩
def s6 (D : List UInt8) (c : Nat) : St := ⟨6, 0, c, 0, 0, [], D, []⟩

theorem drop_some {T : List UInt8} {k : Nat} {b : UInt8} (h : T[k]? = some b) : T.drop k = b :: T.drop (k + 1) := by
  obtain ⟨hlt, e⟩ := List.getElem?_eq_some_iff.1 h
  rw [List.drop_eq_getElem_cons hlt, e]
theorem drop_none {T : List UInt8} {k : Nat} (h : T.length ≤ k) : T.drop k = [] := List.drop_eq_nil_of_le h

theorem sz_digit {l : Lim} {T D : List UInt8} {n c k : Nat} {b : UInt8} (h : T[k]? = some b) (hb : isd b = true) (hc : c < 16) (hn : n ≤ 288230376151711743) :
    go l (sz D n c) (T.drop k) k = go l (sz D (16 * n + dn b) (c + 1)) (T.drop (k + 1)) (k + 1) := by
  rw [drop_some h]
  refine go_step ?_ ?_ ?_
  · show (if isd b = true then (if c = 16 ∨ 288230376151711743 < n then 3 else 0) else _) = 0
    rw [if_pos hb, if_neg (by omega)]
  · show (if isd b = true then _ else _) = _
    rw [if_pos hb]; rfl
  · show (0 : Nat) ≠ 11
    decide
theorem sz_big {l : Lim} {T D : List UInt8} {n c k : Nat} {b : UInt8} (h : T[k]? = some b) (hb : isd b = true) (hn : c = 16 ∨ 288230376151711743 < n) : go l (sz D n c) (T.drop k) k = (sz D n c, k, 3) := by
  rw [drop_some h]
  refine go_bad ?_ (by decide)
  show (if isd b = true then (if c = 16 ∨ 288230376151711743 < n then 3 else 0) else _) = 3
  rw [if_pos hb, if_pos hn]
theorem sz_none {l : Lim} {T D : List UInt8} {n k : Nat} {b : UInt8} (h : T[k]? = some b) (hb : isd b = false) : go l (sz D n 0) (T.drop k) k = (sz D n 0, k, 2) := by
  rw [drop_some h]
  refine go_bad ?_ (by decide)
  simp [er, sz, hb]
theorem go_end (l : Lim) (s : St) {T : List UInt8} {k : Nat} (h : T.length ≤ k) : go l s (T.drop k) k = (s, k, 4) := by rw [drop_none h]; rfl

theorem semi_not : isd 59 = false ∧ isd 13 = false := by decide
theorem sz_semi {l : Lim} {T D : List UInt8} {n c k : Nat} (h : T[k]? = some 59) (hc : c ≠ 0) (he : 1 ≤ l.ext) : go l (sz D n c) (T.drop k) k = go l (ex D n 1) (T.drop (k + 1)) (k + 1) := by
  rw [drop_some h]
  refine go_step ?_ rfl ?_
  · have : l.ext ≠ 0 := by omega
    simp [er, sz, semi_not, hc, this]
  · show (1 : Nat) ≠ 11
    decide
theorem sz_semi_no {l : Lim} {T D : List UInt8} {n c k : Nat} (h : T[k]? = some 59) (hc : c ≠ 0) (he : l.ext = 0) : go l (sz D n c) (T.drop k) k = (sz D n c, k, 5) := by
  rw [drop_some h]
  refine go_bad ?_ (by decide)
  simp [er, sz, semi_not, hc, he]
theorem ex_text {l : Lim} {T D : List UInt8} {n c k : Nat} {b : UInt8} (h : T[k]? = some b) (hb : txb b = true) (hc : c < l.ext) : go l (ex D n c) (T.drop k) k = go l (ex D n (c + 1)) (T.drop (k + 1)) (k + 1) := by
  have h13 := (txt_ne hb).1
  rw [drop_some h]
  refine go_step ?_ ?_ ?_
  · show (if b = 13 then 0 else if txb b = false then 2 else if l.ext ≤ c then 5 else 0) = 0
    rw [if_neg h13, if_neg (by rw [hb]; decide), if_neg (by omega)]
  · show (if b = 13 then _ else _) = _
    rw [if_neg h13]; rfl
  · show (1 : Nat) ≠ 11
    decide
theorem ex_limit {l : Lim} {T D : List UInt8} {n c k : Nat} {b : UInt8} (h : T[k]? = some b) (hb : txb b = true) (hc : l.ext ≤ c) : go l (ex D n c) (T.drop k) k = (ex D n c, k, 5) := by
  have h13 := (txt_ne hb).1
  rw [drop_some h]
  refine go_bad ?_ (by decide)
  show (if b = 13 then 0 else if txb b = false then 2 else if l.ext ≤ c then 5 else 0) = 5
  rw [if_neg h13, if_neg (by rw [hb]; decide), if_pos hc]
theorem ex_bad {l : Lim} {T D : List UInt8} {n c k : Nat} {b : UInt8} (h : T[k]? = some b) (hb : txb b = false) (h13 : b ≠ 13) : go l (ex D n c) (T.drop k) k = (ex D n c, k, 2) := by
  rw [drop_some h]
  refine go_bad ?_ (by decide)
  show (if b = 13 then 0 else if txb b = false then 2 else if l.ext ≤ c then 5 else 0) = 2
  rw [if_neg h13, if_pos hb]

/-- How an end is read: how many bytes, and what is told. -/
def ends : List UInt8 → Nat × Nat
  | [] => (0, 4)
  | [b] => if b = 13 then (1, 4) else (0, 2)
  | b :: c :: _ => if b = 13 then (if c = 10 then (2, 0) else (1, 2)) else (0, 2)

/-- Behind the digits, or the extension: s is one of these states. -/
def Head (s : St) (T D : List UInt8) (n k : Nat) : Prop := (∃ c b, s = sz D n c ∧ c ≠ 0 ∧ T[k]? = some b ∧ isd b = false ∧ b ≠ 59) ∨ (∃ c, s = ex D n c ∧ T[k]? = some 13)
theorem head_end {l : Lim} {s : St} {T D : List UInt8} {n k : Nat} (h : Head s T D n k) :
    ((ends (T.drop k)).2 ≠ 0 → ∃ s', go l s (T.drop k) k = (s', k + (ends (T.drop k)).1, (ends (T.drop k)).2) ∧ s'.data = D) ∧
    ((ends (T.drop k)).2 = 0 → ∃ c, go l s (T.drop k) k = go l (if n = 0 then s6 D c else dt D n c) (T.drop (k + 2)) (k + 2) ∧ k + 2 ≤ T.length) := by
  have key : ∀ c, (T[k]? = some 13) → go l s (T.drop k) k = go l ⟨2, n, c, 0, 0, [], D, []⟩ (T.drop (k + 1)) (k + 1) →
      ((ends (T.drop k)).2 ≠ 0 → ∃ s', go l s (T.drop k) k = (s', k + (ends (T.drop k)).1, (ends (T.drop k)).2) ∧ s'.data = D) ∧
      ((ends (T.drop k)).2 = 0 → ∃ c, go l s (T.drop k) k = go l (if n = 0 then s6 D c else dt D n c) (T.drop (k + 2)) (k + 2) ∧ k + 2 ≤ T.length) := by
    intro c h13 e
    rw [e, drop_some h13]
    cases h1 : T[k + 1]? with
    | none =>
      have hle : T.length ≤ k + 1 := by simpa using h1
      rw [drop_none hle]
      exact ⟨fun _ => ⟨_, rfl, rfl⟩, fun h => by simp [ends] at h⟩
    | some d =>
      have hlt := (List.getElem?_eq_some_iff.1 h1).1
      rw [drop_some h1]
      by_cases hd : d = 10
      · subst hd
        refine ⟨fun h => absurd (by simp [ends]) h, fun _ => ⟨c, ?_, by omega⟩⟩
        refine go_step (by simp [er]) ?_ ?_
        · by_cases hn : n = 0
          · subst hn; simp [nxt, s6]
          · simp [nxt, dt, hn, Nat.pos_of_ne_zero hn]
        · split <;> simp [s6, dt]
      · refine ⟨fun _ => ⟨⟨2, n, c, 0, 0, [], D, []⟩, ?_, rfl⟩, fun h => by simp [ends, hd] at h⟩
        rw [go_bad (e := 2) (by simp [er, hd]) (by decide)]
        simp [ends, hd]
  rcases h with ⟨c, b, rfl, hc, hb, hi, h59⟩ | ⟨c, rfl, hb⟩
  · by_cases h13 : b = 13
    · subst h13
      refine key c hb ?_
      rw [drop_some hb]
      exact go_step (by simp [er, sz, hi, hc]) (by simp [nxt, sz, hi]) (by simp)
    · have e : go l (sz D n c) (T.drop k) k = (sz D n c, k, 2) := by
        rw [drop_some hb]
        exact go_bad (by simp [er, sz, hi, h13, h59]) (by decide)
      have e2 : ends (T.drop k) = (0, 2) := by
        rw [drop_some hb]
        cases T.drop (k + 1) <;> simp [ends, h13]
      rw [e, e2]
      exact ⟨fun _ => ⟨_, rfl, rfl⟩, fun h => by simp at h⟩
  · refine key c hb ?_
    rw [drop_some hb]
    exact go_step (by simp [er, ex]) (by simp [nxt, ex]) (by simp)

theorem er_dt (l : Lim) (D : List UInt8) (n c : Nat) (b : UInt8) : er l (dt D n c) b = 0 := rfl
theorem dt_run {l : Lim} (x : List UInt8) : ∀ (D y : List UInt8) (n c i : Nat), x.length ≤ n → x ≠ [] → go l (dt D n c) (x ++ y) i = go l (if n = x.length then d4 (D ++ x) c else dt (D ++ x) (n - x.length) c) y (i + x.length) := by
  induction x with
  | nil => intro D y n c i _ h; exact absurd rfl h
  | cons b x ih =>
    intro D y n c i hn _
    simp only [List.length_cons] at hn
    rw [List.cons_append]
    have hs : nxt (dt D n c) b = if n - 1 = 0 then d4 (D ++ [b]) c else dt (D ++ [b]) (n - 1) c := by
      show (⟨if n - 1 = 0 then 4 else 3, n - 1, c, 0, 0, [], D ++ [b], []⟩ : St) = _
      by_cases h0 : n - 1 = 0
      · rw [if_pos h0, if_pos h0, h0]; rfl
      · rw [if_neg h0, if_neg h0]; rfl
    rw [go_step (er_dt l D n c b) hs (by split <;> simp [d4, dt])]
    by_cases hx : x = []
    · subst hx
      simp only [List.nil_append, List.length_cons, List.length_nil]
      by_cases h1 : n = 1
      · subst h1; simp
      · rw [if_neg (by omega), if_neg (by omega)]
    · have hl : 0 < x.length := List.length_pos_iff.2 hx
      rw [if_neg (by omega), ih (D ++ [b]) y (n - 1) c (i + 1) (by omega) hx]
      simp only [List.length_cons, List.append_assoc, List.singleton_append]
      rw [show i + 1 + x.length = i + (x.length + 1) by omega]
      by_cases h1 : n = x.length + 1
      · rw [if_pos (by omega), if_pos h1]
      · rw [if_neg (by omega), if_neg h1, show n - 1 - x.length = n - (x.length + 1) by omega]

/-- Data. -/
theorem dt_all {l : Lim} {T D : List UInt8} {n c k : Nat} (hn : 0 < n) (h : k + n ≤ T.length) : go l (dt D n c) (T.drop k) k = go l (d4 (D ++ (T.drop k).take n) c) (T.drop (k + n)) (k + n) := by
  have hl : ((T.drop k).take n).length = n := by simp; omega
  have e : T.drop k = (T.drop k).take n ++ T.drop (k + n) := by rw [← List.drop_drop, List.take_append_drop]
  conv => lhs; rw [e]
  rw [dt_run _ D _ n c k (by omega) (by intro h0; rw [h0] at hl; simp at hl; omega), if_pos hl.symm, hl]
theorem dt_some {l : Lim} {T D : List UInt8} {n c k : Nat} (hk : k ≤ T.length) (h : T.length < k + n) : ∃ s', go l (dt D n c) (T.drop k) k = (s', T.length, 4) ∧ s'.data = D ++ T.drop k := by
  by_cases hx : T.drop k = []
  · have : T.length ≤ k := by simpa using hx
    rw [hx]
    exact ⟨_, by rw [go_nil, show T.length = k by omega], by simp [dt]⟩
  · have hl : (T.drop k).length = T.length - k := by simp
    have := dt_run (l := l) (T.drop k) D [] n c k (by omega) hx
    rw [List.append_nil, if_neg (by omega), go_nil, hl, show k + (T.length - k) = T.length by omega] at this
    exact ⟨_, this, rfl⟩
/-- The end behind data. -/
theorem d4_end {l : Lim} {T D : List UInt8} {c k : Nat} :
    ((ends (T.drop k)).2 ≠ 0 → ∃ s', go l (d4 D c) (T.drop k) k = (s', k + (ends (T.drop k)).1, (ends (T.drop k)).2) ∧ s'.data = D) ∧
    ((ends (T.drop k)).2 = 0 → go l (d4 D c) (T.drop k) k = go l (sz D 0 0) (T.drop (k + 2)) (k + 2) ∧ k + 2 ≤ T.length) := by
  cases h0 : T[k]? with
  | none =>
    have hle : T.length ≤ k := by simpa using h0
    rw [drop_none hle]
    exact ⟨fun _ => ⟨_, rfl, rfl⟩, fun h => by simp [ends] at h⟩
  | some b =>
    rw [drop_some h0]
    by_cases h13 : b = 13
    · subst h13
      rw [go_step (l := l) (s := d4 D c) (c := 13) (s' := ⟨5, 0, c, 0, 0, [], D, []⟩) (by simp [er, d4]) (by simp [nxt, d4]) (by simp)]
      cases h1 : T[k + 1]? with
      | none =>
        have hle : T.length ≤ k + 1 := by simpa using h1
        rw [drop_none hle]
        exact ⟨fun _ => ⟨_, rfl, rfl⟩, fun h => by simp [ends] at h⟩
      | some d =>
        have hlt := (List.getElem?_eq_some_iff.1 h1).1
        rw [drop_some h1]
        by_cases hd : d = 10
        · subst hd
          refine ⟨fun h => absurd (by simp [ends]) h, fun _ => ⟨?_, by omega⟩⟩
          exact go_step (by simp [er]) (by simp [nxt, sz]) (by simp [sz])
        · refine ⟨fun _ => ⟨⟨5, 0, c, 0, 0, [], D, []⟩, ?_, rfl⟩, fun h => by simp [ends, hd] at h⟩
          rw [go_bad (e := 2) (by simp [er, hd]) (by decide)]
          simp [ends, hd]
    · have e2 : ends (b :: T.drop (k + 1)) = (0, 2) := by cases T.drop (k + 1) <;> simp [ends, h13]
      rw [e2, go_bad (e := 2) (by simp [er, d4, h13]) (by decide)]
      exact ⟨fun _ => ⟨_, rfl, rfl⟩, fun h => by simp at h⟩

end Bd
end Go.Proofs.YtilebfpaibajcaaGreatDoor

/- A body's section: limits, lines, and what is read byte by byte. -/
namespace Go.Proofs.YtilebfpaibajcaaGreatDoor
namespace Bd
open Oc Fl Bk Hx

/-- In the section: q as layer 6 counts. -/
def sc (D : List UInt8) (c q a b : Nat) (tx : List UInt8) (fs : List Fld) : St := ⟨5 + q, 0, c, a, b, tx, D, fs⟩
/-- Is the byte x beyond the limits? -/
def lim (l : Lim) (q a b : Nat) (x : UInt8) : Bool :=
  if q = 5 ∨ (q = 1 ∧ x = 13) then false else if q = 1 ∧ l.fields ≤ a then true else decide (l.bytes ≤ b)
def up (q a : Nat) (x : UInt8) : Nat := if q = 1 ∧ x ≠ 13 then a + 1 else a
def wd (q b : Nat) (x : UInt8) : Nat := if q = 5 ∨ (q = 1 ∧ x = 13) then b else b + 1
/-- How many bytes stand ahead of one that is beyond the limits. -/
def lp (l : Lim) : Nat → Nat → Nat → List UInt8 → Nat
  | _, _, _, [] => 0
  | q, a, b, x :: t => if lim l q a b x = true then 0 else lp l (nx q x) (up q a x) (wd q b x) t + 1
theorem lp_no {l : Lim} {q a b : Nat} {x : UInt8} {t : List UInt8} (h : lim l q a b x = true) : lp l q a b (x :: t) = 0 := by simp [lp, h]
theorem lp_yes {l : Lim} {q a b : Nat} {x : UInt8} {t : List UInt8} (h : lim l q a b x = false) : lp l q a b (x :: t) = lp l (nx q x) (up q a x) (wd q b x) t + 1 := by simp [lp, h]
theorem lp_le (l : Lim) (q a b : Nat) (t : List UInt8) : lp l q a b t ≤ t.length := by
  induction t generalizing q a b with
  | nil => exact Nat.le_refl _
  | cons x t ih =>
    cases h : lim l q a b x with
    | true => rw [lp_no h]; exact Nat.zero_le _
    | false => rw [lp_yes h]; simp only [List.length_cons]; have := ih (nx q x) (up q a x) (wd q b x); omega

/-- What of a line was read ahead of a place. -/
def Tx : Nat → List UInt8 → Prop
  | 1, tx => tx = []
  | 2, tx => tx ≠ [] ∧ every tokB tx = true
  | 3, tx => ∃ n u, tx = n ++ 58 :: u ∧ token n = true ∧ text u = true
  | 4, tx => ∃ n u, tx = (n ++ 58 :: u) ++ [13] ∧ token n = true ∧ text u = true
  | 5, tx => tx = []
  | _, _ => False
def tex (q : Nat) (tx : List UInt8) (x : UInt8) : List UInt8 := if q = 4 ∨ q = 5 ∨ (q = 1 ∧ x = 13) then [] else tx ++ [x]
def fls (q : Nat) (tx : List UInt8) (fs : List Fld) : List Fld := if q = 4 then fs ++ [lf tx.dropLast] else fs

theorem every_snoc {x : List UInt8} {b : UInt8} (h : every tokB x = true) (hb : tkb b = true) : every tokB (x ++ [b]) = true := by
  unfold every at *; rw [List.all_append, h]; simp [show tokB (b.toNat : Int) = true from hb]
theorem tkb58 : tkb 58 = false := by decide
theorem token_of {x : List UInt8} (h0 : x ≠ []) (h : every tokB x = true) : token x = true := by
  unfold token; rw [h]; cases x with
  | nil => exact absurd rfl h0
  | cons => rfl

/-- One byte of a section. -/
theorem sec_er {l : Lim} {D : List UInt8} {c q a b : Nat} {tx : List UInt8} {fs : List Fld} (x : UInt8) (hq : 1 ≤ q ∧ q ≤ 5) :
    er l (sc D c q a b tx fs) x = if nx q x = 0 then 2 else if lim l q a b x = true then 5 else 0 := by
  obtain ⟨h1, h2⟩ := hq
  have h : q = 1 ∨ q = 2 ∨ q = 3 ∨ q = 4 ∨ q = 5 := by omega
  by_cases hb : l.bytes ≤ b
  all_goals rcases h with rfl | rfl | rfl | rfl | rfl
  · by_cases h13 : x = 13
    · subst h13; simp [er, sc, lim, nx1_13]
    · cases hx : tkb x with
      | true => by_cases g : l.fields ≤ a <;> simp [er, sc, lim, lineE, hb, nx1_tok hx, h13, hx, g]
      | false => simp [er, sc, nx1_no hx h13, h13, hx]
  · by_cases h58 : x = 58
    · subst h58; simp [er, sc, lim, lineE, hb, nx2_58]
    · cases hx : tkb x with
      | true => simp [er, sc, lim, lineE, hb, nx2_tok hx, h58, hx]
      | false => simp [er, sc, nx2_no hx h58, h58, hx]
  · by_cases h13 : x = 13
    · subst h13; simp [er, sc, lim, lineE, hb, nx3_13]
    · cases hx : txb x with
      | true => simp [er, sc, lim, lineE, hb, nx3_txt hx, h13, hx]
      | false => simp [er, sc, nx3_no hx h13, h13, hx]
  · by_cases h10 : x = 10
    · subst h10; simp [er, sc, lim, lineE, hb, nx4_10]
    · simp [er, sc, nx4_no h10, h10]
  · by_cases h10 : x = 10
    · subst h10; simp [er, sc, lim, nx5_10]
    · simp [er, sc, nx5_no h10, h10]
  · by_cases h13 : x = 13
    · subst h13; simp [er, sc, lim, nx1_13]
    · cases hx : tkb x with
      | true => by_cases g : l.fields ≤ a <;> simp [er, sc, lim, lineE, hb, nx1_tok hx, h13, hx, g]
      | false => simp [er, sc, nx1_no hx h13, h13, hx]
  · by_cases h58 : x = 58
    · subst h58; simp [er, sc, lim, lineE, hb, nx2_58]
    · cases hx : tkb x with
      | true => simp [er, sc, lim, lineE, hb, nx2_tok hx, h58, hx]
      | false => simp [er, sc, nx2_no hx h58, h58, hx]
  · by_cases h13 : x = 13
    · subst h13; simp [er, sc, lim, lineE, hb, nx3_13]
    · cases hx : txb x with
      | true => simp [er, sc, lim, lineE, hb, nx3_txt hx, h13, hx]
      | false => simp [er, sc, nx3_no hx h13, h13, hx]
  · by_cases h10 : x = 10
    · subst h10; simp [er, sc, lim, lineE, hb, nx4_10]
    · simp [er, sc, nx4_no h10, h10]
  · by_cases h10 : x = 10
    · subst h10; simp [er, sc, lim, nx5_10]
    · simp [er, sc, nx5_no h10, h10]
theorem sec_nxt {D : List UInt8} {c q a b : Nat} {tx : List UInt8} {fs : List Fld} (x : UInt8) (hq : 1 ≤ q ∧ q ≤ 5) (h : nx q x ≠ 0) (ht : Tx q tx) :
    nxt (sc D c q a b tx fs) x = sc D c (nx q x) (up q a x) (wd q b x) (tex q tx x) (fls q tx fs) ∧ (nx q x ≤ 6 ∧ (nx q x ≠ 6 → Tx (nx q x) (tex q tx x))) := by
  obtain ⟨h1, h2⟩ := hq
  have hh : q = 1 ∨ q = 2 ∨ q = 3 ∨ q = 4 ∨ q = 5 := by omega
  rcases hh with rfl | rfl | rfl | rfl | rfl
  · have htx : tx = [] := ht
    subst htx
    by_cases h13 : x = 13
    · subst h13; exact ⟨by simp [nxt, sc, nx1_13, up, wd, tex, fls], by rw [nx1_13]; exact ⟨by decide, fun _ => rfl⟩⟩
    · cases hx : tkb x with
      | true => refine ⟨by simp [nxt, sc, nx1_tok hx, up, wd, tex, fls, h13], ?_⟩
                rw [nx1_tok hx]
                refine ⟨by decide, fun _ => ?_⟩
                show tex 1 [] x ≠ [] ∧ every tokB (tex 1 [] x) = true
                simp only [tex, h13]
                exact ⟨by simp, by simp [every, show tokB (x.toNat : Int) = true from hx]⟩
      | false => exact absurd (nx1_no hx h13) h
  · obtain ⟨g0, g1⟩ : tx ≠ [] ∧ every tokB tx = true := ht
    by_cases h58 : x = 58
    · subst h58; exact ⟨by simp [nxt, sc, nx2_58, up, wd, tex, fls], by rw [nx2_58]; exact ⟨by decide, fun _ => ⟨tx, [], by simp [tex], token_of g0 g1, rfl⟩⟩⟩
    · cases hx : tkb x with
      | true => refine ⟨by simp [nxt, sc, nx2_tok hx, up, wd, tex, fls, h58], ?_⟩
                rw [nx2_tok hx]
                refine ⟨by decide, fun _ => ?_⟩
                exact ⟨by simp [tex], by simp only [tex]; exact every_snoc g1 hx⟩
      | false => exact absurd (nx2_no hx h58) h
  · obtain ⟨n, u, rfl, g0, g1⟩ := ht
    by_cases h13 : x = 13
    · subst h13; exact ⟨by simp [nxt, sc, nx3_13, up, wd, tex, fls], by rw [nx3_13]; exact ⟨by decide, fun _ => ⟨n, u, by simp [tex], g0, g1⟩⟩⟩
    · cases hx : txb x with
      | true => refine ⟨by simp [nxt, sc, nx3_txt hx, up, wd, tex, fls, h13], ?_⟩
                rw [nx3_txt hx]
                refine ⟨by decide, fun _ => ?_⟩
                refine ⟨n, u ++ [x], by simp [tex], g0, ?_⟩
                rw [text_append, g1, text_cons, hx]; rfl
      | false => exact absurd (nx3_no hx h13) h
  · by_cases h10 : x = 10
    · subst h10; exact ⟨by simp [nxt, sc, nx4_10, up, wd, tex, fls], by rw [nx4_10]; exact ⟨by decide, fun _ => rfl⟩⟩
    · exact absurd (nx4_no h10) h
  · have htx : tx = [] := ht
    subst htx
    by_cases h10 : x = 10
    · subst h10; exact ⟨by simp [nxt, sc, nx5_10, up, wd, tex, fls], by rw [nx5_10]; exact ⟨by decide, fun h => absurd rfl h⟩⟩
    · exact absurd (nx5_no h10) h

theorem tok_every13 {n : List UInt8} (h : token n = true) : ∀ b ∈ n, b ≠ 13 := by
  unfold token every at h
  rw [Bool.and_eq_true] at h
  intro b hb
  exact (tok_ne (List.all_eq_true.1 h.2 b hb)).2.1
theorem text_every13 {n : List UInt8} (h : text n = true) : ∀ b ∈ n, b ≠ 13 := by
  unfold text every at h
  intro b hb
  exact (txt_ne (List.all_eq_true.1 h b hb)).1
/-- The fields, byte by byte. -/
theorem sec_fields {q : Nat} {tx : List UInt8} {fs : List Fld} (x : UInt8) (t : List UInt8) (hq : 1 ≤ q ∧ q ≤ 5) (h : nx q x ≠ 0) (h6 : nx q x ≠ 6) (ht : Tx q tx) :
    fls q tx fs ++ fof ((if nx q x = 5 then [13] else tex q tx x) ++ t) = fs ++ fof ((if q = 5 then [13] else tx) ++ x :: t) := by
  obtain ⟨h1, h2⟩ := hq
  have hh : q = 1 ∨ q = 2 ∨ q = 3 ∨ q = 4 ∨ q = 5 := by omega
  rcases hh with rfl | rfl | rfl | rfl | rfl
  · have htx : tx = [] := ht
    subst htx
    by_cases h13 : x = 13
    · subst h13; simp [nx1_13, fls]
    · cases hx : tkb x with
      | true => simp [nx1_tok hx, fls, tex, h13]
      | false => exact absurd (nx1_no hx h13) h
  · by_cases h58 : x = 58
    · subst h58; simp [nx2_58, fls, tex]
    · cases hx : tkb x with
      | true => simp [nx2_tok hx, fls, tex]
      | false => exact absurd (nx2_no hx h58) h
  · by_cases h13 : x = 13
    · subst h13; simp [nx3_13, fls, tex]
    · cases hx : txb x with
      | true => simp [nx3_txt hx, fls, tex]
      | false => exact absurd (nx3_no hx h13) h
  · obtain ⟨n, u, rfl, g0, g1⟩ := ht
    by_cases h10 : x = 10
    · subst h10
      have hne : ∀ b ∈ n ++ 58 :: u, b ≠ 13 := by
        intro b hb
        rcases List.mem_append.1 hb with hb | hb
        · exact tok_every13 g0 b hb
        · rcases List.mem_cons.1 hb with rfl | hb
          · decide
          · exact text_every13 g1 b hb
      have hg : good (arr (n ++ 58 :: u)) = true := good_of (arr_list _) g0 g1
      have e1 : (n ++ 58 :: u ++ [13]).dropLast = n ++ 58 :: u := List.dropLast_concat
      have hl : (n ++ 58 :: u).length ≠ 0 := by simp
      generalize n ++ 58 :: u = y at *
      rw [nx4_10, if_neg (by decide), if_neg (by decide)]
      simp only [fls, tex, if_true, true_or, List.nil_append, e1, lf, hg]
      rw [show y ++ [13] ++ 10 :: t = y ++ 13 :: 10 :: t by simp, fof_some (eol_line hne t) hl, List.take_left]
      rw [show y ++ 13 :: 10 :: t = (y ++ [13, 10]) ++ t by simp, show y.length + 2 = (y ++ [13, 10]).length by simp, List.drop_left]
      simp
    · exact absurd (nx4_no h10) h
  · by_cases h10 : x = 10
    · subst h10; exact absurd nx5_10 h6
    · exact absurd (nx5_no h10) h

/-- A section, byte by byte, is what layer 6 says, up to the first byte that is beyond the limits. -/
theorem go_sec {l : Lim} {D : List UInt8} {c : Nat} (t : List UInt8) : ∀ (q a b i : Nat) (tx : List UInt8) (fs : List Fld), 1 ≤ q ∧ q ≤ 5 → Tx q tx →
    (lp l q a b (t.take (run q t).1) < (run q t).1 → ∃ s', go l (sc D c q a b tx fs) t i = (s', i + lp l q a b (t.take (run q t).1), 5) ∧ s'.data = D) ∧
    (¬ lp l q a b (t.take (run q t).1) < (run q t).1 → ∃ s', go l (sc D c q a b tx fs) t i = (s', i + (run q t).1, (run q t).2) ∧ s'.data = D ∧ ((run q t).2 = 0 → s'.fields = fs ++ fof ((if q = 5 then [13] else tx) ++ t))) := by
  induction t with
  | nil =>
    intro q a b i tx fs hq ht
    refine ⟨fun h => by simp [run, lp] at h, fun _ => ⟨_, rfl, rfl, fun h => by simp [run] at h⟩⟩
  | cons x t ih =>
    intro q a b i tx fs hq ht
    by_cases h0 : nx q x = 0
    · rw [run_bad h0]
      refine ⟨fun h => by simp at h, fun _ => ⟨sc D c q a b tx fs, ?_, rfl, fun h => by simp at h⟩⟩
      exact go_bad (by rw [sec_er x hq, if_pos h0]) (by decide)
    · cases hl : lim l q a b x with
      | true =>
        have hpos : 0 < (run q (x :: t)).1 := by
          by_cases h6 : nx q x = 6
          · rw [run_end h6]; decide
          · rw [run_step rfl h0 h6]; simp
        obtain ⟨m, hm⟩ : ∃ m, (run q (x :: t)).1 = m + 1 := ⟨(run q (x :: t)).1 - 1, by omega⟩
        rw [hm, List.take_succ_cons, lp_no hl]
        refine ⟨fun _ => ⟨sc D c q a b tx fs, ?_, rfl⟩, fun h => absurd (Nat.succ_pos m) h⟩
        exact go_bad (by rw [sec_er x hq, if_neg h0, if_pos hl]) (by decide)
      | false =>
        have e0 : er l (sc D c q a b tx fs) x = 0 := by rw [sec_er x hq, if_neg h0, hl]; rfl
        obtain ⟨e1, e2, e3⟩ := sec_nxt (D := D) (c := c) (a := a) (b := b) (fs := fs) x hq h0 ht
        by_cases h6 : nx q x = 6
        · rw [run_end h6]
          have hq5 : q = 5 := by
            have := hq.1; have := hq.2
            have hh : q = 1 ∨ q = 2 ∨ q = 3 ∨ q = 4 ∨ q = 5 := by omega
            unfold nx at h6
            rcases hh with rfl | rfl | rfl | rfl | rfl <;> first | rfl | (exfalso; revert h6; (repeat' split) <;> simp_all)
          subst hq5
          have hx : x = 10 := by
            by_cases h10 : x = 10
            · exact h10
            · exact absurd (nx5_no h10) h0
          subst hx
          rw [List.take_succ_cons, lp_yes hl]
          refine ⟨fun h => by simp [lp] at h, fun _ => ⟨_, go_last e0 e1 (by rw [h6]; rfl), rfl, fun _ => ?_⟩⟩
          have htx : tx = [] := ht
          subst htx
          show fls 5 [] fs = fs ++ fof ([13] ++ 10 :: t)
          rw [show [13] ++ 10 :: t = 13 :: 10 :: t from rfl, fof_last (eol_hit t)]
          simp [fls]
        · rw [run_step rfl h0 h6]
          simp only
          rw [List.take_succ_cons, lp_yes hl]
          have hp : (sc D c (nx q x) (up q a x) (wd q b x) (tex q tx x) (fls q tx fs)).place ≠ 11 := by show 5 + nx q x ≠ 11; omega
          rw [go_step e0 e1 hp]
          obtain ⟨i1, i2⟩ := ih (nx q x) (up q a x) (wd q b x) (i + 1) (tex q tx x) (fls q tx fs) ⟨by omega, by omega⟩ (e3 h6)
          refine ⟨fun h => ?_, fun h => ?_⟩
          · obtain ⟨s', j1, j2⟩ := i1 (by omega)
            exact ⟨s', by rw [j1]; congr 2; omega, j2⟩
          · obtain ⟨s', j1, j2, j3⟩ := i2 (by omega)
            refine ⟨s', by rw [j1]; congr 2; omega, j2, fun h0' => ?_⟩
            rw [j3 h0', sec_fields x t hq h0 h6 ht]

theorem run_whole (q : Nat) (l : List UInt8) (h : (run q l).2 = 0) : run q (l.take (run q l).1) = run q l := by
  induction l generalizing q with
  | nil => simp [run] at h
  | cons b l ih =>
    by_cases z0 : nx q b = 0
    · rw [run_bad z0] at h; simp at h
    · by_cases z6 : nx q b = 6
      · rw [run_end z6, List.take_succ_cons, run_end z6]
      · have h' := h
        rw [run_step rfl z0 z6] at h'
        rw [run_step (l := l) rfl z0 z6]
        simp only at h' ⊢
        rw [List.take_succ_cons, run_step rfl z0 z6, ih _ h']
/-- It goes on so far, or is a whole one. -/
def Sound (q : Nat) (t : List UInt8) : Prop := run q t = (t.length, 4) ∨ run q t = (t.length, 0)
theorem sound_take (q : Nat) (t : List UInt8) : Sound q (t.take (run q t).1) := by
  have hk := run_kind q t
  have hl : (t.take (run q t).1).length = (run q t).1 := by rw [List.length_take]; omega
  by_cases h : (run q t).2 = 0
  · right
    rw [run_whole q t h, hl, ← h]
  · left
    rw [run_cut q t _ (Nat.le_refl _) (fun e => absurd e h), hl]

/-- What is told byte by byte never goes farther than the limits say. -/
theorem lp_len {l : Lim} (t : List UInt8) : ∀ (q a b : Nat), 1 ≤ q ∧ q ≤ 5 → run q t = (t.length, 4) → lp l q a b t = t.length → b ≤ l.bytes → (q = 5 → t = []) ∧ b + t.length ≤ l.bytes + 1 := by
  induction t with
  | nil => intro q a b _ _ _ hb; exact ⟨fun _ => rfl, by simp; omega⟩
  | cons x t ih =>
    intro q a b hq hr hl hb
    have h0 : nx q x ≠ 0 := by intro h; rw [run_bad h] at hr; simp at hr
    have h6 : nx q x ≠ 6 := by intro h; rw [run_end h] at hr; simp at hr
    rw [run_step rfl h0 h6] at hr
    simp only [List.length_cons, Prod.mk.injEq] at hr
    have hr' : run (nx q x) t = (t.length, 4) := by rw [← hr.2, show t.length = (run (nx q x) t).1 by omega]
    cases hli : lim l q a b x with
    | true => rw [lp_no hli] at hl; simp at hl
    | false =>
      rw [lp_yes hli] at hl
      simp only [List.length_cons] at hl ⊢
      have hn : 1 ≤ nx q x ∧ nx q x ≤ 5 := by
        have : nx q x ≤ 6 := by unfold nx; (repeat' split) <;> omega
        omega
      have q5 : q ≠ 5 := by
        rintro rfl
        by_cases h10 : x = 10
        · subst h10; exact h6 nx5_10
        · exact h0 (nx5_no h10)
      refine ⟨fun h => absurd h q5, ?_⟩
      by_cases h13 : q = 1 ∧ x = 13
      · obtain ⟨rfl, rfl⟩ := h13
        have := ih 5 (up 1 a 13) (wd 1 b 13) ⟨by decide, by decide⟩ (by rw [nx1_13] at hr'; exact hr') (by rw [nx1_13] at hl; omega) (by simp [wd]; exact hb)
        rw [this.1 rfl]; simp; omega
      · have hb' : b < l.bytes := by
          simp [lim, q5, h13] at hli
          omega
        have hw : wd q b x = b + 1 := by simp [wd, q5, h13]
        have := (ih (nx q x) (up q a x) (wd q b x) hn hr' (by omega) (by omega)).2
        omega

/-- A section of more bytes than the limit, and an end, has one among them that is beyond the limits. -/
theorem go_trunc {l : Lim} {D : List UInt8} {c i : Nat} (P : List UInt8) : go l (s6 D c) P i = go l (s6 D c) (P.take (l.bytes + 2)) i := by
  by_cases h : P.length ≤ l.bytes + 2
  · rw [List.take_of_length_le h]
  · have hl : (P.take (l.bytes + 2)).length = l.bytes + 2 := by rw [List.length_take]; omega
    conv => lhs; rw [← List.take_append_drop (l.bytes + 2) P]
    refine go_app _ _ _ _ _ ?_
    generalize P.take (l.bytes + 2) = t at *
    intro h4
    obtain ⟨i1, i2⟩ := go_sec (l := l) (D := D) (c := c) t 1 0 0 i [] [] ⟨by decide, by decide⟩ rfl
    by_cases hw : lp l 1 0 0 (t.take (run 1 t).1) < (run 1 t).1
    · obtain ⟨s', j, _⟩ := i1 hw
      rw [show s6 D c = sc D c 1 0 0 [] [] from rfl, j] at h4
      simp at h4
    · obtain ⟨s', j, _⟩ := i2 hw
      rw [show s6 D c = sc D c 1 0 0 [] [] from rfl, j] at h4
      have hk := run_kind 1 t
      simp only at h4
      have hm : (run 1 t).1 = t.length := by omega
      rw [hm, List.take_length] at hw
      have := lp_le l 1 0 0 t
      have := (lp_len (l := l) t 1 0 0 ⟨by decide, by decide⟩ (by rw [← h4, ← hm]) (by omega) (Nat.zero_le _)).2
      omega

/-- Bytes of a line, up to its end. -/
theorem lim_line {l : Lim} {q a b : Nat} {x : UInt8} (h5 : q ≠ 5) (h1 : q ≠ 1) : lim l q a b x = decide (l.bytes ≤ b) := by simp [lim, h5, h1]
theorem lp_mid {l : Lim} {q a b : Nat} {x : UInt8} {t : List UInt8} (h5 : q ≠ 5) (h1 : q ≠ 1) : lp l q a b (x :: t) = if l.bytes ≤ b then 0 else lp l (nx q x) a (b + 1) t + 1 := by
  by_cases hb : l.bytes ≤ b
  · rw [if_pos hb, lp_no (by rw [lim_line h5 h1]; exact decide_eq_true hb)]
  · rw [if_neg hb, lp_yes (by rw [lim_line h5 h1]; exact decide_eq_false hb), show up q a x = a by simp [up, h1], show wd q b x = b + 1 by simp [wd, h5, h1]]
theorem sound_step {q : Nat} {x : UInt8} {t : List UInt8} (h : Sound q (x :: t)) : nx q x ≠ 0 ∧ (nx q x = 6 → t = []) ∧ (nx q x ≠ 6 → Sound (nx q x) t) := by
  have h0 : nx q x ≠ 0 := by intro e; unfold Sound at h; rw [run_bad e] at h; simp at h
  refine ⟨h0, fun e => ?_, fun e => ?_⟩
  · unfold Sound at h; rw [run_end e] at h; simp at h; exact h
  · unfold Sound at h ⊢
    rw [run_step rfl h0 e] at h
    simp only [List.length_cons, Prod.mk.injEq] at h
    rcases h with ⟨h1, h2⟩ | ⟨h1, h2⟩
    · left; rw [← h2, show t.length = (run (nx q x) t).1 by omega]
    · right; rw [← h2, show t.length = (run (nx q x) t).1 by omega]
theorem lpB {l : Lim} (t : List UInt8) : ∀ (a b : Nat), Sound 3 t → b ≤ l.bytes →
    lp l 3 a b t = match eol t with | none => min t.length (l.bytes - b) | some k => if l.bytes < b + k + 2 then l.bytes - b else k + 2 + lp l 1 a (b + k + 2) (t.drop (k + 2)) := by
  induction t with
  | nil => intro a b _ _; simp [lp, eol]
  | cons x t ih =>
    intro a b hs hb
    obtain ⟨h0, h6, hs'⟩ := sound_step hs
    rw [lp_mid (by decide) (by decide)]
    by_cases h13 : x = 13
    · subst h13
      rw [nx3_13] at h0 h6 hs' ⊢
      have hs4 := hs' (by decide)
      cases t with
      | nil =>
        rw [show eol [13] = none by decide]
        simp only [lp, List.length_cons, List.length_nil]
        rw [Nat.min_def]
        (repeat' split) <;> omega
      | cons y t =>
        obtain ⟨g0, g6, gs⟩ := sound_step hs4
        have hy : y = 10 := by
          by_cases h10 : y = 10
          · exact h10
          · exact absurd (nx4_no h10) g0
        subst hy
        rw [eol_hit, lp_mid (by decide) (by decide), nx4_10]
        simp only [List.drop_succ_cons, List.drop_zero]
        by_cases c1 : l.bytes ≤ b
        · rw [if_pos c1, if_pos (by omega)]; omega
        · rw [if_neg c1]
          by_cases c2 : l.bytes ≤ b + 1
          · rw [if_pos c2, if_pos (by omega)]; omega
          · rw [if_neg c2, if_neg (by omega), show b + 1 + 1 = b + 0 + 2 by omega]; omega
    · cases hx : txb x with
      | false => exact absurd (nx3_no hx h13) h0
      | true =>
        rw [nx3_txt hx] at hs' ⊢
        have hs3 := hs' (by decide)
        rw [eol_free h13]
        by_cases c1 : l.bytes ≤ b
        · rw [if_pos c1]
          cases he : eol t with
          | none => simp only [Option.map_none, List.length_cons]; rw [Nat.min_def]; split <;> omega
          | some k => simp only [Option.map_some]; rw [if_pos (by omega)]; omega
        · rw [if_neg c1, ih a (b + 1) hs3 (by omega)]
          cases he : eol t with
          | none => simp only [Option.map_none, List.length_cons]; rw [Nat.min_def, Nat.min_def]; (repeat' split) <;> omega
          | some k =>
            simp only [Option.map_some]
            by_cases c2 : l.bytes < b + 1 + k + 2
            · rw [if_pos c2, if_pos (by omega)]; omega
            · rw [if_neg c2, if_neg (by omega), show k + 1 + 2 = (k + 2) + 1 by omega, List.drop_succ_cons, show b + 1 + k + 2 = b + (k + 1) + 2 by omega]; omega
theorem lpA {l : Lim} (t : List UInt8) : ∀ (a b : Nat), Sound 2 t → b ≤ l.bytes →
    lp l 2 a b t = match eol t with | none => min t.length (l.bytes - b) | some k => if l.bytes < b + k + 2 then l.bytes - b else k + 2 + lp l 1 a (b + k + 2) (t.drop (k + 2)) := by
  induction t with
  | nil => intro a b _ _; simp [lp, eol]
  | cons x t ih =>
    intro a b hs hb
    obtain ⟨h0, h6, hs'⟩ := sound_step hs
    rw [lp_mid (by decide) (by decide)]
    have fin : ∀ q, q = 2 ∨ q = 3 → nx 2 x = q → x ≠ 13 → (∀ a b, b ≤ l.bytes → lp l q a b t = match eol t with | none => min t.length (l.bytes - b) | some k => if l.bytes < b + k + 2 then l.bytes - b else k + 2 + lp l 1 a (b + k + 2) (t.drop (k + 2))) →
        (if l.bytes ≤ b then 0 else lp l (nx 2 x) a (b + 1) t + 1) = match eol (x :: t) with | none => min (x :: t).length (l.bytes - b) | some k => if l.bytes < b + k + 2 then l.bytes - b else k + 2 + lp l 1 a (b + k + 2) ((x :: t).drop (k + 2)) := by
      intro q _ hq h13 hi
      rw [hq, eol_free h13]
      by_cases c1 : l.bytes ≤ b
      · rw [if_pos c1]
        cases he : eol t with
        | none => simp only [Option.map_none, List.length_cons]; rw [Nat.min_def]; split <;> omega
        | some k => simp only [Option.map_some]; rw [if_pos (by omega)]; omega
      · rw [if_neg c1, hi a (b + 1) (by omega)]
        cases he : eol t with
        | none => simp only [Option.map_none, List.length_cons]; rw [Nat.min_def, Nat.min_def]; (repeat' split) <;> omega
        | some k =>
          simp only [Option.map_some]
          by_cases c2 : l.bytes < b + 1 + k + 2
          · rw [if_pos c2, if_pos (by omega)]; omega
          · rw [if_neg c2, if_neg (by omega), show k + 1 + 2 = (k + 2) + 1 by omega, List.drop_succ_cons, show b + 1 + k + 2 = b + (k + 1) + 2 by omega]; omega
    by_cases h58 : x = 58
    · subst h58
      have hs3 := hs' (by rw [nx2_58]; decide)
      rw [nx2_58] at hs3
      exact fin 3 (.inr rfl) nx2_58 (by decide) (fun a b hb => lpB t a b hs3 hb)
    · cases hx : tkb x with
      | false => exact absurd (nx2_no hx h58) h0
      | true =>
        have hs2 := hs' (by rw [nx2_tok hx]; decide)
        rw [nx2_tok hx] at hs2
        exact fin 2 (.inl rfl) (nx2_tok hx) (tok_ne hx).2.1 (fun a b hb => ih a b hs2 hb)

/-- As the lines say it. -/
def wi (l : Lim) (T : Nat) : Nat → List (Nat × List UInt8) → Nat
  | _, [] => T
  | a, (p, x) :: r => if x = [] ∨ x = [13] then T else if a = l.fields then p else if l.bytes < p + x.length + 2 then min l.bytes T else wi l T (a + 1) r
theorem eol_more {t : List UInt8} (h : eol t = none) : eol (t ++ [13, 10]) = some t.length := by
  induction t with
  | nil => rfl
  | cons b t ih =>
    unfold eol at h
    split at h
    · simp at h
    · rename_i hb
      have h' : eol t = none := by simpa using h
      rw [List.cons_append]
      unfold eol
      rw [if_neg, ih h']
      · simp
      · rintro ⟨h1, h2⟩
        cases t with
        | nil => simp at h2
        | cons c t => exact hb ⟨h1, by simpa using h2⟩
theorem eol_app {t : List UInt8} {k : Nat} (h : eol t = some k) (y : List UInt8) : eol (t ++ y) = some k := by
  have hle := eol_le h
  induction t generalizing k with
  | nil => simp [eol] at h
  | cons b t ih =>
    unfold eol at h
    rw [List.cons_append]
    unfold eol
    split at h
    · rename_i hb
      rw [if_pos ⟨hb.1, by cases t with
        | nil => simp at hb
        | cons c t => simpa using hb.2⟩]
      exact h
    · rename_i hb
      cases he : eol t with
      | none => simp [he] at h
      | some j =>
        rw [he] at h
        have hj := eol_le he
        rw [if_neg, ih he hj]
        · exact h
        · rintro ⟨h1, h2⟩
          cases t with
          | nil => simp [eol] at he
          | cons c t => exact hb ⟨h1, by simpa using h2⟩
theorem sound_line {b : UInt8} {t : List UInt8} {k : Nat} (h13 : b ≠ 13) (hs : Sound 1 (b :: t)) (he : eol (b :: t) = some k) : 0 < k ∧ Sound 1 ((b :: t).drop (k + 2)) := by
  have hle := eol_le he
  rcases wrong_run b t h13 with ⟨w, _, h2⟩ | ⟨_, h2, _⟩ | ⟨_, j, h2, hj, _, hr⟩
  · unfold Sound at hs; rw [h2] at hs; simp at hs
  · rw [he] at h2; cases h2
  · rw [he] at h2
    cases h2
    refine ⟨hj, ?_⟩
    unfold Sound at hs ⊢
    rw [hr] at hs
    simp only [Prod.mk.injEq] at hs
    rw [List.length_drop]
    rcases hs with ⟨h1, h2⟩ | ⟨h1, h2⟩
    · left; rw [← h2, show (b :: t).length - (k + 2) = (run 1 ((b :: t).drop (k + 2))).1 by omega]
    · right; rw [← h2, show (b :: t).length - (k + 2) = (run 1 ((b :: t).drop (k + 2))).1 by omega]
theorem wi_lp {l : Lim} (n : Nat) : ∀ (t : List UInt8) (a p : Nat), t.length ≤ n → Sound 1 t → p ≤ l.bytes → a ≤ l.fields → wi l (p + t.length) a (lns p (t ++ [13, 10])) = p + lp l 1 a p t := by
  induction n with
  | zero =>
    intro t a p hn _ _ _
    obtain rfl : t = [] := List.eq_nil_of_length_eq_zero (by omega)
    rw [lns_last (t := [] ++ [13, 10]) rfl]
    simp [wi, lp]
  | succ n ih =>
    intro t a p hn hs hp ha
    cases t with
    | nil =>
      rw [lns_last (t := [] ++ [13, 10]) rfl]
      simp [wi, lp]
    | cons x t =>
      by_cases h13 : x = 13
      · subst h13
        obtain ⟨h0, h6, hs'⟩ := sound_step hs
        rw [nx1_13] at hs'
        have hs5 := hs' (by decide)
        rw [lp_yes (by simp [lim]), nx1_13]
        cases t with
        | nil =>
          have e : eol ([13] ++ [13, 10]) = some 1 := by decide
          rw [lns_some e (by decide)]
          simp [wi, lp]
        | cons y t =>
          obtain ⟨g0, g6, gs⟩ := sound_step hs5
          have hy : y = 10 := by
            by_cases h10 : y = 10
            · exact h10
            · exact absurd (nx5_no h10) g0
          subst hy
          obtain rfl := g6 nx5_10
          rw [lp_yes (by simp [lim]), lns_last (t := [13, 10] ++ [13, 10]) rfl]
          simp [wi, lp]
      · obtain ⟨h0, h6, hs'⟩ := sound_step hs
        have hx : tkb x = true := by
          cases hx : tkb x with
          | true => rfl
          | false => exact absurd (nx1_no hx h13) h0
        rw [nx1_tok hx] at hs'
        have hs2 := hs' (by decide)
        have hup : up 1 a x = a + 1 := by simp [up, h13]
        have hwd : wd 1 p x = p + 1 := by simp [wd, h13]
        have hne : ∀ k, 0 < k → ((x :: t).take k = [] ∨ (x :: t).take k = [13]) → False := by
          intro k hk h
          obtain ⟨k, rfl⟩ : ∃ j, k = j + 1 := ⟨k - 1, by omega⟩
          rw [List.take_succ_cons] at h
          simp [h13] at h
        have hlA := lpA (l := l) t (a + 1) (p + 1) hs2
        have hef := eol_free h13 t
        have line : ∀ (ln : List UInt8) (r : List (Nat × List UInt8)), ¬ (ln = [] ∨ ln = [13]) → wi l (p + (x :: t).length) a ((p, ln) :: r) = if a = l.fields then p else if l.bytes < p + ln.length + 2 then min l.bytes (p + (x :: t).length) else wi l (p + (x :: t).length) (a + 1) r := by
          intro ln r h
          conv => lhs; unfold wi
          rw [if_neg h]
        cases he : eol (x :: t) with
        | none =>
          have he' : eol t = none := by
            rw [he] at hef
            cases h : eol t with
            | none => rfl
            | some j => rw [h] at hef; cases hef
          rw [lns_some (eol_more he) (by simp), List.take_left, List.drop_eq_nil_of_le (by simp), lns_none (a := p + ((x :: t).length + 2)) (t := []) rfl]
          rw [line _ _ (by simp [h13])]
          simp only [wi]
          by_cases c1 : a = l.fields
          · rw [if_pos c1, lp_no (by simp [lim, h13, c1])]; rfl
          · rw [if_neg c1]
            by_cases c2 : l.bytes ≤ p
            · rw [lp_no (by simp [lim, h13, c2]), if_pos (by omega)]; simp; omega
            · rw [lp_yes (by simp [lim, h13]; omega), nx1_tok hx, hup, hwd, hlA (by omega), he']
              simp only [List.length_cons]
              by_cases c3 : l.bytes < p + (t.length + 1) + 2
              · rw [if_pos c3]; omega
              · rw [if_neg c3]; omega
        | some k =>
          obtain ⟨hk, hsd⟩ := sound_line h13 hs he
          have hle := eol_le he
          obtain ⟨j, rfl⟩ : ∃ j, k = j + 1 := ⟨k - 1, by omega⟩
          have he' : eol t = some j := by
            rw [he] at hef
            cases h : eol t with
            | none => rw [h] at hef; cases hef
            | some i => rw [h] at hef; simp at hef; subst hef; rfl
          have hlen : ((x :: t).take (j + 1)).length = j + 1 := by rw [List.length_take]; omega
          have hd : ((x :: t) ++ [13, 10]).drop (j + 1 + 2) = (x :: t).drop (j + 1 + 2) ++ [13, 10] := by rw [List.drop_append_of_le_length (by omega)]
          rw [lns_some (eol_app he _) (by omega), List.take_append_of_le_length (by omega), hd, line _ _ (hne _ hk), hlen]
          simp only [List.length_cons] at hle ⊢
          by_cases c1 : a = l.fields
          · rw [if_pos c1, lp_no (by simp [lim, h13, c1])]; rfl
          · rw [if_neg c1]
            by_cases c2 : l.bytes ≤ p
            · rw [lp_no (by simp [lim, h13, c2]), if_pos (by omega)]; omega
            · rw [lp_yes (by simp [lim, h13]; omega), nx1_tok hx, hup, hwd, hlA (by omega), he']
              simp only
              by_cases c3 : l.bytes < p + (j + 1) + 2
              · rw [if_pos c3, if_pos (by omega)]; omega
              · rw [if_neg c3, if_neg (by omega)]
                have hI := ih ((x :: t).drop (j + 1 + 2)) (a + 1) (p + (j + 1 + 2)) (by rw [List.length_drop]; simp only [List.length_cons] at hn ⊢; omega) hsd (by omega) (by omega)
                rw [List.length_drop, List.length_cons, show p + (j + 1 + 2) + (t.length + 1 - (j + 1 + 2)) = p + (t.length + 1) by omega] at hI
                rw [hI, show j + 1 + 2 = (j + 2) + 1 by omega, List.drop_succ_cons, show p + (j + 2 + 1) = p + 1 + j + 2 by omega]
                omega

/-- What the reader tells of a section: how many bytes, and what of it. -/
def secM (l : Lim) (P : List UInt8) : Nat := (run 1 (P.take (l.bytes + 2))).1
def secW (l : Lim) (P : List UInt8) : Nat := wi l (secM l P) 0 (lns 0 ((P.take (l.bytes + 2)).take (secM l P) ++ [13, 10]))
theorem sec_read {l : Lim} {D : List UInt8} {c i : Nat} (P : List UInt8) :
    secW l P ≤ secM l P ∧ (secW l P < secM l P → ∃ s', go l (s6 D c) P i = (s', i + secW l P, 5) ∧ s'.data = D) ∧
    (¬ secW l P < secM l P → ∃ s', go l (s6 D c) P i = (s', i + secM l P, (run 1 (P.take (l.bytes + 2))).2) ∧ s'.data = D ∧ ((run 1 (P.take (l.bytes + 2))).2 = 0 → s'.fields = fof (P.take (l.bytes + 2)))) := by
  rw [go_trunc]
  unfold secW secM
  generalize P.take (l.bytes + 2) = t
  have hk := run_kind 1 t
  have hl : (t.take (run 1 t).1).length = (run 1 t).1 := by rw [List.length_take]; omega
  have hw := wi_lp (l := l) _ (t.take (run 1 t).1) 0 0 (Nat.le_refl _) (sound_take 1 t) (Nat.zero_le _) (Nat.zero_le _)
  rw [hl, Nat.zero_add, Nat.zero_add] at hw
  rw [hw]
  obtain ⟨i1, i2⟩ := go_sec (l := l) (D := D) (c := c) t 1 0 0 i [] [] ⟨by decide, by decide⟩ rfl
  have := lp_le l 1 0 0 (t.take (run 1 t).1)
  refine ⟨by omega, i1, fun h => ?_⟩
  obtain ⟨s', j1, j2, j3⟩ := i2 h
  exact ⟨s', j1, j2, fun h => by simpa using j3 h⟩

end Bd
end Go.Proofs.YtilebfpaibajcaaGreatDoor

/- Plain words for layer 8: what is put is read as it was. -/
namespace Go.Proofs.YtilebfpaibajcaaGreatDoor
namespace Bd
open Oc Fl Bk Hx

/-- A chunk; chunks; a body, as they are put: e stands behind each size. -/
def ck (e c : List UInt8) : List UInt8 := if c = [] then [] else put c.length ++ e ++ [13, 10] ++ c ++ [13, 10]
def cks (e : List UInt8) (cs : List (List UInt8)) : List UInt8 := cs.flatMap (ck e)
def bod (e : List UInt8) (cs : List (List UInt8)) (fs : List Fld) : List UInt8 := cks e cs ++ ([48] ++ e ++ [13, 10] ++ sec fs)

theorem cks_cons (e c : List UInt8) (cs : List (List UInt8)) : cks e (c :: cs) = ck e c ++ cks e cs := rfl
theorem cks_snoc (e c : List UInt8) (cs : List (List UInt8)) : cks e (cs ++ [c]) = cks e cs ++ ck e c := by simp [cks]

theorem go_digits {l : Lim} (ds : List UInt8) : ∀ (D y : List UInt8) (n c i : Nat), (∀ b ∈ ds, isd b = true) → c + ds.length ≤ 16 → n * 16 ^ ds.length + val ds ≤ 4611686018427387903 →
    go l (sz D n c) (ds ++ y) i = go l (sz D (n * 16 ^ ds.length + val ds) (c + ds.length)) y (i + ds.length) := by
  induction ds with
  | nil => intro D y n c i _ _ _; simp [val]
  | cons b ds ih =>
    intro D y n c i hd hc hn
    have hb := hd b List.mem_cons_self
    have h16 : 16 ^ (b :: ds).length = 16 * 16 ^ ds.length := by rw [List.length_cons, Nat.pow_succ, Nat.mul_comm]
    have hpos : 1 ≤ 16 ^ ds.length := Nat.pos_of_ne_zero (by simp)
    have e0 : n * 16 ^ (b :: ds).length + val (b :: ds) = (16 * n + dn b) * 16 ^ ds.length + val ds := by
      rw [val_cons, h16]
      show n * (16 * 16 ^ ds.length) + (dn b * 16 ^ ds.length + val ds) = _
      rw [Nat.add_mul, ← Nat.mul_assoc, Nat.mul_comm n 16]; omega
    have hle : n ≤ 288230376151711743 := by
      have h1 : n * 16 ≤ n * 16 ^ (b :: ds).length := Nat.mul_le_mul_left _ (by rw [h16]; omega)
      omega
    simp only [List.length_cons] at hc
    rw [List.cons_append, go_step (l := l) (s := sz D n c) (c := b) (s' := sz D (16 * n + dn b) (c + 1)) ?_ ?_ ?_, ih _ _ _ _ _ (fun x hx => hd x (List.mem_cons_of_mem _ hx)) (by omega) (by rw [← e0]; exact hn), e0]
    · simp only [List.length_cons]
      rw [show c + 1 + ds.length = c + (ds.length + 1) by omega, show i + 1 + ds.length = i + (ds.length + 1) by omega]
    · show (if isd b = true then (if c = 16 ∨ 288230376151711743 < n then 3 else 0) else _) = 0
      rw [if_pos hb, if_neg (by omega)]
    · show (if isd b = true then _ else _) = _
      rw [if_pos hb]; rfl
    · show (0 : Nat) ≠ 11
      decide

/-- An extension that fits. -/
def Ext (l : Lim) (e : List UInt8) : Prop := e = [] ∨ ∃ x, e = 59 :: x ∧ text x = true ∧ x.length + 1 ≤ l.ext
theorem go_text {l : Lim} (x : List UInt8) : ∀ (D y : List UInt8) (n c i : Nat), text x = true → c + x.length ≤ l.ext → go l (ex D n c) (x ++ y) i = go l (ex D n (c + x.length)) y (i + x.length) := by
  induction x with
  | nil => intro D y n c i _ _; simp
  | cons b x ih =>
    intro D y n c i ht hc
    rw [text_cons, Bool.and_eq_true] at ht
    simp only [List.length_cons] at hc
    have h13 := (txt_ne ht.1).1
    rw [List.cons_append, go_step (l := l) (s := ex D n c) (c := b) (s' := ex D n (c + 1)) ?_ ?_ ?_, ih _ _ _ _ _ ht.2 (by omega)]
    · simp only [List.length_cons]
      rw [show c + 1 + x.length = c + (x.length + 1) by omega, show i + 1 + x.length = i + (x.length + 1) by omega]
    · show (if b = 13 then 0 else if txb b = false then 2 else if l.ext ≤ c then 5 else 0) = 0
      rw [if_neg h13, if_neg (by rw [ht.1]; decide), if_neg (by omega)]
    · show (if b = 13 then _ else _) = _
      rw [if_neg h13]; rfl
    · show (1 : Nat) ≠ 11
      decide
theorem go_nl {l : Lim} {D y : List UInt8} {n c i : Nat} : go l ⟨2, n, c, 0, 0, [], D, []⟩ (10 :: y) i = go l (if n = 0 then s6 D c else dt D n c) y (i + 1) := by
  refine go_step (by simp [er]) ?_ ?_
  · by_cases hn : n = 0
    · subst hn; simp [nxt, s6]
    · simp [nxt, dt, hn, Nat.pos_of_ne_zero hn]
  · split <;> simp [s6, dt]
/-- From the digits to the data, or the section. -/
theorem go_head {l : Lim} {e D y : List UInt8} {n c i : Nat} (he : Ext l e) (hc : c ≠ 0) : ∃ c', go l (sz D n c) (e ++ 13 :: 10 :: y) i = go l (if n = 0 then s6 D c' else dt D n c') y (i + e.length + 2) := by
  rcases he with rfl | ⟨x, rfl, ht, hl⟩
  · refine ⟨c, ?_⟩
    rw [List.nil_append, go_step (l := l) (s := sz D n c) (c := 13) (s' := ⟨2, n, c, 0, 0, [], D, []⟩) (by simp [er, sz, semi_not, hc]) (by simp [nxt, sz, semi_not]) (by simp), go_nl]
    rfl
  · refine ⟨1 + x.length, ?_⟩
    have h0 : l.ext ≠ 0 := by omega
    rw [List.cons_append, go_step (l := l) (s := sz D n c) (c := 59) (s' := ex D n 1) (by simp [er, sz, semi_not, hc, h0]) (by simp [nxt, sz, ex, semi_not]) (by simp [ex]), go_text x _ _ _ _ _ ht (by omega),
      go_step (l := l) (s := ex D n (1 + x.length)) (c := 13) (s' := ⟨2, n, 1 + x.length, 0, 0, [], D, []⟩) (by simp [er, ex]) (by simp [nxt, ex]) (by simp), go_nl]
    simp only [List.length_cons]
    rw [show i + 1 + x.length + 1 + 1 = i + (x.length + 1) + 2 by omega]

theorem go_chunk {l : Lim} {e c D y : List UInt8} {i : Nat} (he : Ext l e) (hl : c.length ≤ 4611686018427387903) : go l (sz D 0 0) (ck e c ++ y) i = go l (sz (D ++ c) 0 0) y (i + (ck e c).length) := by
  unfold ck
  by_cases hc : c = []
  · subst hc; simp
  · rw [if_neg hc]
    have hc0 : 0 < c.length := List.length_pos_iff.2 hc
    have hp := put_len16 c.length (by omega)
    have hp0 := put_len_pos c.length
    have e0 : put c.length ++ e ++ [13, 10] ++ c ++ [13, 10] ++ y = put c.length ++ (e ++ 13 :: 10 :: (c ++ 13 :: 10 :: y)) := by simp
    rw [e0, go_digits _ _ _ _ _ _ (put_isd c.length) (by omega) (by rw [put_val]; omega), put_val, Nat.zero_mul, Nat.zero_add, Nat.zero_add]
    obtain ⟨c', h'⟩ := go_head (l := l) (e := e) (D := D) (y := c ++ 13 :: 10 :: y) (n := c.length) (c := (put c.length).length) (i := i + (put c.length).length) he (by omega)
    rw [h', if_neg (by omega), dt_run c D _ _ _ _ (Nat.le_refl _) hc, if_pos rfl,
      go_step (l := l) (s := d4 (D ++ c) c') (c := 13) (s' := ⟨5, 0, c', 0, 0, [], D ++ c, []⟩) (by simp [er, d4]) (by simp [nxt, d4]) (by simp),
      go_step (l := l) (s := ⟨5, 0, c', 0, 0, [], D ++ c, []⟩) (c := 10) (s' := sz (D ++ c) 0 0) (by simp [er]) (by simp [nxt, sz]) (by simp [sz])]
    congr 1
    simp
    omega
theorem go_chunks {l : Lim} {e : List UInt8} (he : Ext l e) (cs : List (List UInt8)) : ∀ (D y : List UInt8) (i : Nat), (∀ c ∈ cs, c.length ≤ 4611686018427387903) → go l (sz D 0 0) (cks e cs ++ y) i = go l (sz (D ++ cs.flatten) 0 0) y (i + (cks e cs).length) := by
  induction cs with
  | nil => intro D y i _; simp [cks]
  | cons c cs ih =>
    intro D y i hl
    rw [cks_cons, List.append_assoc, go_chunk he (hl c List.mem_cons_self), ih _ _ _ fun x hx => hl x (List.mem_cons_of_mem _ hx)]
    simp [Nat.add_assoc]

/-- The section, within the limits. -/
theorem lp_sec {l : Lim} (fs : List Fld) : ∀ (a b : Nat), rights fs = true → a + fs.length ≤ l.fields → b + (body fs).length ≤ l.bytes → lp l 1 a b (sec fs) = (sec fs).length := by
  induction fs with
  | nil =>
    intro a b _ _ _
    have : sec [] = [13, 10] := rfl
    rw [this, lp_yes (by simp [lim]), nx1_13, lp_yes (by simp [lim])]
    simp [lp]
  | cons f fs ih =>
    intro a b hr ha hb
    have hr' : right f = true ∧ rights fs = true := by unfold rights at hr; rw [List.all_cons, Bool.and_eq_true] at hr; exact hr
    have hrun := run_sec hr []
    rw [List.append_nil] at hrun
    have es : sec (f :: fs) = (line f).data.toList ++ 13 :: 10 :: sec fs := by unfold sec; rw [body_cons]; simp
    have hbl : (body (f :: fs)).length = (line f).data.toList.length + 2 + (body fs).length := by rw [body_cons]; simp; omega
    have hne := line_ne hr'.1
    rw [es] at hrun ⊢
    cases hline : (line f).data.toList with
    | nil => exact absurd (by rw [hline]; rfl) (line_pos f)
    | cons x t =>
      rw [hline] at hrun hbl hne
      have hS : Sound 1 ((x :: t) ++ 13 :: 10 :: sec fs) := .inr hrun
      rw [List.cons_append] at hS ⊢
      have hx13 := hne x List.mem_cons_self
      obtain ⟨u, hu, -⟩ := line_text hr'.1
      have htk : tkb x = true := by
        rw [hline] at hu
        have hr1 := hr'.1
        unfold right token at hr1
        simp only [Bool.and_eq_true] at hr1
        cases hl : f.name.data.toList with
        | nil => rw [hl] at hr1; simp at hr1
        | cons z zs =>
          rw [hl] at hr1 hu
          rw [List.cons_append] at hu
          obtain ⟨rfl, -⟩ := List.cons.inj hu
          have := hr1.1.2
          unfold every at this
          rw [List.all_cons, Bool.and_eq_true] at this
          exact this.1
      have hn2 := nx1_tok htk
      have hS2 := (sound_step hS).2.2 (by rw [hn2]; decide)
      rw [hn2] at hS2
      have hlim : lim l 1 a b x = false := by
        simp only [List.length_cons] at ha hbl
        unfold lim
        rw [if_neg (by simp [hx13]), if_neg (by simp; omega), decide_eq_false (by omega)]
      rw [lp_yes hlim, hn2, show up 1 a x = a + 1 by simp [up, hx13], show wd 1 b x = b + 1 by simp [wd, hx13]]
      simp only [List.length_cons] at ha hbl
      rw [lpA _ _ _ hS2 (by omega), eol_line (fun z hz => hne z (List.mem_cons_of_mem _ hz))]
      simp only
      rw [if_neg (by omega), show t ++ 13 :: 10 :: sec fs = (t ++ [13, 10]) ++ sec fs by simp, show t.length + 2 = (t ++ [13, 10]).length by simp, List.drop_left, ih _ _ hr'.2 (by omega) (by omega)]
      simp
      omega
theorem go_section {l : Lim} {D y : List UInt8} {c i : Nat} {fs : List Fld} (hr : rights fs = true) (hf : fs.length ≤ l.fields) (hb : (body fs).length ≤ l.bytes) :
    ∃ s', go l (s6 D c) (sec fs ++ y) i = (s', i + (sec fs).length, 0) ∧ s'.data = D ∧ s'.fields = fs := by
  have hrun := run_sec hr y
  have h1 := (go_sec (l := l) (D := D) (c := c) (sec fs ++ y) 1 0 0 i [] [] (by decide) rfl).2
  rw [hrun] at h1
  simp only [List.take_left] at h1
  obtain ⟨s', h2, h3, h4⟩ := h1 (by rw [lp_sec fs 0 0 hr (by omega) (by omega)]; omega)
  refine ⟨s', h2, h3, ?_⟩
  rw [h4 trivial]
  show fof (sec fs ++ y) = fs
  exact fof_sec hr y

/-- What is put is read as it was, whatever follows. -/
theorem go_bod {l : Lim} {e : List UInt8} (he : Ext l e) {cs : List (List UInt8)} (hc : ∀ c ∈ cs, c.length ≤ 4611686018427387903) {fs : List Fld} (hr : rights fs = true) (hf : fs.length ≤ l.fields) (hb : (body fs).length ≤ l.bytes) (y : List UInt8) :
    ∃ s', go l (sz [] 0 0) (bod e cs fs ++ y) 0 = (s', (bod e cs fs).length, 0) ∧ s'.data = cs.flatten ∧ s'.fields = fs := by
  unfold bod
  rw [List.append_assoc, go_chunks he cs _ _ _ hc, List.nil_append, Nat.zero_add]
  have e1 : [48] ++ e ++ [13, 10] ++ sec fs ++ y = put 0 ++ (e ++ 13 :: 10 :: (sec fs ++ y)) := by simp [put, hexd]
  rw [e1, go_digits _ _ _ _ _ _ (put_isd 0) (by simp [put]) (by rw [put_val]; simp), put_val]
  obtain ⟨c', h'⟩ := go_head (l := l) (e := e) (D := cs.flatten) (y := sec fs ++ y) (n := 0) (c := 0 + (put 0).length) (i := (cks e cs).length + (put 0).length) he (by have := put_len_pos 0; omega)
  simp only [Nat.zero_mul, Nat.zero_add] at h' ⊢
  rw [h', if_pos trivial]
  obtain ⟨s', h1, h2, h3⟩ := go_section (l := l) (D := cs.flatten) (y := y) (c := c') (i := (cks e cs).length + (put 0).length + e.length + 2) hr hf hb
  refine ⟨s', ?_, h2, h3⟩
  rw [h1]
  have : (put 0).length = 1 := by simp [put]
  simp
  omega

/-- One byte of an extension too many. -/
theorem go_over {l : Lim} {x D y : List UInt8} {n c i : Nat} (hc : c ≠ 0) (ht : text x = true) (hl : l.ext = x.length) : ∃ s', go l (sz D n c) (59 :: x ++ 13 :: y) i = (s', i + x.length, 5) := by
  cases hx : x with
  | nil =>
    subst hx
    refine ⟨sz D n c, ?_⟩
    rw [List.cons_append, go_bad (e := 5) (by simp [er, sz, semi_not, hc]; simp at hl; omega) (by decide)]
    rfl
  | cons z zs =>
    have hn : x ≠ [] := by rw [hx]; simp
    rw [← hx]
    have ex0 : x = x.dropLast ++ [x.getLast hn] := (List.dropLast_concat_getLast hn).symm
    have hll : x.length = x.dropLast.length + 1 := by have := congrArg List.length ex0; rw [List.length_append] at this; exact this
    have h0 : l.ext ≠ 0 := by omega
    have ht2 : text x.dropLast = true ∧ txb (x.getLast hn) = true := by
      rw [ex0] at ht
      unfold text every at ht ⊢
      rw [List.all_append, Bool.and_eq_true] at ht
      refine ⟨ht.1, ?_⟩
      have := ht.2
      simp at this
      exact this
    refine ⟨ex D n (1 + x.dropLast.length), ?_⟩
    rw [List.cons_append, go_step (l := l) (s := sz D n c) (c := 59) (s' := ex D n 1) (by simp [er, sz, semi_not, hc, h0]) (by simp [nxt, sz, ex, semi_not]) (by simp [ex])]
    conv => lhs; rw [ex0]
    rw [List.append_assoc, go_text x.dropLast _ _ _ _ _ ht2.1 (by omega), List.singleton_append, go_bad (e := 5) ?_ (by decide)]
    · rw [show i + 1 + x.dropLast.length = i + x.length by omega]
    · have h13 := (txt_ne ht2.2).1
      show (if x.getLast hn = 13 then 0 else if txb (x.getLast hn) = false then 2 else if l.ext ≤ 1 + x.dropLast.length then 5 else 0) = 5
      rw [if_neg h13, if_neg (by rw [ht2.2]; decide), if_pos (by omega)]
/-- What a body with an extension begins with: digits, the semicolon, the extension. -/
theorem bod_head (x : List UInt8) (cs : List (List UInt8)) (fs : List Fld) : ∃ n y, bod (59 :: x) cs fs = put n ++ (59 :: x ++ 13 :: y) ∧ n ≤ (cs.flatten).length := by
  unfold bod
  induction cs with
  | nil => exact ⟨0, 10 :: sec fs, by simp [cks, put, hexd], by simp⟩
  | cons c cs ih =>
    by_cases hc : c = []
    · subst hc
      rw [cks_cons, show ck (59 :: x) [] = [] from rfl, List.nil_append]
      obtain ⟨n, y, h1, h2⟩ := ih
      exact ⟨n, y, h1, by simpa using h2⟩
    · refine ⟨c.length, 10 :: (c ++ [13, 10] ++ (cks (59 :: x) cs ++ ([48] ++ 59 :: x ++ [13, 10] ++ sec fs))), ?_, by simp⟩
      rw [cks_cons]
      simp [ck, hc]
theorem go_bod_over {l : Lim} {x : List UInt8} (ht : text x = true) (hl : l.ext = x.length) {cs : List (List UInt8)} (hc : cs.flatten.length ≤ 4611686018427387903) (fs : List Fld) {n : Nat} {y : List UInt8} (h : bod (59 :: x) cs fs = put n ++ (59 :: x ++ 13 :: y)) (hn : n ≤ cs.flatten.length) :
    ∃ s', go l (sz [] 0 0) (bod (59 :: x) cs fs) 0 = (s', (put n).length + x.length, 5) := by
  have hp := put_len16 n (by omega)
  rw [h, go_digits _ _ _ _ _ _ (put_isd n) (by omega) (by rw [put_val]; omega), put_val]
  simp only [Nat.zero_mul, Nat.zero_add]
  exact go_over (by have := put_len_pos n; omega) ht hl
theorem bod_len (e : List UInt8) (cs : List (List UInt8)) (fs : List Fld) (h : cs.flatten.length ≤ 1000) : (bod e cs fs).length ≤ cs.flatten.length + cs.length * (e.length + 7) + e.length + 5 + (body fs).length := by
  have key : (cks e cs).length ≤ cs.flatten.length + cs.length * (e.length + 7) := by
    induction cs with
    | nil => simp [cks]
    | cons c cs ih =>
      simp only [List.flatten_cons, List.length_append] at h
      have := ih (by omega)
      have h1 : (ck e c).length ≤ c.length + (e.length + 7) := by
        unfold ck
        split
        · simp
        · have := put_len c.length 2 (by omega)
          simp
          omega
      rw [cks_cons]
      simp only [List.flatten_cons, List.length_append, List.length_cons, Nat.add_mul, Nat.one_mul]
      omega
  unfold bod sec
  simp only [List.length_append, List.length_cons, List.length_nil]
  omega

end Bd
end Go.Proofs.YtilebfpaibajcaaGreatDoor
