/- Plain words for layer 8: chunked bodies, byte by byte. -/
import Derived.Test.YtjkccacpffikbaaGreatDoorBlockMath
import Derived.Test.YtjkccacpffikbaaGreatDoorHexaMath
namespace Go.Proofs.YtjkccacpffikbaaGreatDoor
namespace Bd
open Oc Fl Bk Hx

structure Lim where
  ext : Nat
  fields : Nat
  bytes : Nat

/-- Where the next byte stands, and what was read. -/
structure St where
  place : Nat
  n : Nat
  count : Nat
  lines : Nat
  size : Nat
  text : List UInt8
  data : List UInt8
  fields : List Fld

/-- The field of a line. -/
def lf (x : List UInt8) : Fld := if good (arr x) = true then parsed (arr x) else ⟨⟨#[]⟩, ⟨#[]⟩⟩
def dn (c : UInt8) : Nat := (dg (c.toNat : Int)).toNat
def lineE (l : Lim) (s : St) : Nat := if l.bytes ≤ s.size then 5 else 0

/-- What is wrong with the byte c, or 0. -/
def er (l : Lim) (s : St) (c : UInt8) : Nat :=
  match s.place with
  | 0 => if isd c = true then (if s.count = 16 ∨ 288230376151711743 < s.n then 3 else 0) else if s.count = 0 ∨ (c ≠ 59 ∧ c ≠ 13) then 2 else if c = 13 then 0 else if l.ext < 1 then 5 else 0
  | 1 => if c = 13 then 0 else if txb c = false then 2 else if l.ext ≤ s.count then 5 else 0
  | 2 => if c = 10 then 0 else 2
  | 3 => 0
  | 4 => if c = 13 then 0 else 2
  | 5 => if c = 10 then 0 else 2
  | 6 => if c = 13 then 0 else if tkb c = false then 2 else if l.fields ≤ s.lines then 5 else lineE l s
  | 7 => if c = 58 then lineE l s else if tkb c = false then 2 else lineE l s
  | 8 => if c = 13 then lineE l s else if txb c = false then 2 else lineE l s
  | 9 => if c = 10 then lineE l s else 2
  | 10 => if c = 10 then 0 else 2
  | _ => 0
/-- The state behind the byte c, which isn't wrong. -/
def nxt (s : St) (c : UInt8) : St :=
  match s.place with
  | 0 => if isd c = true then { s with n := 16 * s.n + dn c, count := s.count + 1 } else if c = 13 then { s with place := 2 } else { s with place := 1, count := 1 }
  | 1 => if c = 13 then { s with place := 2 } else { s with count := s.count + 1 }
  | 2 => if 0 < s.n then { s with place := 3 } else { s with place := 6 }
  | 3 => { s with data := s.data ++ [c], n := s.n - 1, place := if s.n - 1 = 0 then 4 else 3 }
  | 4 => { s with place := 5 }
  | 5 => { s with place := 0, count := 0 }
  | 6 => if c = 13 then { s with place := 10 } else { s with lines := s.lines + 1, place := 7, size := s.size + 1, text := s.text ++ [c] }
  | 7 => { s with place := if c = 58 then 8 else 7, size := s.size + 1, text := s.text ++ [c] }
  | 8 => { s with place := if c = 13 then 9 else 8, size := s.size + 1, text := s.text ++ [c] }
  | 9 => { s with size := s.size + 1, fields := s.fields ++ [lf s.text.dropLast], text := [], place := 6 }
  | 10 => { s with place := 11 }
  | _ => s

/-- Byte by byte: the last state, the place, and what is told there. -/
def go (l : Lim) : St → List UInt8 → Nat → St × Nat × Nat
  | s, [], i => (s, i, 4)
  | s, c :: r, i => if er l s c = 0 then (if (nxt s c).place = 11 then (nxt s c, i + 1, 0) else go l (nxt s c) r (i + 1)) else (s, i, er l s c)

theorem go_nil (l : Lim) (s : St) (i : Nat) : go l s [] i = (s, i, 4) := rfl
theorem go_bad {l : Lim} {s : St} {c : UInt8} {r : List UInt8} {i e : Nat} (h : er l s c = e) (he : e ≠ 0) : go l s (c :: r) i = (s, i, e) := by
  subst h; simp [go, he]
theorem go_step {l : Lim} {s s' : St} {c : UInt8} {r : List UInt8} {i : Nat} (h : er l s c = 0) (hs : nxt s c = s') (hp : s'.place ≠ 11) : go l s (c :: r) i = go l s' r (i + 1) := by
  subst hs
  show (if er l s c = 0 then (if (nxt s c).place = 11 then (nxt s c, i + 1, 0) else go l (nxt s c) r (i + 1)) else (s, i, er l s c)) = _
  rw [if_pos h, if_neg hp]
theorem go_last {l : Lim} {s s' : St} {c : UInt8} {r : List UInt8} {i : Nat} (h : er l s c = 0) (hs : nxt s c = s') (hp : s'.place = 11) : go l s (c :: r) i = (s', i + 1, 0) := by
  subst hs
  show (if er l s c = 0 then (if (nxt s c).place = 11 then (nxt s c, i + 1, 0) else go l (nxt s c) r (i + 1)) else (s, i, er l s c)) = _
  rw [if_pos h, if_pos hp]

theorem go_at (l : Lim) (s : St) (x : List UInt8) (i : Nat) : i ≤ (go l s x i).2.1 ∧ (go l s x i).2.1 ≤ i + x.length ∧ ((go l s x i).2.2 = 4 → (go l s x i).2.1 = i + x.length) := by
  induction x generalizing s i with
  | nil => exact ⟨Nat.le_refl _, Nat.le_refl _, fun _ => rfl⟩
  | cons c r ih =>
    by_cases h : er l s c = 0
    · by_cases hp : (nxt s c).place = 11
      · rw [go_last h rfl hp]; simp
      · rw [go_step h rfl hp]
        have := ih (nxt s c) (i + 1)
        simp only [List.length_cons]
        omega
    · rw [go_bad rfl h]
      simp only [List.length_cons]
      refine ⟨Nat.le_refl _, by omega, fun e => ?_⟩
      exfalso
      revert e
      unfold er lineE
      (repeat' split) <;> simp
theorem er_four (l : Lim) (s : St) (c : UInt8) : er l s c ≠ 4 := by unfold er lineE; (repeat' split) <;> simp
theorem er_le (l : Lim) (s : St) (c : UInt8) : er l s c ≤ 5 := by unfold er lineE; (repeat' split) <;> simp
theorem go_le (l : Lim) (s : St) (x : List UInt8) (i : Nat) : (go l s x i).2.2 ≤ 5 := by
  induction x generalizing s i with
  | nil => simp [go]
  | cons c r ih =>
    by_cases h : er l s c = 0
    · by_cases hp : (nxt s c).place = 11
      · rw [go_last h rfl hp]; simp
      · rw [go_step h rfl hp]; exact ih _ _
    · rw [go_bad rfl h]; exact er_le l s c
/-- What has gone wrong, or come to its end, stays so, whatever follows. -/
theorem go_app (l : Lim) (s : St) (x y : List UInt8) (i : Nat) (h : (go l s x i).2.2 ≠ 4) : go l s (x ++ y) i = go l s x i := by
  induction x generalizing s i with
  | nil => exact absurd rfl h
  | cons c r ih =>
    rw [List.cons_append]
    by_cases h0 : er l s c = 0
    · by_cases hp : (nxt s c).place = 11
      · rw [go_last h0 rfl hp, go_last h0 rfl hp]
      · rw [go_step h0 rfl hp] at h ⊢
        rw [go_step h0 rfl hp, ih _ _ h]
    · rw [go_bad rfl h0, go_bad rfl h0]
theorem nxt_data (s : St) (c : UInt8) : ∃ d, (nxt s c).data = s.data ++ d := by
  unfold nxt
  split
  case h_4 => exact ⟨[c], rfl⟩
  all_goals (try split) <;> (try split) <;> exact ⟨[], by simp⟩
theorem go_data (l : Lim) (s : St) (x : List UInt8) (i : Nat) : ∃ d, (go l s x i).1.data = s.data ++ d := by
  induction x generalizing s i with
  | nil => exact ⟨[], by simp [go]⟩
  | cons c r ih =>
    by_cases h : er l s c = 0
    · by_cases hp : (nxt s c).place = 11
      · rw [go_last h rfl hp]; exact nxt_data s c
      · rw [go_step h rfl hp]
        obtain ⟨d, hd⟩ := ih (nxt s c) (i + 1)
        obtain ⟨d', hd'⟩ := nxt_data s c
        exact ⟨d' ++ d, by rw [hd, hd', List.append_assoc]⟩
    · rw [go_bad rfl h]; exact ⟨[], by simp⟩
/-- Cut short ahead of its end, it goes on so far; its data are a beginning. -/
theorem go_cut (l : Lim) (s : St) (x : List UInt8) (i k : Nat) (h0 : (go l s x i).2.2 = 0) (hk : i + k < (go l s x i).2.1) :
    (go l s (x.take k) i).2 = (i + k, 4) ∧ ∃ d, (go l s x i).1.data = (go l s (x.take k) i).1.data ++ d := by
  induction x generalizing s i k with
  | nil => simp [go] at h0
  | cons c r ih =>
    by_cases h : er l s c = 0
    · by_cases hp : (nxt s c).place = 11
      · rw [go_last h rfl hp] at hk ⊢
        obtain rfl : k = 0 := by simp at hk; omega
        exact ⟨rfl, nxt_data s c⟩
      · cases k with
        | zero => exact ⟨rfl, go_data l s (c :: r) i⟩
        | succ k =>
          rw [List.take_succ_cons]
          rw [go_step h rfl hp] at h0 hk ⊢
          rw [go_step h rfl hp]
          have := ih (nxt s c) (i + 1) k h0 (by omega)
          rw [show i + (k + 1) = i + 1 + k by omega]
          exact this
    · rw [go_bad rfl h] at h0; exact absurd h0 h

/-- Greater limits. -/
structure Lim.le (l g : Lim) : Prop where
  ext : l.ext ≤ g.ext
  fields : l.fields ≤ g.fields
  bytes : l.bytes ≤ g.bytes
theorem er_limits {l g : Lim} (h : l.le g) (s : St) (c : UInt8) (h5 : er l s c ≠ 5) : er g s c = er l s c := by
  obtain ⟨h1, h2, h3⟩ := h
  obtain ⟨p, n, k, li, si, tx, da, fs⟩ := s
  have a1 : ¬ l.ext < 1 → ¬ g.ext < 1 := by omega
  have a2 : ¬ l.ext ≤ k → ¬ g.ext ≤ k := by omega
  have a3 : ¬ l.fields ≤ li → ¬ g.fields ≤ li := by omega
  have a4 : ¬ l.bytes ≤ si → ¬ g.bytes ≤ si := by omega
  match p with
  | 0 =>
    simp only [er] at h5 ⊢
    by_cases b1 : isd c = true
    · rw [if_pos b1, if_pos b1]
    · rw [if_neg b1] at h5 ⊢
      rw [if_neg b1]
      by_cases b2 : k = 0 ∨ c ≠ 59 ∧ c ≠ 13
      · rw [if_pos b2, if_pos b2]
      · rw [if_neg b2] at h5 ⊢
        rw [if_neg b2]
        by_cases b3 : c = 13
        · rw [if_pos b3, if_pos b3]
        · rw [if_neg b3] at h5 ⊢
          rw [if_neg b3]
          by_cases b4 : l.ext < 1
          · rw [if_pos b4] at h5; exact absurd rfl h5
          · rw [if_neg b4, if_neg (a1 b4)]
  | 1 =>
    simp only [er] at h5 ⊢
    by_cases b1 : c = 13
    · rw [if_pos b1, if_pos b1]
    · rw [if_neg b1] at h5 ⊢
      rw [if_neg b1]
      by_cases b2 : txb c = false
      · rw [if_pos b2, if_pos b2]
      · rw [if_neg b2] at h5 ⊢
        rw [if_neg b2]
        by_cases b4 : l.ext ≤ k
        · rw [if_pos b4] at h5; exact absurd rfl h5
        · rw [if_neg b4, if_neg (a2 b4)]
  | 2 =>
    rfl
  | 3 =>
    rfl
  | 4 =>
    rfl
  | 5 =>
    rfl
  | 6 =>
    simp only [er, lineE] at h5 ⊢
    by_cases b1 : c = 13
    · rw [if_pos b1, if_pos b1]
    · rw [if_neg b1] at h5 ⊢
      rw [if_neg b1]
      by_cases b2 : tkb c = false
      · rw [if_pos b2, if_pos b2]
      · rw [if_neg b2] at h5 ⊢
        rw [if_neg b2]
        by_cases b3 : l.fields ≤ li
        · rw [if_pos b3] at h5; exact absurd rfl h5
        · rw [if_neg b3] at h5 ⊢
          rw [if_neg (a3 b3)]
          by_cases b4 : l.bytes ≤ si
          · rw [if_pos b4] at h5; exact absurd rfl h5
          · rw [if_neg b4, if_neg (a4 b4)]
  | 7 =>
    simp only [er, lineE] at h5 ⊢
    by_cases b4 : l.bytes ≤ si
    · rw [if_pos b4] at h5 ⊢
      by_cases b1 : c = 58
      · rw [if_pos b1] at h5; exact absurd rfl h5
      · rw [if_neg b1] at h5 ⊢
        rw [if_neg b1]
        by_cases b2 : tkb c = false
        · rw [if_pos b2, if_pos b2]
        · rw [if_neg b2] at h5; exact absurd rfl h5
    · rw [if_neg b4, if_neg (a4 b4)]
  | 8 =>
    simp only [er, lineE] at h5 ⊢
    by_cases b4 : l.bytes ≤ si
    · rw [if_pos b4] at h5 ⊢
      by_cases b1 : c = 13
      · rw [if_pos b1] at h5; exact absurd rfl h5
      · rw [if_neg b1] at h5 ⊢
        rw [if_neg b1]
        by_cases b2 : txb c = false
        · rw [if_pos b2, if_pos b2]
        · rw [if_neg b2] at h5; exact absurd rfl h5
    · rw [if_neg b4, if_neg (a4 b4)]
  | 9 =>
    simp only [er, lineE] at h5 ⊢
    by_cases b4 : l.bytes ≤ si
    · rw [if_pos b4] at h5 ⊢
      by_cases b1 : c = 10
      · rw [if_pos b1] at h5; exact absurd rfl h5
      · rw [if_neg b1, if_neg b1]
    · rw [if_neg b4, if_neg (a4 b4)]
  | 10 =>
    rfl
  | q + 11 =>
    rfl
theorem go_limits {l g : Lim} (h : l.le g) (s : St) (x : List UInt8) (i : Nat) :
    ((go l s x i).2.2 ≠ 5 → go g s x i = go l s x i) ∧ ((go l s x i).2.2 = 5 → (go l s x i).2.1 ≤ (go g s x i).2.1) := by
  induction x generalizing s i with
  | nil => exact ⟨fun _ => rfl, fun h => by simp [go] at h⟩
  | cons c r ih =>
    by_cases h5 : er l s c = 5
    · rw [go_bad h5 (by decide)]
      exact ⟨fun h => absurd rfl h, fun _ => (go_at g s (c :: r) i).1⟩
    · have e := er_limits h s c h5
      by_cases h0 : er l s c = 0
      · by_cases hp : (nxt s c).place = 11
        · rw [go_last h0 rfl hp, go_last (e.trans h0) rfl hp]; simp
        · rw [go_step h0 rfl hp, go_step (e.trans h0) rfl hp]; exact ih _ _
      · rw [go_bad rfl h0, go_bad e h0]
        exact ⟨fun _ => rfl, fun h => absurd h h5⟩

/-- At a size's digits, in an extension, at data, behind them, at the section. -/
def sz (D : List UInt8) (n c : Nat) : St := ⟨0, n, c, 0, 0, [], D, []⟩
def ex (D : List UInt8) (n c : Nat) : St := ⟨1, n, c, 0, 0, [], D, []⟩
def dt (D : List UInt8) (n c : Nat) : St := ⟨3, n, c, 0, 0, [], D, []⟩
def d4 (D : List UInt8) (c : Nat) : St := ⟨4, 0, c, 0, 0, [], D, []⟩
def s6 (D : List UInt8) (c : Nat) : St := ⟨6, 0, c, 0, 0, [], D, []⟩

theorem drop_some {T : List UInt8} {k : Nat} {b : UInt8} (h : T[k]? = some b) : T.drop k = b :: T.drop (k + 1) := by
  obtain ⟨hlt, e⟩ := List.getElem?_eq_some_iff.1 h
  rw [List.drop_eq_getElem_cons hlt, e]
theorem drop_none {T : List UInt8} {k : Nat} (h : T.length ≤ k) : T.drop k = [] := List.drop_eq_nil_of_le h

theorem sz_digit {l : Lim} {T D : List UInt8} {n c k : Nat} {b : UInt8} (h : T[k]? = some b) (hb : isd b = true) (hc : c < 16) (hn : n ≤ 288230376151711743) :
    go l (sz D n c) (T.drop k) k = go l (sz D (16 * n + dn b) (c + 1)) (T.drop (k + 1)) (k + 1) := by
  rw [drop_some h]
  refine go_step ?_ ?_ ?_
  · show (if isd b = true then (if c = 16 ∨ 288230376151711743 < n then 3 else 0) else _) = 0
    rw [if_pos hb, if_neg (by omega)]
  · show (if isd b = true then _ else _) = _
    rw [if_pos hb]; rfl
  · show (0 : Nat) ≠ 11
    decide
theorem sz_big {l : Lim} {T D : List UInt8} {n c k : Nat} {b : UInt8} (h : T[k]? = some b) (hb : isd b = true) (hn : c = 16 ∨ 288230376151711743 < n) : go l (sz D n c) (T.drop k) k = (sz D n c, k, 3) := by
  rw [drop_some h]
  refine go_bad ?_ (by decide)
  show (if isd b = true then (if c = 16 ∨ 288230376151711743 < n then 3 else 0) else _) = 3
  rw [if_pos hb, if_pos hn]
theorem sz_none {l : Lim} {T D : List UInt8} {n k : Nat} {b : UInt8} (h : T[k]? = some b) (hb : isd b = false) : go l (sz D n 0) (T.drop k) k = (sz D n 0, k, 2) := by
  rw [drop_some h]
  refine go_bad ?_ (by decide)
  simp [er, sz, hb]
theorem go_end (l : Lim) (s : St) {T : List UInt8} {k : Nat} (h : T.length ≤ k) : go l s (T.drop k) k = (s, k, 4) := by rw [drop_none h]; rfl

theorem semi_not : isd 59 = false ∧ isd 13 = false := by decide
theorem sz_semi {l : Lim} {T D : List UInt8} {n c k : Nat} (h : T[k]? = some 59) (hc : c ≠ 0) (he : 1 ≤ l.ext) : go l (sz D n c) (T.drop k) k = go l (ex D n 1) (T.drop (k + 1)) (k + 1) := by
  rw [drop_some h]
  refine go_step ?_ rfl ?_
  · have : l.ext ≠ 0 := by omega
    simp [er, sz, semi_not, hc, this]
  · show (1 : Nat) ≠ 11
    decide
theorem sz_semi_no {l : Lim} {T D : List UInt8} {n c k : Nat} (h : T[k]? = some 59) (hc : c ≠ 0) (he : l.ext = 0) : go l (sz D n c) (T.drop k) k = (sz D n c, k, 5) := by
  rw [drop_some h]
  refine go_bad ?_ (by decide)
  simp [er, sz, semi_not, hc, he]
theorem ex_text {l : Lim} {T D : List UInt8} {n c k : Nat} {b : UInt8} (h : T[k]? = some b) (hb : txb b = true) (hc : c < l.ext) : go l (ex D n c) (T.drop k) k = go l (ex D n (c + 1)) (T.drop (k + 1)) (k + 1) := by
  have h13 := (txt_ne hb).1
  rw [drop_some h]
  refine go_step ?_ ?_ ?_
  · show (if b = 13 then 0 else if txb b = false then 2 else if l.ext ≤ c then 5 else 0) = 0
    rw [if_neg h13, if_neg (by rw [hb]; decide), if_neg (by omega)]
  · show (if b = 13 then _ else _) = _
    rw [if_neg h13]; rfl
  · show (1 : Nat) ≠ 11
    decide
theorem ex_limit {l : Lim} {T D : List UInt8} {n c k : Nat} {b : UInt8} (h : T[k]? = some b) (hb : txb b = true) (hc : l.ext ≤ c) : go l (ex D n c) (T.drop k) k = (ex D n c, k, 5) := by
  have h13 := (txt_ne hb).1
  rw [drop_some h]
  refine go_bad ?_ (by decide)
  show (if b = 13 then 0 else if txb b = false then 2 else if l.ext ≤ c then 5 else 0) = 5
  rw [if_neg h13, if_neg (by rw [hb]; decide), if_pos hc]
theorem ex_bad {l : Lim} {T D : List UInt8} {n c k : Nat} {b : UInt8} (h : T[k]? = some b) (hb : txb b = false) (h13 : b ≠ 13) : go l (ex D n c) (T.drop k) k = (ex D n c, k, 2) := by
  rw [drop_some h]
  refine go_bad ?_ (by decide)
  show (if b = 13 then 0 else if txb b = false then 2 else if l.ext ≤ c then 5 else 0) = 2
  rw [if_neg h13, if_pos hb]

/-- How an end is read: how many bytes, and what is told. -/
def ends : List UInt8 → Nat × Nat
  | [] => (0, 4)
  | [b] => if b = 13 then (1, 4) else (0, 2)
  | b :: c :: _ => if b = 13 then (if c = 10 then (2, 0) else (1, 2)) else (0, 2)

/-- Behind the digits, or the extension: s is one of these states. -/
def Head (s : St) (T D : List UInt8) (n k : Nat) : Prop := (∃ c b, s = sz D n c ∧ c ≠ 0 ∧ T[k]? = some b ∧ isd b = false ∧ b ≠ 59) ∨ (∃ c, s = ex D n c ∧ T[k]? = some 13)
theorem head_end {l : Lim} {s : St} {T D : List UInt8} {n k : Nat} (h : Head s T D n k) :
    ((ends (T.drop k)).2 ≠ 0 → ∃ s', go l s (T.drop k) k = (s', k + (ends (T.drop k)).1, (ends (T.drop k)).2) ∧ s'.data = D) ∧
    ((ends (T.drop k)).2 = 0 → ∃ c, go l s (T.drop k) k = go l (if n = 0 then s6 D c else dt D n c) (T.drop (k + 2)) (k + 2) ∧ k + 2 ≤ T.length) := by
  have key : ∀ c, (T[k]? = some 13) → go l s (T.drop k) k = go l ⟨2, n, c, 0, 0, [], D, []⟩ (T.drop (k + 1)) (k + 1) →
      ((ends (T.drop k)).2 ≠ 0 → ∃ s', go l s (T.drop k) k = (s', k + (ends (T.drop k)).1, (ends (T.drop k)).2) ∧ s'.data = D) ∧
      ((ends (T.drop k)).2 = 0 → ∃ c, go l s (T.drop k) k = go l (if n = 0 then s6 D c else dt D n c) (T.drop (k + 2)) (k + 2) ∧ k + 2 ≤ T.length) := by
    intro c h13 e
    rw [e, drop_some h13]
    cases h1 : T[k + 1]? with
    | none =>
      have hle : T.length ≤ k + 1 := by simpa using h1
      rw [drop_none hle]
      exact ⟨fun _ => ⟨_, rfl, rfl⟩, fun h => by simp [ends] at h⟩
    | some d =>
      have hlt := (List.getElem?_eq_some_iff.1 h1).1
      rw [drop_some h1]
      by_cases hd : d = 10
      · subst hd
        refine ⟨fun h => absurd (by simp [ends]) h, fun _ => ⟨c, ?_, by omega⟩⟩
        refine go_step (by simp [er]) ?_ ?_
        · by_cases hn : n = 0
          · subst hn; simp [nxt, s6]
          · simp [nxt, dt, hn, Nat.pos_of_ne_zero hn]
        · split <;> simp [s6, dt]
      · refine ⟨fun _ => ⟨⟨2, n, c, 0, 0, [], D, []⟩, ?_, rfl⟩, fun h => by simp [ends, hd] at h⟩
        rw [go_bad (e := 2) (by simp [er, hd]) (by decide)]
        simp [ends, hd]
  rcases h with ⟨c, b, rfl, hc, hb, hi, h59⟩ | ⟨c, rfl, hb⟩
  · by_cases h13 : b = 13
    · subst h13
      refine key c hb ?_
      rw [drop_some hb]
      exact go_step (by simp [er, sz, hi, hc]) (by simp [nxt, sz, hi]) (by simp)
    · have e : go l (sz D n c) (T.drop k) k = (sz D n c, k, 2) := by
        rw [drop_some hb]
        exact go_bad (by simp [er, sz, hi, h13, h59]) (by decide)
      have e2 : ends (T.drop k) = (0, 2) := by
        rw [drop_some hb]
        cases T.drop (k + 1) <;> simp [ends, h13]
      rw [e, e2]
      exact ⟨fun _ => ⟨_, rfl, rfl⟩, fun h => by simp at h⟩
  · refine key c hb ?_
    rw [drop_some hb]
    exact go_step (by simp [er, ex]) (by simp [nxt, ex]) (by simp)

theorem er_dt (l : Lim) (D : List UInt8) (n c : Nat) (b : UInt8) : er l (dt D n c) b = 0 := rfl
theorem dt_run {l : Lim} (x : List UInt8) : ∀ (D y : List UInt8) (n c i : Nat), x.length ≤ n → x ≠ [] → go l (dt D n c) (x ++ y) i = go l (if n = x.length then d4 (D ++ x) c else dt (D ++ x) (n - x.length) c) y (i + x.length) := by
  induction x with
  | nil => intro D y n c i _ h; exact absurd rfl h
  | cons b x ih =>
    intro D y n c i hn _
    simp only [List.length_cons] at hn
    rw [List.cons_append]
    have hs : nxt (dt D n c) b = if n - 1 = 0 then d4 (D ++ [b]) c else dt (D ++ [b]) (n - 1) c := by
      show (⟨if n - 1 = 0 then 4 else 3, n - 1, c, 0, 0, [], D ++ [b], []⟩ : St) = _
      by_cases h0 : n - 1 = 0
      · rw [if_pos h0, if_pos h0, h0]; rfl
      · rw [if_neg h0, if_neg h0]; rfl
    rw [go_step (er_dt l D n c b) hs (by split <;> simp [d4, dt])]
    by_cases hx : x = []
    · subst hx
      simp only [List.nil_append, List.length_cons, List.length_nil]
      by_cases h1 : n = 1
      · subst h1; simp
      · rw [if_neg (by omega), if_neg (by omega)]
    · have hl : 0 < x.length := List.length_pos_iff.2 hx
      rw [if_neg (by omega), ih (D ++ [b]) y (n - 1) c (i + 1) (by omega) hx]
      simp only [List.length_cons, List.append_assoc, List.singleton_append]
      rw [show i + 1 + x.length = i + (x.length + 1) by omega]
      by_cases h1 : n = x.length + 1
      · rw [if_pos (by omega), if_pos h1]
      · rw [if_neg (by omega), if_neg h1, show n - 1 - x.length = n - (x.length + 1) by omega]

/-- Data. -/
theorem dt_all {l : Lim} {T D : List UInt8} {n c k : Nat} (hn : 0 < n) (h : k + n ≤ T.length) : go l (dt D n c) (T.drop k) k = go l (d4 (D ++ (T.drop k).take n) c) (T.drop (k + n)) (k + n) := by
  have hl : ((T.drop k).take n).length = n := by simp; omega
  have e : T.drop k = (T.drop k).take n ++ T.drop (k + n) := by rw [← List.drop_drop, List.take_append_drop]
  conv => lhs; rw [e]
  rw [dt_run _ D _ n c k (by omega) (by intro h0; rw [h0] at hl; simp at hl; omega), if_pos hl.symm, hl]
theorem dt_some {l : Lim} {T D : List UInt8} {n c k : Nat} (hk : k ≤ T.length) (h : T.length < k + n) : ∃ s', go l (dt D n c) (T.drop k) k = (s', T.length, 4) ∧ s'.data = D ++ T.drop k := by
  by_cases hx : T.drop k = []
  · have : T.length ≤ k := by simpa using hx
    rw [hx]
    exact ⟨_, by rw [go_nil, show T.length = k by omega], by simp [dt]⟩
  · have hl : (T.drop k).length = T.length - k := by simp
    have := dt_run (l := l) (T.drop k) D [] n c k (by omega) hx
    rw [List.append_nil, if_neg (by omega), go_nil, hl, show k + (T.length - k) = T.length by omega] at this
    exact ⟨_, this, rfl⟩
/-- The end behind data. -/
theorem d4_end {l : Lim} {T D : List UInt8} {c k : Nat} :
    ((ends (T.drop k)).2 ≠ 0 → ∃ s', go l (d4 D c) (T.drop k) k = (s', k + (ends (T.drop k)).1, (ends (T.drop k)).2) ∧ s'.data = D) ∧
    ((ends (T.drop k)).2 = 0 → go l (d4 D c) (T.drop k) k = go l (sz D 0 0) (T.drop (k + 2)) (k + 2) ∧ k + 2 ≤ T.length) := by
  cases h0 : T[k]? with
  | none =>
    have hle : T.length ≤ k := by simpa using h0
    rw [drop_none hle]
    exact ⟨fun _ => ⟨_, rfl, rfl⟩, fun h => by simp [ends] at h⟩
  | some b =>
    rw [drop_some h0]
    by_cases h13 : b = 13
    · subst h13
      rw [go_step (l := l) (s := d4 D c) (c := 13) (s' := ⟨5, 0, c, 0, 0, [], D, []⟩) (by simp [er, d4]) (by simp [nxt, d4]) (by simp)]
      cases h1 : T[k + 1]? with
      | none =>
        have hle : T.length ≤ k + 1 := by simpa using h1
        rw [drop_none hle]
        exact ⟨fun _ => ⟨_, rfl, rfl⟩, fun h => by simp [ends] at h⟩
      | some d =>
        have hlt := (List.getElem?_eq_some_iff.1 h1).1
        rw [drop_some h1]
        by_cases hd : d = 10
        · subst hd
          refine ⟨fun h => absurd (by simp [ends]) h, fun _ => ⟨?_, by omega⟩⟩
          exact go_step (by simp [er]) (by simp [nxt, sz]) (by simp [sz])
        · refine ⟨fun _ => ⟨⟨5, 0, c, 0, 0, [], D, []⟩, ?_, rfl⟩, fun h => by simp [ends, hd] at h⟩
          rw [go_bad (e := 2) (by simp [er, hd]) (by decide)]
          simp [ends, hd]
    · have e2 : ends (b :: T.drop (k + 1)) = (0, 2) := by cases T.drop (k + 1) <;> simp [ends, h13]
      rw [e2, go_bad (e := 2) (by simp [er, d4, h13]) (by decide)]
      exact ⟨fun _ => ⟨_, rfl, rfl⟩, fun h => by simp at h⟩

end Bd
end Go.Proofs.YtjkccacpffikbaaGreatDoor
