/- Plain words for layer 9: a decoder's state, what each place takes, and that it goes as the document's reading does. -/
import Derived.Test.YtjkccacpffikbaaGreatDoorBodyMath
namespace Go.Proofs.YtjkccacpffikbaaGreatDoor
namespace Dk
open Oc Fl Bk Hx Bd

/-- What a decoder holds. -/
structure Ds where
  wh : Nat
  wrong : Nat
  digits : Nat
  left : Nat
  ext : Nat
  bytes : Nat
  line : List UInt8
  fields : List Fld
  taken : Nat
  given : Nat

def failD (e : Nat) (d : Ds) : Nat × Ds := (0, { d with wrong := e, line := [], fields := [] })
def onlyD (b c : UInt8) (p : Nat) (d : Ds) : Nat × Ds := if c = b then (p, d) else failD 2 d
def keepD (l : Lim) (c : UInt8) (p : Nat) (d : Ds) : Nat × Ds := if d.bytes = l.bytes then failD 5 d else (p, { d with bytes := d.bytes + 1, line := d.line ++ [c] })
def digitD (c : UInt8) (d : Ds) : Nat × Ds :=
  if isd c = false then failD 2 d else if 288230376151711743 < d.left then failD 3 d else if d.digits = 16 then failD 3 d else (2, { d with left := d.left * 16 + dn c, digits := d.digits + 1 })
def extD (l : Lim) (c : UInt8) (d : Ds) : Nat × Ds :=
  if c = 13 then (4, d) else if txb c = false then failD 2 d else if d.ext = l.ext then failD 5 d else (3, { d with ext := d.ext + 1 })
def digitMoreD (l : Lim) (c : UInt8) (d : Ds) : Nat × Ds := if c = 13 then (4, d) else if c = 59 then extD l c d else digitD c d
def clearD (d : Ds) : Ds := { d with digits := 0, ext := 0 }
def sizeEndD (c : UInt8) (d : Ds) : Nat × Ds := if d.left = 0 then onlyD 10 c 8 (clearD d) else onlyD 10 c 5 (clearD d)
def beginD (l : Lim) (c : UInt8) (d : Ds) : Nat × Ds :=
  if c = 13 then (12, d) else if tkb c = false then failD 2 d else if d.fields.length = l.fields then failD 5 d else keepD l c 9 d
def nameD (l : Lim) (c : UInt8) (d : Ds) : Nat × Ds := if c = 58 then keepD l c 10 d else if tkb c = true then keepD l c 9 d else failD 2 d
def textD (l : Lim) (c : UInt8) (d : Ds) : Nat × Ds := if c = 13 then keepD l c 11 d else if txb c = true then keepD l c 10 d else failD 2 d
def lineEndD (l : Lim) (c : UInt8) (d : Ds) : Nat × Ds :=
  if c = 10 then (if d.bytes = l.bytes then failD 5 d else (8, { d with bytes := d.bytes + 1, line := [], fields := d.fields ++ [lf d.line.dropLast] })) else failD 2 d
/-- What the place takes of the byte c. -/
def takeD (l : Lim) (c : UInt8) (d : Ds) : Nat × Ds :=
  match d.wh with
  | 1 => digitD c d
  | 2 => digitMoreD l c d
  | 3 => extD l c d
  | 4 => sizeEndD c d
  | 6 => onlyD 13 c 7 d
  | 7 => onlyD 10 c 1 d
  | 8 => beginD l c d
  | 9 => nameD l c d
  | 10 => textD l c d
  | 11 => lineEndD l c d
  | 12 => onlyD 10 c 13 d
  | _ => (0, d)
/-- The place behind it is laid in. -/
def stood (x : Nat × Ds) : Ds := { x.2 with wh := x.1 }

/-- The decoder stands where the reading does. -/
structure Sim (l : Lim) (s : St) (d : Ds) : Prop where
  place : s.place ≤ 11
  wh : d.wh = if s.place = 0 then (if s.count = 0 then 1 else 2) else s.place + 2
  wrong : d.wrong = 0
  dig : s.place = 0 → d.digits = s.count
  dig0 : 3 ≤ s.place → d.digits = 0
  ext0 : s.place = 0 → d.ext = 0
  ext1 : s.place = 1 → d.ext = s.count
  ext3 : 3 ≤ s.place → d.ext = 0
  left : d.left = s.n
  nmax : s.n ≤ 4611686018427387903
  n3 : s.place = 3 → 0 < s.n
  c0 : s.place = 0 → s.count ≤ 16
  c1 : s.place = 1 → s.count ≤ l.ext
  bytes : d.bytes = s.size
  size : s.size ≤ l.bytes
  line : d.line = s.text
  fields : d.fields = s.fields
  lines : s.place ≤ 6 → s.lines = s.fields.length
  lines7 : 7 ≤ s.place → s.place ≤ 9 → s.lines = s.fields.length + 1
  lmax : s.lines ≤ l.fields
  tx : 7 ≤ s.place → s.place ≤ 9 → s.text ≠ []
  text : s.text.length ≤ s.size
  fmax : s.fields.length ≤ l.fields

theorem dn_le9 (b : UInt8) : dn b ≤ 15 := by have := Hx.dg_hi (b.toNat : Int); unfold dn; omega

/-- Where a byte is taken, both go on alike; where it isn't, both tell the same. -/
theorem sim_step {l : Lim} {s : St} {d : Ds} (c : UInt8) (h : Sim l s d) (h3 : s.place ≠ 3) (h11 : s.place ≠ 11) :
    (er l s c = 0 → Sim l (nxt s c) (stood (takeD l c d)) ∧ (takeD l c d).1 ≠ 0 ∧ (nxt s c).data = s.data ∧ (takeD l c d).2.taken = d.taken ∧ (takeD l c d).2.given = d.given) ∧
    (er l s c ≠ 0 → (takeD l c d).1 = 0 ∧ (takeD l c d).2.wrong = er l s c ∧ (takeD l c d).2.taken = d.taken ∧ (takeD l c d).2.given = d.given ∧ (takeD l c d).2.line = [] ∧ (takeD l c d).2.fields = []) := by
  obtain ⟨p, n, k, li, si, tx, D, fs⟩ := s
  obtain ⟨wh, wr, dg, lf', ex, by', ln, ff, ta, gi⟩ := d
  obtain ⟨a1, a2, a3, a4, a5, a6, a7, a8, a9, a10, a11, a12, a13, a14, a15, a16, a17, a18, a19, a20, a21, a22, a23⟩ := h
  simp only at a1 a2 a3 a4 a5 a6 a7 a8 a9 a10 a11 a12 a13 a14 a15 a16 a17 a18 a19 a20 a21 a22 a23 h3 h11
  subst a3
  replace a9 := a9.symm
  subst a9
  replace a14 := a14.symm
  subst a14
  replace a16 := a16.symm
  subst a16
  replace a17 := a17.symm
  subst a17
  have hd := dn_le9 c
  have hp : p = 0 ∨ p = 1 ∨ p = 2 ∨ p = 4 ∨ p = 5 ∨ p = 6 ∨ p = 7 ∨ p = 8 ∨ p = 9 ∨ p = 10 := by omega
  rcases hp with rfl | rfl | rfl | rfl | rfl | rfl | rfl | rfl | rfl | rfl
  -- a size's digits
  · have e1 := a4 rfl
    have e2 := a6 rfl
    have e3 := a12 rfl
    simp only [if_true] at a2
    subst e1
    subst e2
    simp only [er, nxt]
    by_cases b1 : isd c = true
    · have h13 : c ≠ 13 := fun h => by subst h; revert b1; decide
      have h59 : c ≠ 59 := fun h => by subst h; revert b1; decide
      rw [if_pos b1, if_pos b1]
      have et : takeD l c ⟨wh, 0, dg, n, 0, si, tx, fs, ta, gi⟩ = digitD c ⟨wh, 0, dg, n, 0, si, tx, fs, ta, gi⟩ := by
        subst a2
        by_cases h0 : dg = 0
        · simp [takeD, h0]
        · simp [takeD, h0, digitMoreD, h13, h59]
      rw [et]
      by_cases b2 : dg = 16 ∨ 288230376151711743 < n
      · rw [if_pos b2]
        refine ⟨fun h => absurd h (by decide), fun _ => ?_⟩
        by_cases b3 : 288230376151711743 < n
        · simp [digitD, b1, b3, failD]
        · have : dg = 16 := by omega
          simp [digitD, b1, b3, failD, this]
      · rw [if_neg b2]
        refine ⟨fun _ => ?_, fun h => absurd rfl h⟩
        have c1 : ¬ 288230376151711743 < n := fun h => b2 (.inr h)
        have c2 : ¬ dg = 16 := fun h => b2 (.inl h)
        simp only [digitD, b1, c1, c2, if_false, stood]
        refine ⟨?_, by simp⟩
        constructor <;> simp <;> omega
    · rw [if_neg b1, if_neg b1]
      have b1' : isd c = false := by simpa using b1
      by_cases h0 : dg = 0
      · subst h0
        simp only [if_true] at a2
        subst a2
        rw [if_pos (.inl rfl)]
        refine ⟨fun h => absurd h (by decide), fun _ => ?_⟩
        simp [takeD, digitD, b1', failD]
      · rw [if_neg h0] at a2
        subst a2
        by_cases h13 : c = 13
        · subst h13
          rw [if_neg (by simp [h0]), if_pos rfl, if_pos rfl]
          refine ⟨fun _ => ?_, fun h => absurd rfl h⟩
          simp only [takeD, digitMoreD, if_true, stood]
          refine ⟨?_, by simp⟩
          constructor <;> simp <;> omega
        · by_cases h59 : c = 59
          · subst h59
            rw [if_neg (by simp [h0]), if_neg h13, if_neg h13]
            by_cases b4 : l.ext < 1
            · rw [if_pos b4]
              refine ⟨fun h => absurd h (by decide), fun _ => ?_⟩
              have : l.ext = 0 := by omega
              simp [takeD, digitMoreD, extD, txb, txtB, this, failD]
            · rw [if_neg b4]
              refine ⟨fun _ => ?_, fun h => absurd rfl h⟩
              have h1 : ¬ (0 = l.ext) := by omega
              have h2 : txb 59 = true := by decide
              simp only [takeD, digitMoreD, extD, if_neg h13, if_true, h2, h1, if_false, stood]
              refine ⟨?_, by simp⟩
              constructor <;> simp <;> omega
          · rw [if_pos (.inr ⟨h59, h13⟩)]
            refine ⟨fun h => absurd h (by decide), fun _ => ?_⟩
            simp [takeD, digitMoreD, h13, h59, digitD, b1', failD]
  -- an extension
  · have e1 := a7 rfl
    have e3 := a13 rfl
    simp at a2
    subst e1
    subst a2
    simp only [er, nxt]
    by_cases h13 : c = 13
    · rw [if_pos h13, if_pos h13]
      refine ⟨fun _ => ?_, fun h => absurd rfl h⟩
      simp only [takeD, extD, if_pos h13, stood]
      refine ⟨?_, by simp⟩
      constructor <;> simp <;> omega
    · rw [if_neg h13, if_neg h13]
      cases hx : txb c with
      | false =>
        rw [if_pos rfl]
        refine ⟨fun h => absurd h (by decide), fun _ => ?_⟩
        simp [takeD, extD, h13, hx, failD]
      | true =>
        rw [if_neg (by decide)]
        by_cases b4 : l.ext ≤ ex
        · rw [if_pos b4]
          refine ⟨fun h => absurd h (by decide), fun _ => ?_⟩
          have : ex = l.ext := by omega
          simp [takeD, extD, h13, hx, failD, this]
        · rw [if_neg b4]
          refine ⟨fun _ => ?_, fun h => absurd rfl h⟩
          have h1 : ¬ (ex = l.ext) := by omega
          simp only [takeD, extD, if_neg h13, hx, h1, if_false, stood]
          refine ⟨?_, by simp⟩
          constructor <;> simp <;> omega
  -- the end of a size's line
  · simp at a2
    subst a2
    simp only [er, nxt]
    by_cases h10 : c = 10
    · rw [if_pos h10]
      refine ⟨fun _ => ?_, fun h => absurd rfl h⟩
      by_cases hn : 0 < n
      · have h0 : ¬ n = 0 := by omega
        rw [if_pos hn]
        simp only [takeD, sizeEndD, clearD, onlyD, if_neg h0, if_pos h10, stood]
        refine ⟨?_, by simp⟩
        constructor <;> simp <;> omega
      · have h0 : n = 0 := by omega
        rw [if_neg hn]
        simp only [takeD, sizeEndD, clearD, onlyD, if_pos h0, if_pos h10, stood]
        refine ⟨?_, by simp⟩
        constructor <;> simp <;> omega
    · rw [if_neg h10]
      refine ⟨fun h => absurd h (by decide), fun _ => ?_⟩
      by_cases h0 : n = 0
      · simp [takeD, sizeEndD, clearD, onlyD, h0, h10, failD]
      · simp [takeD, sizeEndD, clearD, onlyD, h0, h10, failD]
  -- behind data
  · simp at a2
    subst a2
    simp only [er, nxt]
    by_cases h13 : c = 13
    · rw [if_pos h13]
      refine ⟨fun _ => ?_, fun h => absurd rfl h⟩
      simp only [takeD, onlyD, if_pos h13, stood]
      refine ⟨?_, by simp⟩
      constructor <;> simp <;> omega
    · rw [if_neg h13]
      refine ⟨fun h => absurd h (by decide), fun _ => ?_⟩
      simp [takeD, onlyD, h13, failD]
  · have e1 := a5 (by decide)
    have e2 := a8 (by decide)
    simp at a2
    subst a2
    subst e1
    subst e2
    simp only [er, nxt]
    by_cases h10 : c = 10
    · rw [if_pos h10]
      refine ⟨fun _ => ?_, fun h => absurd rfl h⟩
      simp only [takeD, onlyD, if_pos h10, stood]
      refine ⟨?_, by simp⟩
      constructor <;> simp <;> omega
    · rw [if_neg h10]
      refine ⟨fun h => absurd h (by decide), fun _ => ?_⟩
      simp [takeD, onlyD, h10, failD]
  -- a trailer's line
  · have e1 := a5 (by decide)
    have e2 := a8 (by decide)
    have e3 := a18 (by decide)
    simp at a2
    subst a2
    subst e1
    subst e2
    simp only [er, nxt, lineE]
    by_cases h13 : c = 13
    · rw [if_pos h13, if_pos h13]
      refine ⟨fun _ => ?_, fun h => absurd rfl h⟩
      simp only [takeD, beginD, if_pos h13, stood]
      refine ⟨?_, by simp⟩
      constructor <;> simp <;> omega
    · rw [if_neg h13, if_neg h13]
      cases hx : tkb c with
      | false =>
        rw [if_pos rfl]
        refine ⟨fun h => absurd h (by decide), fun _ => ?_⟩
        simp [takeD, beginD, h13, hx, failD]
      | true =>
        rw [if_neg (by decide)]
        by_cases b4 : l.fields ≤ li
        · rw [if_pos b4]
          refine ⟨fun h => absurd h (by decide), fun _ => ?_⟩
          have : fs.length = l.fields := by omega
          simp [takeD, beginD, h13, hx, failD, this]
        · rw [if_neg b4]
          have h1 : ¬ (fs.length = l.fields) := by omega
          by_cases b5 : l.bytes ≤ si
          · rw [if_pos b5]
            refine ⟨fun h => absurd h (by decide), fun _ => ?_⟩
            have : si = l.bytes := by omega
            simp [takeD, beginD, h13, hx, failD, h1, keepD, this]
          · rw [if_neg b5]
            refine ⟨fun _ => ?_, fun h => absurd rfl h⟩
            have h2 : ¬ (si = l.bytes) := by omega
            simp only [takeD, beginD, if_neg h13, hx, h1, if_false, keepD, h2, stood]
            refine ⟨?_, by simp⟩
            constructor <;> simp <;> omega
  -- a name
  · have e1 := a5 (by decide)
    have e2 := a8 (by decide)
    have e3 := a19 (by decide) (by decide)
    simp at a2
    subst a2
    subst e1
    subst e2
    simp only [er, nxt, lineE]
    by_cases h58 : c = 58
    · rw [if_pos h58, if_pos h58]
      by_cases b5 : l.bytes ≤ si
      · rw [if_pos b5]
        refine ⟨fun h => absurd h (by decide), fun _ => ?_⟩
        have : si = l.bytes := by omega
        simp [takeD, nameD, h58, failD, keepD, this]
      · rw [if_neg b5]
        refine ⟨fun _ => ?_, fun h => absurd rfl h⟩
        have h2 : ¬ (si = l.bytes) := by omega
        simp only [takeD, nameD, if_pos h58, keepD, h2, if_false, stood]
        refine ⟨?_, by simp⟩
        constructor <;> simp <;> omega
    · rw [if_neg h58, if_neg h58]
      cases hx : tkb c with
      | false =>
        rw [if_pos rfl]
        refine ⟨fun h => absurd h (by decide), fun _ => ?_⟩
        simp [takeD, nameD, h58, hx, failD]
      | true =>
        rw [if_neg (by decide)]
        by_cases b5 : l.bytes ≤ si
        · rw [if_pos b5]
          refine ⟨fun h => absurd h (by decide), fun _ => ?_⟩
          have : si = l.bytes := by omega
          simp [takeD, nameD, h58, hx, failD, keepD, this]
        · rw [if_neg b5]
          refine ⟨fun _ => ?_, fun h => absurd rfl h⟩
          have h2 : ¬ (si = l.bytes) := by omega
          simp only [takeD, nameD, if_neg h58, hx, if_true, keepD, h2, if_false, stood]
          refine ⟨?_, by simp⟩
          constructor <;> simp <;> omega
  -- a value
  · have e1 := a5 (by decide)
    have e2 := a8 (by decide)
    have e3 := a19 (by decide) (by decide)
    simp at a2
    subst a2
    subst e1
    subst e2
    simp only [er, nxt, lineE]
    by_cases h13 : c = 13
    · rw [if_pos h13, if_pos h13]
      by_cases b5 : l.bytes ≤ si
      · rw [if_pos b5]
        refine ⟨fun h => absurd h (by decide), fun _ => ?_⟩
        have : si = l.bytes := by omega
        simp [takeD, textD, h13, failD, keepD, this]
      · rw [if_neg b5]
        refine ⟨fun _ => ?_, fun h => absurd rfl h⟩
        have h2 : ¬ (si = l.bytes) := by omega
        simp only [takeD, textD, if_pos h13, keepD, h2, if_false, stood]
        refine ⟨?_, by simp⟩
        constructor <;> simp <;> omega
    · rw [if_neg h13, if_neg h13]
      cases hx : txb c with
      | false =>
        rw [if_pos rfl]
        refine ⟨fun h => absurd h (by decide), fun _ => ?_⟩
        simp [takeD, textD, h13, hx, failD]
      | true =>
        rw [if_neg (by decide)]
        by_cases b5 : l.bytes ≤ si
        · rw [if_pos b5]
          refine ⟨fun h => absurd h (by decide), fun _ => ?_⟩
          have : si = l.bytes := by omega
          simp [takeD, textD, h13, hx, failD, keepD, this]
        · rw [if_neg b5]
          refine ⟨fun _ => ?_, fun h => absurd rfl h⟩
          have h2 : ¬ (si = l.bytes) := by omega
          simp only [takeD, textD, if_neg h13, hx, if_true, keepD, h2, if_false, stood]
          refine ⟨?_, by simp⟩
          constructor <;> simp <;> omega
  -- a line's last byte
  · have e1 := a5 (by decide)
    have e2 := a8 (by decide)
    have e3 := a19 (by decide) (by decide)
    simp at a2
    subst a2
    subst e1
    subst e2
    simp only [er, nxt, lineE]
    by_cases h10 : c = 10
    · rw [if_pos h10]
      by_cases b5 : l.bytes ≤ si
      · rw [if_pos b5]
        refine ⟨fun h => absurd h (by decide), fun _ => ?_⟩
        have : si = l.bytes := by omega
        simp [takeD, lineEndD, h10, failD, this]
      · rw [if_neg b5]
        refine ⟨fun _ => ?_, fun h => absurd rfl h⟩
        have h2 : ¬ (si = l.bytes) := by omega
        simp only [takeD, lineEndD, if_pos h10, h2, if_false, stood]
        refine ⟨?_, by simp⟩
        constructor <;> simp <;> omega
    · rw [if_neg h10]
      refine ⟨fun h => absurd h (by decide), fun _ => ?_⟩
      simp [takeD, lineEndD, h10, failD]
  -- a body's last byte
  · have e1 := a5 (by decide)
    have e2 := a8 (by decide)
    simp at a2
    subst a2
    subst e1
    subst e2
    simp only [er, nxt]
    by_cases h10 : c = 10
    · rw [if_pos h10]
      refine ⟨fun _ => ?_, fun h => absurd rfl h⟩
      simp only [takeD, onlyD, if_pos h10, stood]
      refine ⟨?_, by simp⟩
      constructor <;> simp <;> omega
    · rw [if_neg h10]
      refine ⟨fun h => absurd h (by decide), fun _ => ?_⟩
      simp [takeD, onlyD, h10, failD]

end Dk
end Go.Proofs.YtjkccacpffikbaaGreatDoor
