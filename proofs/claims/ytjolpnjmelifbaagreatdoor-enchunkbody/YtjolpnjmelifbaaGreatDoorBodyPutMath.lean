/- Plain words for layer 8: what is put is read as it was. -/
import Derived.Test.YtjolpnjmelifbaaGreatDoorBodySec
namespace Go.Proofs.YtjolpnjmelifbaaGreatDoor
namespace Bd
open Oc Fl Bk Hx

/-- A chunk; chunks; a body, as they are put: e stands behind each size. -/
def ck (e c : List UInt8) : List UInt8 := if c = [] then [] else put c.length ++ e ++ [13, 10] ++ c ++ [13, 10]
def cks (e : List UInt8) (cs : List (List UInt8)) : List UInt8 := cs.flatMap (ck e)
def bod (e : List UInt8) (cs : List (List UInt8)) (fs : List Fld) : List UInt8 := cks e cs ++ ([48] ++ e ++ [13, 10] ++ sec fs)

theorem cks_cons (e c : List UInt8) (cs : List (List UInt8)) : cks e (c :: cs) = ck e c ++ cks e cs := rfl
theorem cks_snoc (e c : List UInt8) (cs : List (List UInt8)) : cks e (cs ++ [c]) = cks e cs ++ ck e c := by simp [cks]

theorem go_digits {l : Lim} (ds : List UInt8) : ∀ (D y : List UInt8) (n c i : Nat), (∀ b ∈ ds, isd b = true) → c + ds.length ≤ 16 → n * 16 ^ ds.length + val ds ≤ 4611686018427387903 →
    go l (sz D n c) (ds ++ y) i = go l (sz D (n * 16 ^ ds.length + val ds) (c + ds.length)) y (i + ds.length) := by
  induction ds with
  | nil => intro D y n c i _ _ _; simp [val]
  | cons b ds ih =>
    intro D y n c i hd hc hn
    have hb := hd b List.mem_cons_self
    have h16 : 16 ^ (b :: ds).length = 16 * 16 ^ ds.length := by rw [List.length_cons, Nat.pow_succ, Nat.mul_comm]
    have hpos : 1 ≤ 16 ^ ds.length := Nat.pos_of_ne_zero (by simp)
    have e0 : n * 16 ^ (b :: ds).length + val (b :: ds) = (16 * n + dn b) * 16 ^ ds.length + val ds := by
      rw [val_cons, h16]
      show n * (16 * 16 ^ ds.length) + (dn b * 16 ^ ds.length + val ds) = _
      rw [Nat.add_mul, ← Nat.mul_assoc, Nat.mul_comm n 16]; omega
    have hle : n ≤ 288230376151711743 := by
      have h1 : n * 16 ≤ n * 16 ^ (b :: ds).length := Nat.mul_le_mul_left _ (by rw [h16]; omega)
      omega
    simp only [List.length_cons] at hc
    rw [List.cons_append, go_step (l := l) (s := sz D n c) (c := b) (s' := sz D (16 * n + dn b) (c + 1)) ?_ ?_ ?_, ih _ _ _ _ _ (fun x hx => hd x (List.mem_cons_of_mem _ hx)) (by omega) (by rw [← e0]; exact hn), e0]
    · simp only [List.length_cons]
      rw [show c + 1 + ds.length = c + (ds.length + 1) by omega, show i + 1 + ds.length = i + (ds.length + 1) by omega]
    · show (if isd b = true then (if c = 16 ∨ 288230376151711743 < n then 3 else 0) else _) = 0
      rw [if_pos hb, if_neg (by omega)]
    · show (if isd b = true then _ else _) = _
      rw [if_pos hb]; rfl
    · show (0 : Nat) ≠ 11
      decide

/-- An extension that fits. -/
def Ext (l : Lim) (e : List UInt8) : Prop := e = [] ∨ ∃ x, e = 59 :: x ∧ text x = true ∧ x.length + 1 ≤ l.ext
theorem go_text {l : Lim} (x : List UInt8) : ∀ (D y : List UInt8) (n c i : Nat), text x = true → c + x.length ≤ l.ext → go l (ex D n c) (x ++ y) i = go l (ex D n (c + x.length)) y (i + x.length) := by
  induction x with
  | nil => intro D y n c i _ _; simp
  | cons b x ih =>
    intro D y n c i ht hc
    rw [text_cons, Bool.and_eq_true] at ht
    simp only [List.length_cons] at hc
    have h13 := (txt_ne ht.1).1
    rw [List.cons_append, go_step (l := l) (s := ex D n c) (c := b) (s' := ex D n (c + 1)) ?_ ?_ ?_, ih _ _ _ _ _ ht.2 (by omega)]
    · simp only [List.length_cons]
      rw [show c + 1 + x.length = c + (x.length + 1) by omega, show i + 1 + x.length = i + (x.length + 1) by omega]
    · show (if b = 13 then 0 else if txb b = false then 2 else if l.ext ≤ c then 5 else 0) = 0
      rw [if_neg h13, if_neg (by rw [ht.1]; decide), if_neg (by omega)]
    · show (if b = 13 then _ else _) = _
      rw [if_neg h13]; rfl
    · show (1 : Nat) ≠ 11
      decide
theorem go_nl {l : Lim} {D y : List UInt8} {n c i : Nat} : go l ⟨2, n, c, 0, 0, [], D, []⟩ (10 :: y) i = go l (if n = 0 then s6 D c else dt D n c) y (i + 1) := by
  refine go_step (by simp [er]) ?_ ?_
  · by_cases hn : n = 0
    · subst hn; simp [nxt, s6]
    · simp [nxt, dt, hn, Nat.pos_of_ne_zero hn]
  · split <;> simp [s6, dt]
/-- From the digits to the data, or the section. -/
theorem go_head {l : Lim} {e D y : List UInt8} {n c i : Nat} (he : Ext l e) (hc : c ≠ 0) : ∃ c', go l (sz D n c) (e ++ 13 :: 10 :: y) i = go l (if n = 0 then s6 D c' else dt D n c') y (i + e.length + 2) := by
  rcases he with rfl | ⟨x, rfl, ht, hl⟩
  · refine ⟨c, ?_⟩
    rw [List.nil_append, go_step (l := l) (s := sz D n c) (c := 13) (s' := ⟨2, n, c, 0, 0, [], D, []⟩) (by simp [er, sz, semi_not, hc]) (by simp [nxt, sz, semi_not]) (by simp), go_nl]
    rfl
  · refine ⟨1 + x.length, ?_⟩
    have h0 : l.ext ≠ 0 := by omega
    rw [List.cons_append, go_step (l := l) (s := sz D n c) (c := 59) (s' := ex D n 1) (by simp [er, sz, semi_not, hc, h0]) (by simp [nxt, sz, ex, semi_not]) (by simp [ex]), go_text x _ _ _ _ _ ht (by omega),
      go_step (l := l) (s := ex D n (1 + x.length)) (c := 13) (s' := ⟨2, n, 1 + x.length, 0, 0, [], D, []⟩) (by simp [er, ex]) (by simp [nxt, ex]) (by simp), go_nl]
    simp only [List.length_cons]
    rw [show i + 1 + x.length + 1 + 1 = i + (x.length + 1) + 2 by omega]

theorem go_chunk {l : Lim} {e c D y : List UInt8} {i : Nat} (he : Ext l e) (hl : c.length ≤ 4611686018427387903) : go l (sz D 0 0) (ck e c ++ y) i = go l (sz (D ++ c) 0 0) y (i + (ck e c).length) := by
  unfold ck
  by_cases hc : c = []
  · subst hc; simp
  · rw [if_neg hc]
    have hc0 : 0 < c.length := List.length_pos_iff.2 hc
    have hp := put_len16 c.length (by omega)
    have hp0 := put_len_pos c.length
    have e0 : put c.length ++ e ++ [13, 10] ++ c ++ [13, 10] ++ y = put c.length ++ (e ++ 13 :: 10 :: (c ++ 13 :: 10 :: y)) := by simp
    rw [e0, go_digits _ _ _ _ _ _ (put_isd c.length) (by omega) (by rw [put_val]; omega), put_val, Nat.zero_mul, Nat.zero_add, Nat.zero_add]
    obtain ⟨c', h'⟩ := go_head (l := l) (e := e) (D := D) (y := c ++ 13 :: 10 :: y) (n := c.length) (c := (put c.length).length) (i := i + (put c.length).length) he (by omega)
    rw [h', if_neg (by omega), dt_run c D _ _ _ _ (Nat.le_refl _) hc, if_pos rfl,
      go_step (l := l) (s := d4 (D ++ c) c') (c := 13) (s' := ⟨5, 0, c', 0, 0, [], D ++ c, []⟩) (by simp [er, d4]) (by simp [nxt, d4]) (by simp),
      go_step (l := l) (s := ⟨5, 0, c', 0, 0, [], D ++ c, []⟩) (c := 10) (s' := sz (D ++ c) 0 0) (by simp [er]) (by simp [nxt, sz]) (by simp [sz])]
    congr 1
    simp
    omega
theorem go_chunks {l : Lim} {e : List UInt8} (he : Ext l e) (cs : List (List UInt8)) : ∀ (D y : List UInt8) (i : Nat), (∀ c ∈ cs, c.length ≤ 4611686018427387903) → go l (sz D 0 0) (cks e cs ++ y) i = go l (sz (D ++ cs.flatten) 0 0) y (i + (cks e cs).length) := by
  induction cs with
  | nil => intro D y i _; simp [cks]
  | cons c cs ih =>
    intro D y i hl
    rw [cks_cons, List.append_assoc, go_chunk he (hl c List.mem_cons_self), ih _ _ _ fun x hx => hl x (List.mem_cons_of_mem _ hx)]
    simp [Nat.add_assoc]

/-- The section, within the limits. -/
theorem lp_sec {l : Lim} (fs : List Fld) : ∀ (a b : Nat), rights fs = true → a + fs.length ≤ l.fields → b + (body fs).length ≤ l.bytes → lp l 1 a b (sec fs) = (sec fs).length := by
  induction fs with
  | nil =>
    intro a b _ _ _
    have : sec [] = [13, 10] := rfl
    rw [this, lp_yes (by simp [lim]), nx1_13, lp_yes (by simp [lim])]
    simp [lp]
  | cons f fs ih =>
    intro a b hr ha hb
    have hr' : right f = true ∧ rights fs = true := by unfold rights at hr; rw [List.all_cons, Bool.and_eq_true] at hr; exact hr
    have hrun := run_sec hr []
    rw [List.append_nil] at hrun
    have es : sec (f :: fs) = (line f).data.toList ++ 13 :: 10 :: sec fs := by unfold sec; rw [body_cons]; simp
    have hbl : (body (f :: fs)).length = (line f).data.toList.length + 2 + (body fs).length := by rw [body_cons]; simp; omega
    have hne := line_ne hr'.1
    rw [es] at hrun ⊢
    cases hline : (line f).data.toList with
    | nil => exact absurd (by rw [hline]; rfl) (line_pos f)
    | cons x t =>
      rw [hline] at hrun hbl hne
      have hS : Sound 1 ((x :: t) ++ 13 :: 10 :: sec fs) := .inr hrun
      rw [List.cons_append] at hS ⊢
      have hx13 := hne x List.mem_cons_self
      obtain ⟨u, hu, -⟩ := line_text hr'.1
      have htk : tkb x = true := by
        rw [hline] at hu
        have hr1 := hr'.1
        unfold right token at hr1
        simp only [Bool.and_eq_true] at hr1
        cases hl : f.name.data.toList with
        | nil => rw [hl] at hr1; simp at hr1
        | cons z zs =>
          rw [hl] at hr1 hu
          rw [List.cons_append] at hu
          obtain ⟨rfl, -⟩ := List.cons.inj hu
          have := hr1.1.2
          unfold every at this
          rw [List.all_cons, Bool.and_eq_true] at this
          exact this.1
      have hn2 := nx1_tok htk
      have hS2 := (sound_step hS).2.2 (by rw [hn2]; decide)
      rw [hn2] at hS2
      have hlim : lim l 1 a b x = false := by
        simp only [List.length_cons] at ha hbl
        unfold lim
        rw [if_neg (by simp [hx13]), if_neg (by simp; omega), decide_eq_false (by omega)]
      rw [lp_yes hlim, hn2, show up 1 a x = a + 1 by simp [up, hx13], show wd 1 b x = b + 1 by simp [wd, hx13]]
      simp only [List.length_cons] at ha hbl
      rw [lpA _ _ _ hS2 (by omega), eol_line (fun z hz => hne z (List.mem_cons_of_mem _ hz))]
      simp only
      rw [if_neg (by omega), show t ++ 13 :: 10 :: sec fs = (t ++ [13, 10]) ++ sec fs by simp, show t.length + 2 = (t ++ [13, 10]).length by simp, List.drop_left, ih _ _ hr'.2 (by omega) (by omega)]
      simp
      omega
theorem go_section {l : Lim} {D y : List UInt8} {c i : Nat} {fs : List Fld} (hr : rights fs = true) (hf : fs.length ≤ l.fields) (hb : (body fs).length ≤ l.bytes) :
    ∃ s', go l (s6 D c) (sec fs ++ y) i = (s', i + (sec fs).length, 0) ∧ s'.data = D ∧ s'.fields = fs := by
  have hrun := run_sec hr y
  have h1 := (go_sec (l := l) (D := D) (c := c) (sec fs ++ y) 1 0 0 i [] [] (by decide) rfl).2
  rw [hrun] at h1
  simp only [List.take_left] at h1
  obtain ⟨s', h2, h3, h4⟩ := h1 (by rw [lp_sec fs 0 0 hr (by omega) (by omega)]; omega)
  refine ⟨s', h2, h3, ?_⟩
  rw [h4 trivial]
  show fof (sec fs ++ y) = fs
  exact fof_sec hr y

/-- What is put is read as it was, whatever follows. -/
theorem go_bod {l : Lim} {e : List UInt8} (he : Ext l e) {cs : List (List UInt8)} (hc : ∀ c ∈ cs, c.length ≤ 4611686018427387903) {fs : List Fld} (hr : rights fs = true) (hf : fs.length ≤ l.fields) (hb : (body fs).length ≤ l.bytes) (y : List UInt8) :
    ∃ s', go l (sz [] 0 0) (bod e cs fs ++ y) 0 = (s', (bod e cs fs).length, 0) ∧ s'.data = cs.flatten ∧ s'.fields = fs := by
  unfold bod
  rw [List.append_assoc, go_chunks he cs _ _ _ hc, List.nil_append, Nat.zero_add]
  have e1 : [48] ++ e ++ [13, 10] ++ sec fs ++ y = put 0 ++ (e ++ 13 :: 10 :: (sec fs ++ y)) := by simp [put, hexd]
  rw [e1, go_digits _ _ _ _ _ _ (put_isd 0) (by simp [put]) (by rw [put_val]; simp), put_val]
  obtain ⟨c', h'⟩ := go_head (l := l) (e := e) (D := cs.flatten) (y := sec fs ++ y) (n := 0) (c := 0 + (put 0).length) (i := (cks e cs).length + (put 0).length) he (by have := put_len_pos 0; omega)
  simp only [Nat.zero_mul, Nat.zero_add] at h' ⊢
  rw [h', if_pos trivial]
  obtain ⟨s', h1, h2, h3⟩ := go_section (l := l) (D := cs.flatten) (y := y) (c := c') (i := (cks e cs).length + (put 0).length + e.length + 2) hr hf hb
  refine ⟨s', ?_, h2, h3⟩
  rw [h1]
  have : (put 0).length = 1 := by simp [put]
  simp
  omega

/-- One byte of an extension too many. -/
theorem go_over {l : Lim} {x D y : List UInt8} {n c i : Nat} (hc : c ≠ 0) (ht : text x = true) (hl : l.ext = x.length) : ∃ s', go l (sz D n c) (59 :: x ++ 13 :: y) i = (s', i + x.length, 5) := by
  cases hx : x with
  | nil =>
    subst hx
    refine ⟨sz D n c, ?_⟩
    rw [List.cons_append, go_bad (e := 5) (by simp [er, sz, semi_not, hc]; simp at hl; omega) (by decide)]
    rfl
  | cons z zs =>
    have hn : x ≠ [] := by rw [hx]; simp
    rw [← hx]
    have ex0 : x = x.dropLast ++ [x.getLast hn] := (List.dropLast_concat_getLast hn).symm
    have hll : x.length = x.dropLast.length + 1 := by have := congrArg List.length ex0; rw [List.length_append] at this; exact this
    have h0 : l.ext ≠ 0 := by omega
    have ht2 : text x.dropLast = true ∧ txb (x.getLast hn) = true := by
      rw [ex0] at ht
      unfold text every at ht ⊢
      rw [List.all_append, Bool.and_eq_true] at ht
      refine ⟨ht.1, ?_⟩
      have := ht.2
      simp at this
      exact this
    refine ⟨ex D n (1 + x.dropLast.length), ?_⟩
    rw [List.cons_append, go_step (l := l) (s := sz D n c) (c := 59) (s' := ex D n 1) (by simp [er, sz, semi_not, hc, h0]) (by simp [nxt, sz, ex, semi_not]) (by simp [ex])]
    conv => lhs; rw [ex0]
    rw [List.append_assoc, go_text x.dropLast _ _ _ _ _ ht2.1 (by omega), List.singleton_append, go_bad (e := 5) ?_ (by decide)]
    · rw [show i + 1 + x.dropLast.length = i + x.length by omega]
    · have h13 := (txt_ne ht2.2).1
      show (if x.getLast hn = 13 then 0 else if txb (x.getLast hn) = false then 2 else if l.ext ≤ 1 + x.dropLast.length then 5 else 0) = 5
      rw [if_neg h13, if_neg (by rw [ht2.2]; decide), if_pos (by omega)]
/-- What a body with an extension begins with: digits, the semicolon, the extension. -/
theorem bod_head (x : List UInt8) (cs : List (List UInt8)) (fs : List Fld) : ∃ n y, bod (59 :: x) cs fs = put n ++ (59 :: x ++ 13 :: y) ∧ n ≤ (cs.flatten).length := by
  unfold bod
  induction cs with
  | nil => exact ⟨0, 10 :: sec fs, by simp [cks, put, hexd], by simp⟩
  | cons c cs ih =>
    by_cases hc : c = []
    · subst hc
      rw [cks_cons, show ck (59 :: x) [] = [] from rfl, List.nil_append]
      obtain ⟨n, y, h1, h2⟩ := ih
      exact ⟨n, y, h1, by simpa using h2⟩
    · refine ⟨c.length, 10 :: (c ++ [13, 10] ++ (cks (59 :: x) cs ++ ([48] ++ 59 :: x ++ [13, 10] ++ sec fs))), ?_, by simp⟩
      rw [cks_cons]
      simp [ck, hc]
theorem go_bod_over {l : Lim} {x : List UInt8} (ht : text x = true) (hl : l.ext = x.length) {cs : List (List UInt8)} (hc : cs.flatten.length ≤ 4611686018427387903) (fs : List Fld) {n : Nat} {y : List UInt8} (h : bod (59 :: x) cs fs = put n ++ (59 :: x ++ 13 :: y)) (hn : n ≤ cs.flatten.length) :
    ∃ s', go l (sz [] 0 0) (bod (59 :: x) cs fs) 0 = (s', (put n).length + x.length, 5) := by
  have hp := put_len16 n (by omega)
  rw [h, go_digits _ _ _ _ _ _ (put_isd n) (by omega) (by rw [put_val]; omega), put_val]
  simp only [Nat.zero_mul, Nat.zero_add]
  exact go_over (by have := put_len_pos n; omega) ht hl
theorem bod_len (e : List UInt8) (cs : List (List UInt8)) (fs : List Fld) (h : cs.flatten.length ≤ 1000) : (bod e cs fs).length ≤ cs.flatten.length + cs.length * (e.length + 7) + e.length + 5 + (body fs).length := by
  have key : (cks e cs).length ≤ cs.flatten.length + cs.length * (e.length + 7) := by
    induction cs with
    | nil => simp [cks]
    | cons c cs ih =>
      simp only [List.flatten_cons, List.length_append] at h
      have := ih (by omega)
      have h1 : (ck e c).length ≤ c.length + (e.length + 7) := by
        unfold ck
        split
        · simp
        · have := put_len c.length 2 (by omega)
          simp
          omega
      rw [cks_cons]
      simp only [List.flatten_cons, List.length_append, List.length_cons, Nat.add_mul, Nat.one_mul]
      omega
  unfold bod sec
  simp only [List.length_append, List.length_cons, List.length_nil]
  omega

end Bd
end Go.Proofs.YtjolpnjmelifbaaGreatDoor
