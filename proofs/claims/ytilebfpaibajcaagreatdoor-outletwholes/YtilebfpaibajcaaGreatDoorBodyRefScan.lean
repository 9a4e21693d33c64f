/- What the document's Scan answers. -/
import Derived.Test.YtilebfpaibajcaaGreatDoorBodyStepB
import Derived.StillTailTactics
import Derived.Deep.RegionHeld3
namespace Go.Proofs.YtilebfpaibajcaaGreatDoor
open Go.ChangeShapes Go.WideShapes Go.ChangeAt Go.RowKit
open Oc Fl Bk Bd
set_option linter.unusedVariables false
set_option maxRecDepth 100000

/-- What holds of a state behind i bytes. -/
structure Ok (i : Nat) (s : St) : Prop where
  place : s.place ≤ 10
  n : s.n ≤ 4611686018427387903
  c0 : s.place = 0 → s.count ≤ 16
  c1 : s.place = 1 → s.count ≤ 65536
  n3 : s.place = 3 → 0 < s.n
  tx : 7 ≤ s.place → s.place ≤ 9 → s.text ≠ []
  lines : s.lines ≤ i
  text : s.text.length ≤ i
  data : s.data.length ≤ i
  fields : s.fields.length ≤ i
theorem dn_le8 (b : UInt8) : dn b ≤ 15 := by have := Hx.dg_hi (b.toNat : Int); unfold dn; omega
theorem Ok.next {i : Nat} {s : St} {l : Lim} {b : UInt8} (h : Ok i s) (hl : l.ext ≤ 65536) (he : er l s b = 0) (h11 : (nxt s b).place ≠ 11) : Ok (i + 1) (nxt s b) := by
  obtain ⟨p, n, c, li, si, tx, D, fs⟩ := s
  obtain ⟨h1, h2, h3, h4, h5, h6, h7, h8, h9, h10⟩ := h
  simp only at h1 h2 h3 h4 h5 h6 h7 h8 h9 h10
  have hd := dn_le8 b
  have hp : p = 0 ∨ p = 1 ∨ p = 2 ∨ p = 3 ∨ p = 4 ∨ p = 5 ∨ p = 6 ∨ p = 7 ∨ p = 8 ∨ p = 9 ∨ p = 10 := by omega
  rcases hp with rfl | rfl | rfl | rfl | rfl | rfl | rfl | rfl | rfl | rfl | rfl
  · simp only [er] at he
    simp only [nxt]
    by_cases b1 : Hx.isd b = true
    · rw [if_pos b1] at he ⊢
      have : ¬ (c = 16 ∨ 288230376151711743 < n) := fun hh => by rw [if_pos hh] at he; cases he
      have := h3 rfl
      constructor <;> simp <;> omega
    · rw [if_neg b1] at he ⊢
      by_cases b2 : b = 13
      · rw [if_pos b2]; constructor <;> simp <;> omega
      · rw [if_neg b2]; constructor <;> simp <;> omega
  · simp only [er] at he
    simp only [nxt]
    by_cases b2 : b = 13
    · rw [if_pos b2]; constructor <;> simp <;> omega
    · rw [if_neg b2] at he ⊢
      have : ¬ l.ext ≤ c := fun hh => by
        cases hx : txb b <;> simp [hx, hh] at he
      constructor <;> simp <;> omega
  · simp only [nxt]
    split
    · constructor <;> simp <;> omega
    · constructor <;> simp <;> omega
  · simp only [nxt]
    have := h5 rfl
    split
    · constructor <;> simp <;> omega
    · constructor <;> simp <;> omega
  · simp only [nxt]; constructor <;> simp <;> omega
  · simp only [nxt]; constructor <;> simp <;> omega
  · simp only [nxt]
    split
    · constructor <;> simp <;> omega
    · constructor <;> simp <;> omega
  · simp only [nxt]
    split
    · constructor <;> simp <;> omega
    · constructor <;> simp <;> omega
  · simp only [nxt]
    split
    · constructor <;> simp <;> omega
    · constructor <;> simp <;> omega
  · simp only [nxt]; constructor <;> simp <;> omega
  · exact absurd rfl h11

theorem step_any {s : St} {dv gv : Value} {b : UInt8} {l : Lim} {i : Nat} (w : World) (hD : RD w dv s.data) (hF : FS w gv s.fields) (h : Ok i s) (hi : i ≤ 60000) (hl : l.ext ≤ 65536 ∧ l.fields ≤ 65536 ∧ l.bytes ≤ 65536) :
    Calls Tryz.prog 46 #[stv s dv gv, .int .u8 (b.toNat : Int), limv l] w fun e w' => StepQ l s b gv w e w' := by
  obtain ⟨p, n, c, li, si, tx, D, fs⟩ := s
  obtain ⟨h1, h2, h3, h4, h5, h6, h7, h8, h9, h10⟩ := h
  simp only at h1 h2 h3 h4 h5 h6 h7 h8 h9 h10
  have hp : p = 0 ∨ p = 1 ∨ p = 2 ∨ p = 3 ∨ p = 4 ∨ p = 5 ∨ p = 6 ∨ p = 7 ∨ p = 8 ∨ p = 9 ∨ p = 10 := by omega
  rcases hp with rfl | rfl | rfl | rfl | rfl | rfl | rfl | rfl | rfl | rfl | rfl
  · exact step_0 w hD hF (h3 rfl) h2 hl.1
  · exact step_1 w hD hF (h4 rfl) hl.1
  · exact step_2 w hD hF
  · exact step_3 w hD hF (h5 rfl) h2 (by omega)
  · exact step_4 w hD hF
  · exact step_5 w hD hF
  · exact step_6 w hD hF hl.2.2 (by omega) (by omega) (by omega) hl.2.1
  · exact step_7 w hD hF hl.2.2 (by omega) (by omega)
  · exact step_8 w hD hF hl.2.2 (by omega) (by omega)
  · exact step_9 w hD hF hl.2.2 (by omega) (by omega) (h6 (by decide) (by decide))
  · exact step_10 w hD hF

theorem results_row1 {P : Program} {fn : Func} {p : Tmp} {ty : TypeId} (h : fn.results = #[.cell p ty]) (tmps : Array Value) (w : World) (g : Nat) (t : TypeId) (cs : Array Value) (fr : Nat × Nat) (d : TypeDesc)
    (hp : tmps.getD p undef = .pointer (some ⟨g, 0, none⟩)) (hg : w.heap[g]? = some (.cells cs t fr))
    (hu : P.underlying ty = some d) (hd : (match d with | .struct _ | .array _ _ => true | _ => false) = true) (hi : (P.info? ty).map (·.size) = some cs.size) :
    (results fn tmps).run P w = .ok (.agg cs) w := by
  have e : (results fn tmps).run P w = ((asAddr (tmps.getD p undef)).run P w).andThen fun a w₁ => (loadVar ty a).run P w₁ := by
    simp only [results, h]
    simp [Sem.run_bind, Result.andThen]
  rw [e]
  simp [hp, asAddr, run_loadVar_row w g t ty cs fr d hg hu hd hi, Result.andThen]

/-- Where reading ended, as a value. -/
def gotv (s : St) (k e : Nat) (dv gv : Value) : Value := .agg #[.int .i64 (s.place : Int), .int .u64 (s.n : Int), .int .i64 (s.count : Int), .int .i64 (s.lines : Int), .int .i64 (s.size : Int), .string (arr s.text), dv, gv, .int .i64 (k : Int), .int .i64 (e : Int)]

/-- Ten cells are laid over. -/
def over10 (A : World) (R : Nat) (u0 u1 u2 u3 u4 u5 u6 u7 u8 u9 : Value) : World := ((over8 A R u0 u1 u2 u3 u4 u5 u6 u7).setCell ⟨R, 8, none⟩ u8).setCell ⟨R, 9, none⟩ u9
theorem over10_row {A : World} {R : Nat} {x0 x1 x2 x3 x4 x5 x6 x7 x8 x9 : Value} {t : TypeId} (h : A.heap[R]? = some (.cells #[x0, x1, x2, x3, x4, x5, x6, x7, x8, x9] t (0, 0))) (u0 u1 u2 u3 u4 u5 u6 u7 u8 u9 : Value) :
    (over10 A R u0 u1 u2 u3 u4 u5 u6 u7 u8 u9).heap[R]? = some (.cells #[u0, u1, u2, u3, u4, u5, u6, u7, u8, u9] t (0, 0)) := by
  have h0 : (A.setCell ⟨R, 0, none⟩ u0).heap[R]? = some (.cells #[u0, x1, x2, x3, x4, x5, x6, x7, x8, x9] t (0, 0)) := heap_set u0 h
  have h1 : ((A.setCell ⟨R, 0, none⟩ u0).setCell ⟨R, 1, none⟩ u1).heap[R]? = some (.cells #[u0, u1, x2, x3, x4, x5, x6, x7, x8, x9] t (0, 0)) := heap_set u1 h0
  have h2 : (((A.setCell ⟨R, 0, none⟩ u0).setCell ⟨R, 1, none⟩ u1).setCell ⟨R, 2, none⟩ u2).heap[R]? = some (.cells #[u0, u1, u2, x3, x4, x5, x6, x7, x8, x9] t (0, 0)) := heap_set u2 h1
  have h3 : ((((A.setCell ⟨R, 0, none⟩ u0).setCell ⟨R, 1, none⟩ u1).setCell ⟨R, 2, none⟩ u2).setCell ⟨R, 3, none⟩ u3).heap[R]? = some (.cells #[u0, u1, u2, u3, x4, x5, x6, x7, x8, x9] t (0, 0)) := heap_set u3 h2
  have h4 : (((((A.setCell ⟨R, 0, none⟩ u0).setCell ⟨R, 1, none⟩ u1).setCell ⟨R, 2, none⟩ u2).setCell ⟨R, 3, none⟩ u3).setCell ⟨R, 4, none⟩ u4).heap[R]? = some (.cells #[u0, u1, u2, u3, u4, x5, x6, x7, x8, x9] t (0, 0)) := heap_set u4 h3
  have h5 : ((((((A.setCell ⟨R, 0, none⟩ u0).setCell ⟨R, 1, none⟩ u1).setCell ⟨R, 2, none⟩ u2).setCell ⟨R, 3, none⟩ u3).setCell ⟨R, 4, none⟩ u4).setCell ⟨R, 5, none⟩ u5).heap[R]? = some (.cells #[u0, u1, u2, u3, u4, u5, x6, x7, x8, x9] t (0, 0)) := heap_set u5 h4
  have h6 : (((((((A.setCell ⟨R, 0, none⟩ u0).setCell ⟨R, 1, none⟩ u1).setCell ⟨R, 2, none⟩ u2).setCell ⟨R, 3, none⟩ u3).setCell ⟨R, 4, none⟩ u4).setCell ⟨R, 5, none⟩ u5).setCell ⟨R, 6, none⟩ u6).heap[R]? = some (.cells #[u0, u1, u2, u3, u4, u5, u6, x7, x8, x9] t (0, 0)) := heap_set u6 h5
  have h7 : ((((((((A.setCell ⟨R, 0, none⟩ u0).setCell ⟨R, 1, none⟩ u1).setCell ⟨R, 2, none⟩ u2).setCell ⟨R, 3, none⟩ u3).setCell ⟨R, 4, none⟩ u4).setCell ⟨R, 5, none⟩ u5).setCell ⟨R, 6, none⟩ u6).setCell ⟨R, 7, none⟩ u7).heap[R]? = some (.cells #[u0, u1, u2, u3, u4, u5, u6, u7, x8, x9] t (0, 0)) := heap_set u7 h6
  have h8 : (((((((((A.setCell ⟨R, 0, none⟩ u0).setCell ⟨R, 1, none⟩ u1).setCell ⟨R, 2, none⟩ u2).setCell ⟨R, 3, none⟩ u3).setCell ⟨R, 4, none⟩ u4).setCell ⟨R, 5, none⟩ u5).setCell ⟨R, 6, none⟩ u6).setCell ⟨R, 7, none⟩ u7).setCell ⟨R, 8, none⟩ u8).heap[R]? = some (.cells #[u0, u1, u2, u3, u4, u5, u6, u7, u8, x9] t (0, 0)) := heap_set u8 h7
  have h9 : ((((((((((A.setCell ⟨R, 0, none⟩ u0).setCell ⟨R, 1, none⟩ u1).setCell ⟨R, 2, none⟩ u2).setCell ⟨R, 3, none⟩ u3).setCell ⟨R, 4, none⟩ u4).setCell ⟨R, 5, none⟩ u5).setCell ⟨R, 6, none⟩ u6).setCell ⟨R, 7, none⟩ u7).setCell ⟨R, 8, none⟩ u8).setCell ⟨R, 9, none⟩ u9).heap[R]? = some (.cells #[u0, u1, u2, u3, u4, u5, u6, u7, u8, u9] t (0, 0)) := heap_set u9 h8
  exact h9
theorem over10_below {B : Nat} {A W : World} (h : Below B A W) {R : Nat} (hR : B ≤ R) (u0 u1 u2 u3 u4 u5 u6 u7 u8 u9 : Value) : Below B A (over10 W R u0 u1 u2 u3 u4 u5 u6 u7 u8 u9) := ((over8_below h hR _ _ _ _ _ _ _ _).setCell hR _).setCell hR _
theorem over10_other (A : World) (R : Nat) (u0 u1 u2 u3 u4 u5 u6 u7 u8 u9 : Value) {g : Nat} (hg : g ≠ R) : (over10 A R u0 u1 u2 u3 u4 u5 u6 u7 u8 u9).heap[g]? = A.heap[g]? := (Below.heap_setCell _ _ _ _ hg).trans ((Below.heap_setCell _ _ _ _ hg).trans (over8_other _ _ _ _ _ _ _ _ _ _ hg))
theorem ten_cells {A : World} {R : Nat} {x0 x1 x2 x3 x4 x5 x6 x7 x8 x9 : Value} {t : TypeId} (h : A.heap[R]? = some (.cells #[x0, x1, x2, x3, x4, x5, x6, x7, x8, x9] t (0, 0))) :
    (A.cell? ⟨R, 0, none⟩ = some x0 ∧ A.cell? ⟨R, 1, none⟩ = some x1 ∧ A.cell? ⟨R, 2, none⟩ = some x2 ∧ A.cell? ⟨R, 3, none⟩ = some x3 ∧ A.cell? ⟨R, 4, none⟩ = some x4 ∧ A.cell? ⟨R, 5, none⟩ = some x5 ∧ A.cell? ⟨R, 6, none⟩ = some x6 ∧ A.cell? ⟨R, 7, none⟩ = some x7 ∧ A.cell? ⟨R, 8, none⟩ = some x8 ∧ A.cell? ⟨R, 9, none⟩ = some x9) ∧ ∀ i, A.frozen? ⟨R, i, none⟩ = false := by
  simp [World.cell?, World.frozen?, h]
/-- What the document's Scan answers. -/
def RScanQ (T : List UInt8) (l : Lim) (w : World) (x : Ending) (w' : World) : Prop :=
  ∃ (s : St) (k e : Nat) (dv gv : Value), go l (sz [] 0 0) T 0 = (s, k, e) ∧ x = .returned (gotv s k e dv gv) ∧ RD w' dv s.data ∧ FS w' gv s.fields ∧ Below w.heap.size w w'

/-- The same; the fields that are told lie in memory of the call's own. -/
def RScanF (T : List UInt8) (l : Lim) (w : World) (x : Ending) (w' : World) : Prop :=
  ∃ (s : St) (k e : Nat) (dv gv : Value), go l (sz [] 0 0) T 0 = (s, k, e) ∧ x = .returned (gotv s k e dv gv) ∧ RD w' dv s.data ∧ FS w' gv s.fields ∧ Below w.heap.size w w' ∧ ∀ g, gv.ownBlock = some g → w.heap.size ≤ g

/-- The loop's own blocks: the limits at w.heap.size, what is told at w.heap.size + 1, the state at w.heap.size + 2. -/
structure LoopAt (w : World) (T : List UInt8) (l : Lim) (k : Nat) (s : St) (dv gv : Value) (W : World) : Prop where
  below : Below w.heap.size w W
  big : w.heap.size + 2 < W.heap.size
  lims : W.heap[w.heap.size]? = some (.cells #[.int .i64 (l.ext : Int), .int .i64 (l.fields : Int), .int .i64 (l.bytes : Int)] 80 (0, 0))
  got : W.heap[w.heap.size + 1]? = some (.cells #[.int .i64 0, .int .u64 0, .int .i64 0, .int .i64 0, .int .i64 0, .string ⟨#[]⟩, .slice none 0 0, .slice none 0 0, .int .i64 0, .int .i64 0] 77 (0, 0))
  st : W.heap[w.heap.size + 2]? = some (.cells (stc s.place s.n s.count s.lines s.size s.text dv gv) 75 (0, 0))
  data : RD W dv s.data
  fields : FS W gv s.fields
  ok : Ok k s
  goes : go l (sz [] 0 0) T 0 = go l s (T.drop k) k
  fresh : ∀ g, gv.ownBlock = some g → w.heap.size ≤ g


/-- A block that holds no bytes holds none of a list of bytes; one without two texts side by side no fields. -/
theorem rd_apart {W W' : World} {v : Value} {xs : List UInt8} {X : Nat} {t : TypeId} {cs : Array Value} {fr : Nat × Nat} (h : RD W v xs) (hX : W.heap[X]? = some (.cells cs t fr)) (hc : ∀ (i : Nat) (b : Int), cs[i]? ≠ some (.int .u8 b)) (hk : ∀ g, g ≠ X → W'.heap[g]? = W.heap[g]?) : RD W' v xs := by
  by_cases hx : xs = []
  · subst hx
    obtain ⟨p, cap, rfl, h1, h2, h3, h4⟩ := h
    exact ⟨p, cap, rfl, h1, h2, h3, fun ad hp i b hb => by simp at hb⟩
  · refine h.same fun g hg _ => hk g fun e => ?_
    subst e
    obtain ⟨p, cap, rfl, h1, h2, h3, h4⟩ := h
    obtain ⟨b, r, rfl⟩ : ∃ b r, xs = b :: r := by cases xs with
      | nil => exact absurd rfl hx
      | cons b r => exact ⟨b, r, rfl⟩
    cases p with
    | none => cases hg
    | some ad =>
      obtain ⟨ab, ao, sp⟩ := ad
      cases hg
      have := h4 _ rfl 0 b rfl
      rw [Addr.add_zero'] at this
      unfold World.cell? at this
      rw [hX] at this
      simp only at this
      split at this
      · cases this
      · exact hc _ _ this
theorem fs_apart {W W' : World} {v : Value} {xs : List Fld} {X : Nat} {t : TypeId} {cs : Array Value} {fr : Nat × Nat} (h : FS W v xs) (hX : W.heap[X]? = some (.cells cs t fr)) (hc : ∀ (i : Nat) (x y : ByteArray), cs[i]? = some (.string x) → cs[i + 1]? ≠ some (.string y)) (hk : ∀ g, g ≠ X → W'.heap[g]? = W.heap[g]?) : FS W' v xs := by
  by_cases hx : xs = []
  · subst hx
    obtain ⟨h0, p, cap, rfl, h1, h2, h3, h4⟩ := h
    exact ⟨h0, p, cap, rfl, h1, h2, h3, fun ad hp i u hu => by simp [fv] at hu⟩
  · refine RS.keep h fun g hg _ => hk g fun e => ?_
    subst e
    obtain ⟨h0, p, cap, rfl, h1, h2, h3, h4⟩ := h
    obtain ⟨b, r, rfl⟩ : ∃ b r, xs = b :: r := by cases xs with
      | nil => exact absurd rfl hx
      | cons b r => exact ⟨b, r, rfl⟩
    cases p with
    | none => cases hg
    | some ad =>
      obtain ⟨ab, ao, sp⟩ := ad
      cases hg
      have c0 := h4 _ rfl 0 (.string b.name) (by simp [fv])
      have c1 := h4 _ rfl 1 (.string b.value) (by simp [fv])
      rw [Addr.add_zero'] at c0
      rw [Addr.add_succ'] at c1
      unfold World.cell? at c0 c1
      rw [hX] at c0 c1
      simp only at c0 c1
      split at c0
      · cases c0
      · exact hc _ _ _ c0 (by simpa using c1)
theorem st8_u8 (a0 a1 a2 a3 a4 : Int) (a5 : ByteArray) (p6 : Option Addr) (n6 c6 : Nat) (p7 : Option Addr) (n7 c7 : Nat) (i : Nat) (b : Int) : (#[.int .i64 a0, .int .u64 a1, .int .i64 a2, .int .i64 a3, .int .i64 a4, .string a5, .slice p6 n6 c6, .slice p7 n7 c7] : Array Value)[i]? ≠ some (.int .u8 b) := by
  intro h
  match i, h with
  | 0, h => simp at h
  | 1, h => simp at h
  | 2, h => simp at h
  | 3, h => simp at h
  | 4, h => simp at h
  | 5, h => simp at h
  | 6, h => simp at h
  | 7, h => simp at h
  | k + 8, h => simp at h
theorem st8_two (a0 a1 a2 a3 a4 : Int) (a5 : ByteArray) (p6 : Option Addr) (n6 c6 : Nat) (p7 : Option Addr) (n7 c7 : Nat) (i : Nat) (x y : ByteArray) (h : (#[.int .i64 a0, .int .u64 a1, .int .i64 a2, .int .i64 a3, .int .i64 a4, .string a5, .slice p6 n6 c6, .slice p7 n7 c7] : Array Value)[i]? = some (.string x)) : (#[.int .i64 a0, .int .u64 a1, .int .i64 a2, .int .i64 a3, .int .i64 a4, .string a5, .slice p6 n6 c6, .slice p7 n7 c7] : Array Value)[i + 1]? ≠ some (.string y) := by
  intro g
  match i, h, g with
  | 0, h, g => simp at h
  | 1, h, g => simp at h
  | 2, h, g => simp at h
  | 3, h, g => simp at h
  | 4, h, g => simp at h
  | 5, h, g => simp at g
  | 6, h, g => simp at h
  | 7, h, g => simp at h
  | k + 8, h, g => simp at h
theorem st10_u8 (a0 a1 a2 a3 a4 a8 a9 : Int) (a5 : ByteArray) (p6 : Option Addr) (n6 c6 : Nat) (p7 : Option Addr) (n7 c7 : Nat) (i : Nat) (b : Int) : (#[.int .i64 a0, .int .u64 a1, .int .i64 a2, .int .i64 a3, .int .i64 a4, .string a5, .slice p6 n6 c6, .slice p7 n7 c7, .int .i64 a8, .int .i64 a9] : Array Value)[i]? ≠ some (.int .u8 b) := by
  intro h
  match i, h with
  | 0, h => simp at h
  | 1, h => simp at h
  | 2, h => simp at h
  | 3, h => simp at h
  | 4, h => simp at h
  | 5, h => simp at h
  | 6, h => simp at h
  | 7, h => simp at h
  | 8, h => simp at h
  | 9, h => simp at h
  | k + 10, h => simp at h
theorem st10_two (a0 a1 a2 a3 a4 a8 a9 : Int) (a5 : ByteArray) (p6 : Option Addr) (n6 c6 : Nat) (p7 : Option Addr) (n7 c7 : Nat) (i : Nat) (x y : ByteArray) (h : (#[.int .i64 a0, .int .u64 a1, .int .i64 a2, .int .i64 a3, .int .i64 a4, .string a5, .slice p6 n6 c6, .slice p7 n7 c7, .int .i64 a8, .int .i64 a9] : Array Value)[i]? = some (.string x)) : (#[.int .i64 a0, .int .u64 a1, .int .i64 a2, .int .i64 a3, .int .i64 a4, .string a5, .slice p6 n6 c6, .slice p7 n7 c7, .int .i64 a8, .int .i64 a9] : Array Value)[i + 1]? ≠ some (.string y) := by
  intro g
  match i, h, g with
  | 0, h, g => simp at h
  | 1, h, g => simp at h
  | 2, h, g => simp at h
  | 3, h, g => simp at h
  | 4, h, g => simp at h
  | 5, h, g => simp at g
  | 6, h, g => simp at h
  | 7, h, g => simp at h
  | 8, h, g => simp at h
  | 9, h, g => simp at h
  | k + 10, h, g => simp at h

section
variable {w wr M : World} {T : List UInt8} {l : Lim} {k : Nat} {s s2 : St} {pd : Option Addr} {nd cd : Nat} {pg : Option Addr} {ng cg : Nat} {p2 : Option Addr} {n2 c2 : Nat} {p3 : Option Addr} {n3 c3 : Nat}
/-- One byte more: M is the world in which the new state lies beside. -/
theorem LoopAt.next (h : LoopAt w T l k s (.slice pd nd cd) (.slice pg ng cg) wr) (hM : Below wr.heap.size wr M) {b : UInt8} (hb : T[k]? = some b) (he : er l s b = 0) (hn : nxt s b = s2) (h11 : s2.place ≠ 11) (hl : l.ext ≤ 65536) (hD : RD M (.slice p2 n2 c2) s2.data) (hF : FS M (.slice p3 n3 c3) s2.fields) (hG : Value.slice p3 n3 c3 = .slice pg ng cg ∨ ∀ g, (Value.slice p3 n3 c3).ownBlock = some g → wr.heap.size ≤ g) :
    LoopAt w T l (k + 1) s2 (.slice p2 n2 c2) (.slice p3 n3 c3) (over8 M (w.heap.size + 2) (.int .i64 (s2.place : Int)) (.int .u64 (s2.n : Int)) (.int .i64 (s2.count : Int)) (.int .i64 (s2.lines : Int)) (.int .i64 (s2.size : Int)) (.string (arr s2.text)) (.slice p2 n2 c2) (.slice p3 n3 c3)) := by
  subst hn
  have hs := (hM.block _ h.big).trans h.st
  have hbig := h.big
  have ho : ∀ g, g ≠ w.heap.size + 2 → _ := fun g hg => over8_other M (w.heap.size + 2) (.int .i64 ((nxt s b).place : Int)) (.int .u64 ((nxt s b).n : Int)) (.int .i64 ((nxt s b).count : Int)) (.int .i64 ((nxt s b).lines : Int)) (.int .i64 ((nxt s b).size : Int)) (.string (arr (nxt s b).text)) (.slice p2 n2 c2) (.slice p3 n3 c3) hg
  refine ⟨over8_below (ahead h.below hM) (by omega) _ _ _ _ _ _ _ _, ?_, ?_, ?_, over8_row hs _ _ _ _ _ _ _ _, ?_, ?_, h.ok.next hl he h11, ?_, fun g hg => hG.elim (fun e => h.fresh g (e ▸ hg)) fun h' => Nat.le_trans h.below.size (h' g hg)⟩
  · have := hM.size
    simp [over8, World.setCell]; omega
  · exact (ho _ (by omega)).trans ((hM.block _ (by omega)).trans h.lims)
  · exact (ho _ (by omega)).trans ((hM.block _ (by omega)).trans h.got)
  · exact rd_apart hD hs (st8_u8 _ _ _ _ _ _ _ _ _ _ _ _) ho
  · exact fs_apart hF hs (st8_two _ _ _ _ _ _ _ _ _ _ _ _) ho
  · rw [h.goes, drop_some hb, go_step he rfl h11]
/-- What is told of the state s in a world M behind wr. -/
theorem RScanF.tell {e : Nat} (h : LoopAt w T l k s (.slice pd nd cd) (.slice pg ng cg) wr) (hM : Below wr.heap.size wr M) (hg : go l s (T.drop k) k = (s, k, e)) :
    RScanF T l w (.returned (gotv s k e (.slice pd nd cd) (.slice pg ng cg))) (over10 M (w.heap.size + 1) (.int .i64 (s.place : Int)) (.int .u64 (s.n : Int)) (.int .i64 (s.count : Int)) (.int .i64 (s.lines : Int)) (.int .i64 (s.size : Int)) (.string (arr s.text)) (.slice pd nd cd) (.slice pg ng cg) (.int .i64 (k : Int)) (.int .i64 (e : Int))) := by
  have hbig := h.big
  have hgt := (hM.block _ (by omega)).trans h.got
  have ho : ∀ g, g ≠ w.heap.size + 1 → _ := fun g hg => over10_other M (w.heap.size + 1) (.int .i64 (s.place : Int)) (.int .u64 (s.n : Int)) (.int .i64 (s.count : Int)) (.int .i64 (s.lines : Int)) (.int .i64 (s.size : Int)) (.string (arr s.text)) (.slice pd nd cd) (.slice pg ng cg) (.int .i64 (k : Int)) (.int .i64 (e : Int)) hg
  exact ⟨s, k, e, _, _, h.goes.trans hg, rfl, rd_apart (h.data.below hM) hgt (st10_u8 _ _ _ _ _ _ _ _ _ _ _ _ _ _) ho, fs_apart (h.fields.below hM) hgt (st10_two _ _ _ _ _ _ _ _ _ _ _ _ _ _) ho, over10_below (ahead h.below hM) (by omega) _ _ _ _ _ _ _ _ _ _, h.fresh⟩
/-- What is told of the last state, which lies over the elder one. -/
theorem RScanF.last (h : LoopAt w T l k s (.slice pd nd cd) (.slice pg ng cg) wr) (hM : Below wr.heap.size wr M) {b : UInt8} (hb : T[k]? = some b) (he : er l s b = 0) (hn : nxt s b = s2) (h11 : s2.place = 11) (hD : RD M (.slice p2 n2 c2) s2.data) (hF : FS M (.slice p3 n3 c3) s2.fields) (hG : Value.slice p3 n3 c3 = .slice pg ng cg ∨ ∀ g, (Value.slice p3 n3 c3).ownBlock = some g → wr.heap.size ≤ g) (u0 u1 u2 u3 u4 u5 u6 u7 : Value) :
    RScanF T l w (.returned (gotv s2 (k + 1) 0 (.slice p2 n2 c2) (.slice p3 n3 c3))) (over10 (over8 M (w.heap.size + 2) u0 u1 u2 u3 u4 u5 u6 u7) (w.heap.size + 1) (.int .i64 (s2.place : Int)) (.int .u64 (s2.n : Int)) (.int .i64 (s2.count : Int)) (.int .i64 (s2.lines : Int)) (.int .i64 (s2.size : Int)) (.string (arr s2.text)) (.slice p2 n2 c2) (.slice p3 n3 c3) (.int .i64 ((k + 1 : Nat) : Int)) (.int .i64 0)) := by
  subst hn
  have hbig := h.big
  have hs := (hM.block _ h.big).trans h.st
  have ho : ∀ g, g ≠ w.heap.size + 2 → _ := fun g hg => over8_other M (w.heap.size + 2) u0 u1 u2 u3 u4 u5 u6 u7 hg
  have hgt := (ho _ (by omega)).trans ((hM.block (w.heap.size + 1) (by omega)).trans h.got)
  have ho2 : ∀ g, g ≠ w.heap.size + 1 → _ := fun g hg => over10_other (over8 M (w.heap.size + 2) u0 u1 u2 u3 u4 u5 u6 u7) (w.heap.size + 1) (.int .i64 ((nxt s b).place : Int)) (.int .u64 ((nxt s b).n : Int)) (.int .i64 ((nxt s b).count : Int)) (.int .i64 ((nxt s b).lines : Int)) (.int .i64 ((nxt s b).size : Int)) (.string (arr (nxt s b).text)) (.slice p2 n2 c2) (.slice p3 n3 c3) (.int .i64 ((k + 1 : Nat) : Int)) (.int .i64 0) hg
  refine ⟨nxt s b, k + 1, 0, _, _, ?_, rfl, rd_apart (rd_apart hD hs (st8_u8 _ _ _ _ _ _ _ _ _ _ _ _) ho) hgt (st10_u8 _ _ _ _ _ _ _ _ _ _ _ _ _ _) ho2, fs_apart (fs_apart hF hs (st8_two _ _ _ _ _ _ _ _ _ _ _ _) ho) hgt (st10_two _ _ _ _ _ _ _ _ _ _ _ _ _ _) ho2, over10_below (over8_below (ahead h.below hM) (by omega) _ _ _ _ _ _ _ _) (by omega) _ _ _ _ _ _ _ _ _ _, fun g hg => hG.elim (fun e => h.fresh g (e ▸ hg)) fun h' => Nat.le_trans h.below.size (h' g hg)⟩
  rw [h.goes, drop_some hb, go_last he rfl h11]
end

end Go.Proofs.YtilebfpaibajcaaGreatDoor
