/- The program's clock beside the document's, which lies in a block of its own. -/
import Derived.Test.YtcmkdeejofoibaaClkSets
import Derived.Test.YtcmkdeejofoibaaClkAt
namespace Go.Proofs.Ytcmkdeejofoibaa
open Go.ChangeShapes Go.WideShapes Go.ChangeAt Go.RowKit
open Ck
set_option linter.unusedVariables false
set_option maxRecDepth 100000

theorem ts_empty {W W' : World} {v : Value} {l : List Tm} (h : TS W v l) (hl : l = []) : TS W' v l := by
  subst hl
  obtain ⟨h0, p, cap, rfl, h1, h2, h3, h4⟩ := h
  exact ⟨h0, p, cap, rfl, h1, h2, h3, fun ad hp i u hu => by simp [tmv] at hu⟩
/-- Timers don't lie in a block of two cells of which the second is no number. -/
theorem ts_apart {W : World} {p : Option Addr} {n c : Nat} {l : List Tm} (h : TS W (.slice p n c) l) (hl : l ≠ []) {X : Nat} {a b : Value} {t : TypeId} {fr : Nat × Nat} (hX : W.heap[X]? = some (.cells #[a, b] t fr)) (hb : ∀ z, b ≠ .int .i64 z) : (Value.slice p n c).ownBlock ≠ some X := by
  intro e
  obtain ⟨f, hf⟩ : ∃ f, l[0]? = some f := by
    cases l with
    | nil => exact absurd rfl hl
    | cons f l => exact ⟨f, rfl⟩
  obtain ⟨-, ad, rfl, -, h1⟩ := h.at hf
  have e1 : ad.block = X := by simpa [Value.ownBlock] using e
  rw [Nat.zero_mul, Addr.add_zero'] at h1
  rw [e1] at h1
  simp only [World.cell?, hX] at h1
  match hq : ad.off, h1 with
  | 0, h1 => simp at h1; exact hb _ h1
  | k + 1, h1 => simp at h1
theorem ts_nocells {W : World} {p : Option Addr} {n c : Nat} {l : List Tm} (h : TS W (.slice p n c) l) (hl : l ≠ []) {X : Nat} (hX : ∀ i, W.cell? ⟨X, i, none⟩ = none) : (Value.slice p n c).ownBlock ≠ some X := by
  intro e
  obtain ⟨f, hf⟩ : ∃ f, l[0]? = some f := by
    cases l with
    | nil => exact absurd rfl hl
    | cons f l => exact ⟨f, rfl⟩
  obtain ⟨-, ad, rfl, -, h1⟩ := h.at hf
  have e1 : ad.block = X := by simpa [Value.ownBlock] using e
  rw [Nat.zero_mul, Addr.add_zero', e1, hX] at h1
  cases h1
/-- No list of timers lies where a clock does. -/
def Apart15 (C : Nat → Cs → (Nat → Prop) → World → Prop) : Prop := ∀ R x M W, C R x M W → ∀ p n c l, TS W (.slice p n c) l → l ≠ [] → ∀ g, (Value.slice p n c).ownBlock = some g → ¬ M g
theorem apart15 : Apart15 C15 := by
  rintro R x M W ⟨m, rfl, h⟩ p n c l ht hl g hg (rfl | rfl)
  · exact ts_apart ht hl h.box (fun z e => by cases e) hg
  · obtain ⟨D, ⟨es, clock, hb, _⟩, _⟩ := h.map
    exact ts_nocells ht hl (fun i => by simp [World.cell?, hb]) hg

/-- Both. -/
structure Side15 (C : Nat → Cs → (Nat → Prop) → World → Prop) (w : World) (R X : Nat) (y x : Cs) (M : Nat → Prop) (p : Option Addr) (c : Nat) (W : World) : Prop where
  one : C R y M W
  blk : W.heap[X]? = some (.cells #[.int .i64 x.now, .slice p x.l.length c] 28 (0, 0))
  ts : TS W (.slice p x.l.length c) x.l
  lt : ∀ g, (Value.slice p x.l.length c).ownBlock = some g → g < W.heap.size
  mx : ¬ M X
  low : ∀ g, M g → w.heap.size ≤ g
  xlow : w.heap.size ≤ X
  below : Below w.heap.size w W
section
variable {C : Nat → Cs → (Nat → Prop) → World → Prop} {w W W1 : World} {R X : Nat} {y x x1 y1 : Cs} {M N : Nat → Prop} {p q : Option Addr} {c d : Nat}
theorem Side15.xlt (h : Side15 C w R X y x M p c W) : X < W.heap.size := (Array.getElem?_eq_some_iff.1 h.blk).1
theorem Side15.to (F : Forms15 C) (h : Side15 C w R X y x M p c W) (hb : Below W.heap.size W W1) : Side15 C w R X y x M p c W1 :=
  ⟨F.below h.one hb, (hb.block X h.xlt).trans h.blk, h.ts.below hb, fun g hg => Nat.lt_of_lt_of_le (h.lt g hg) hb.size, h.mx, h.low, h.xlow, ahead h.below hb⟩
/-- The program's clock has moved. -/
theorem Side15.go (F : Forms15 C) (A : Apart15 C) (h : Side15 C w R X y x M p c W) (hc : C R y1 N W1) (hv : Mv15 M N W W1) : Side15 C w R X y1 x N p c W1 := by
  obtain ⟨hb, hn⟩ := hv.below h.below h.low
  have hx := h.xlt
  refine ⟨hc, (hv.block X hx h.mx).trans h.blk, ?_, fun g hg => Nat.lt_of_lt_of_le (h.lt g hg) hv.size, fun hm => ?_, hn, h.xlow, hb⟩
  · by_cases hl : x.l = []
    · exact ts_empty h.ts hl
    · exact RS.keep h.ts fun g hg hlt => hv.block g hlt (A _ _ _ _ h.one _ _ _ _ h.ts hl g hg)
  · rcases hv.sub X hm with h1 | h1
    · exact h.mx h1
    · omega
theorem two_set {W : World} {X : Nat} {a b a' b' : Value} {t : TypeId} (h : W.heap[X]? = some (.cells #[a, b] t (0, 0))) : ((W.setCell ⟨X, 0, none⟩ a').setCell ⟨X, 1, none⟩ b').heap[X]? = some (.cells #[a', b'] t (0, 0)) := by
  have := heap_set (i := 1) b' (heap_set (i := 0) a' h)
  simpa using this
/-- The document's is stored. -/
theorem Side15.done (F : Forms15 C) (h : Side15 C w R X y x M p c W) (ht : TS W (.slice q x1.l.length d) x1.l) (hl : ∀ g, (Value.slice q x1.l.length d).ownBlock = some g → g < W.heap.size) :
    Side15 C w R X y x1 M q d ((W.setCell ⟨X, 0, none⟩ (.int .i64 x1.now)).setCell ⟨X, 1, none⟩ (.slice q x1.l.length d)) := by
  have hk : ∀ g, g ≠ X → ((W.setCell ⟨X, 0, none⟩ (.int .i64 x1.now)).setCell ⟨X, 1, none⟩ (.slice q x1.l.length d)).heap[g]? = W.heap[g]? := fun g hg => (Below.heap_setCell _ _ _ _ hg).trans (Below.heap_setCell _ _ _ _ hg)
  have hs : ((W.setCell ⟨X, 0, none⟩ (.int .i64 x1.now)).setCell ⟨X, 1, none⟩ (.slice q x1.l.length d)).heap.size = W.heap.size := by simp [World.setCell]
  refine ⟨F.keep h.one fun g hg => hk g fun e => h.mx (e ▸ hg), two_set h.blk, ?_, fun g hg => by rw [hs]; exact hl g hg, h.mx, h.low, h.xlow, (h.below.setCell h.xlow _).setCell h.xlow _⟩
  by_cases hl : x1.l = []
  · exact ts_empty ht hl
  · exact RS.keep ht fun g hg hlt => hk g fun e => ts_apart ht hl h.blk (fun z e => by cases e) (by rw [← e]; exact hg)
end
/-- A call's copy and the document's clock, as cells. -/
theorem sideCells {C : Nat → Cs → (Nat → Prop) → World → Prop} {w W : World} {R X : Nat} {y x : Cs} {M : Nat → Prop} {p : Option Addr} {c : Nat} (h : Side15 C w R X y x M p c W) : (W.cell? ⟨X, 0, none⟩ = some (.int .i64 x.now) ∧ W.cell? ⟨X, 1, none⟩ = some (.slice p x.l.length c)) ∧ ∀ i, W.frozen? ⟨X, i, none⟩ = false := two15 h.blk

end Go.Proofs.Ytcmkdeejofoibaa
