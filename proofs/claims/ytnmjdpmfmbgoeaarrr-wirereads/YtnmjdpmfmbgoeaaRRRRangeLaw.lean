/- A range over a function, for iterators of which it is known what they hand over: a law for the loop, and one for the way out of a function that holds such a loop. Over whatever program. -/
import Derived.Test.YtnmjdpmfmbgoeaaRRRRows
import Derived.RangeFuncNested
import Derived.RangeFuncCalls
import Derived.Below
namespace Go.Proofs.YtnmjdpmfmbgoeaaRRR
open Go.RowKit
set_option linter.unusedVariables false
set_option maxRecDepth 100000

/-- All but the blocks D and D + 1 lies as it lay. -/
structure But (D : Nat) (A B : World) : Prop where
  os : B.os = A.os
  tape : B.tape = A.tape
  output : B.output = A.output
  size : A.heap.size ≤ B.heap.size
  block : ∀ k, k < A.heap.size → k ≠ D → k ≠ D + 1 → B.heap[k]? = A.heap[k]?
theorem But.of_below {D : Nat} {A B : World} (h : Below A.heap.size A B) : But D A B := ⟨h.os, h.tape, h.output, h.size, fun k hk _ _ => h.block k hk⟩
theorem But.putObj (D : Nat) (A : World) {r : Nat} (hr : r = D ∨ r = D + 1) (o : Obj) : But D A (A.putObj r o) :=
  ⟨rfl, rfl, rfl, by simp, fun k _ h0 h1 => World.putObj_heap_other (by omega)⟩
theorem But.alloc (D : Nat) (A : World) (o : Obj) : But D A (A.alloc o) := But.of_below ((Below.refl _ A).alloc (Nat.le_refl _) _)
theorem But.below {D n : Nat} {w A B : World} (h : But D A B) (hb : Below n w A) (hn : n ≤ D) (hs : n ≤ A.heap.size) : Below n w B :=
  hb.trans ⟨h.os, h.tape, h.output, h.size, fun k hk => h.block k (by omega) (by omega) (by omega)⟩
theorem But.heap {D k : Nat} {A B : World} {o : Obj} (h : But D A B) (ho : A.heap[k]? = some o) (h0 : k ≠ D) (h1 : k ≠ D + 1) : B.heap[k]? = some o :=
  (h.block k (Array.getElem?_eq_some_iff.1 ho).1 h0 h1).trans ho
theorem But.cell {D : Nat} {p : Addr} {A B : World} {v : Value} (h : But D A B) (hv : A.cell? p = some v) (h0 : p.block ≠ D) (h1 : p.block ≠ D + 1) : B.cell? p = some v :=
  (World.cell?_of_block (h.block p.block (World.block_lt_of_cell? A p hv) h0 h1)).trans hv

/-- What a round leaves as it lay: the loop's own two blocks; and, where the iterator asks it ('up'), all that lies from them on. -/
structure Held (D : Nat) (up : Prop) (A B : World) : Prop where
  size : A.heap.size ≤ B.heap.size
  d0 : B.heap[D]? = A.heap[D]?
  d1 : B.heap[D + 1]? = A.heap[D + 1]?
  high : up → ∀ r, D ≤ r → r < A.heap.size → B.heap[r]? = A.heap[r]?
theorem Held.refl (D : Nat) (up : Prop) (A : World) : Held D up A A := ⟨Nat.le_refl _, rfl, rfl, fun _ _ _ _ => rfl⟩
theorem Held.trans {D : Nat} {up : Prop} {A B C : World} (h : Held D up A B) (g : Held D up B C) : Held D up A C :=
  ⟨Nat.le_trans h.size g.size, g.d0.trans h.d0, g.d1.trans h.d1, fun u r h0 h1 => (g.high u r h0 (Nat.lt_of_lt_of_le h1 h.size)).trans (h.high u r h0 h1)⟩
theorem Held.of_below {D : Nat} {up : Prop} {A B : World} (hD : D + 1 < A.heap.size) (h : Below A.heap.size A B) : Held D up A B :=
  ⟨h.size, h.block _ (by omega), h.block _ hD, fun _ r _ hr => h.block r hr⟩
theorem Held.setCell {D : Nat} {up : Prop} (A : World) {p : Addr} (hp : p.block ≠ D) (hp1 : p.block ≠ D + 1) (hu : up → p.block < D) (v : Value) : Held D up A (A.setCell p v) :=
  ⟨by simp [World.setCell], Below.heap_setCell _ _ _ _ (Ne.symm hp), Below.heap_setCell _ _ _ _ (Ne.symm hp1), fun u r h0 _ => Below.heap_setCell _ _ _ _ (by have := hu u; omega)⟩
theorem Held.drew {D : Nat} {up : Prop} (A : World) : Held D up A A.drew := ⟨Nat.le_refl _, rfl, rfl, fun _ _ _ _ => rfl⟩
theorem Held.grown {D : Nat} {up : Prop} {A B : World} {row : Option Nat} (hg : A.grownBy B row) (hD : D + 1 < A.heap.size) (h0 : row ≠ some D) (h1 : row ≠ some (D + 1)) (hu : up → ∀ k, row = some k → k < D) : Held D up A B :=
  ⟨hg.size, hg.block _ (by omega) (Ne.symm h0), hg.block _ hD (Ne.symm h1), fun u r hr hr' => hg.block r hr' (fun e => by have := hu u r e.symm; omega)⟩

/-- An iterator that hands over xs, one by one, while the rounds go on. St: what it reads of the memory that lay; up: it leans on memory of its own between two rounds. -/
def Seq (P : Program) (g : Nat) (lb : Array Value) (xs : List (Array Value)) (St : World → Prop) (up : Prop) : Prop :=
  ∀ (l : Nat) (J Jx : Nat → World → Prop) (W : World),
    (∀ k A B, J k A → Below A.heap.size A B → J k B) → (∀ k A B, Jx k A → Below A.heap.size A B → Jx k B) → (∀ k A, J k A → St A) →
    (∀ k A x, J k A → W.heap.size ≤ A.heap.size → xs[k]? = some x → YieldAt Fence.wide 0 P l x A fun e B =>
      (e = .returned (.bool true) ∧ J (k + 1) B ∧ A.heap.size ≤ B.heap.size ∧ (up → ∀ r, W.heap.size ≤ r → r < A.heap.size → B.heap[r]? = A.heap[r]?)) ∨ (e = .returned (.bool false) ∧ Jx (k + 1) B)) →
    J 0 W →
    CallsIn Fence.wide 0 P g (#[.func (.yield l) #[] #[]] ++ lb) W fun e B => (∃ v, e = .returned v) ∧ (J xs.length B ∨ ∃ k, k ≤ xs.length ∧ Jx k B)

/-- How a round's body is left. -/
def roundLeft (D : Nat) (up : Prop) (I : World → Prop) (Ix : Code → World → Prop) (W : World) : Exit → Act → World → Prop
  | .normal, _, W' => Held D up W W' ∧ I W'
  | .ret, _, W' => Held D False W W' ∧ Ix .ret W'
  | .exit id, _, W' => Held D False W W' ∧ Ix (.exit id) W'
  | .goto t, _, W' => Held D False W W' ∧ Ix (.goto t) W'
  | .panic _, _, _ => False
  | .outgrown, _, _ => False

/-- The loop. -/
theorem wpIn_rangeR {P : Program} {g : Operand} {ps : Array Tmp} {assign body : Code} {Q : Exit → Act → World → Prop} {a : Act} {w : World}
    {gf : Nat} {lb : Array Value} (hg : a.eval g = .func (.func gf) #[] lb) (eg : ∀ args w, (callFunc gf args).run P w = .ok (.enter gf args) w)
    {xs : List (Array Value)} {St : World → Prop} {up : Prop} (hseq : Seq P gf lb xs St up) (hps : ∀ (k : Nat) (x : Array Value), xs[k]? = some x → x.size = ps.size)
    (I : Nat → World → Prop) (Ix : Code → Nat → World → Prop)
    (hI : ∀ k A B, I k A → But w.heap.size A B → I k B) (hIx : ∀ c k A B, Ix c k A → But w.heap.size A B → Ix c k B) (hSt : ∀ k A, I k A → St A)
    (h0 : I 0 w)
    (hround : ∀ (k : Nat) (x : Array Value) (W : World), xs[k]? = some x → I k W → w.heap.size + 1 < W.heap.size →
      assign.wpIn (Fence.wide.inRound (w.heap.size + 1)) 0 P (Exit.then (fun a' W' => W' = W ∧ ∀ W2, I k W2 → w.heap.size + 1 < W2.heap.size →
        body.wpIn (Fence.wide.inRound (w.heap.size + 1)) 0 P (roundLeft w.heap.size up (I (k + 1)) (fun c => Ix c (k + 1)) W2) a' W2) (fun _ _ _ => False)) { tmps := (ps.zip x).foldl (fun t (p, v) => t.setIfInBounds p v) a.tmps, defers := [] } W)
    (hdone : ∀ (W : World), I xs.length W → W.heap[w.heap.size]? = some (.deferred (some [])) → Q .normal { a with defers := { target := .collected w.heap.size, args := #[] } :: a.defers } W)
    (hstop : ∀ (c : Code) (k : Nat) (W : World), k ≤ xs.length → Ix c k W → W.heap[w.heap.size]? = some (.deferred (some [])) → c.wpIn Fence.wide 0 P Q { a with defers := { target := .collected w.heap.size, args := #[] } :: a.defers } W) :
    (Code.rangeFunc g ps assign body).wpIn Fence.wide 0 P Q a w := by
  refine wpIn_rangeFunc ?_
  intro fn _
  obtain ⟨D, hD⟩ : ∃ D, D = w.heap.size := ⟨_, rfl⟩
  rw [← hD] at hI hIx hround hdone hstop
  obtain ⟨rec, hrec⟩ : ∃ rec : LoopState → Option Code → Loop, rec = fun st pe => { state := st, pending := pe, fn, tmps := a.tmps, params := ps, assign, body, defers := D } := ⟨_, rfl⟩
  obtain ⟨W1, hW1⟩ : ∃ W1, (w.alloc (.deferred (some []))).alloc (.loop (rec .ready none)) = W1 := ⟨_, rfl⟩
  have hs1 : W1.heap.size = D + 2 := by rw [← hW1, hD]; simp
  have hL1 : W1.heap[D + 1]? = some (.loop (rec .ready none)) := by
    have := World.alloc_heap_new (w.alloc (.deferred (some []))) (.loop (rec .ready none)); rwa [World.size_alloc, ← hD, hW1] at this
  have hK1 : W1.heap[D]? = some (.deferred (some [])) := by
    rw [← hW1]; exact (Below.heap_alloc _ _ _ (by simp; omega)).trans (by rw [hD]; exact World.alloc_heap_new w _)
  have hI1 : I 0 W1 := by rw [← hW1]; exact hI _ _ _ (hI _ _ _ h0 (But.alloc _ _ _)) (But.alloc _ _ _)
  refine ⟨D + 1, [{ target := .collected D, args := #[] }], W1, { target := .fn (.func gf) lb, args := #[.func (.yield (D + 1)) #[] #[]] }, W1, gf,
    #[.func (.yield (D + 1)) #[] #[]] ++ lb, W1, ?_, ?_, fun _ _ => trivial, ?_, fun h => by simp [Fence.wide] at h, ?_⟩
  · rw [← hW1, hrec, hD]; exact run_enterLoop_outer _ _ _ _ _
  · simp only [resolve, hg]
    simp [go_sem]
  · simp [invoke, go_sem, eg]
  · have e1 : ∀ st pe, (rec st pe).state = st := fun st pe => by rw [hrec]
    have e2 : ∀ st pe st', ({ rec st pe with state := st' } : Loop) = rec st' pe := fun st pe st' => by rw [hrec]
    have e3 : ∀ st pe st' pe', ({ rec st pe with state := st', pending := pe' } : Loop) = rec st' pe' := fun st pe st' pe' => by rw [hrec]
    have e4 : ∀ st pe, (rec st pe).pending = pe := fun st pe => by rw [hrec]
    refine (hseq (D + 1)
      (fun k W => I k W ∧ W.heap[D + 1]? = some (.loop (rec .ready none)) ∧ W.heap[D]? = some (.deferred (some [])))
      (fun k W => ∃ c, Ix c k W ∧ W.heap[D + 1]? = some (.loop (rec .done (some c))) ∧ W.heap[D]? = some (.deferred (some [])))
      W1
      (fun k A B ⟨h1, h2, h3⟩ hb => ⟨hI k A B h1 (But.of_below hb), (hb.block _ (Array.getElem?_eq_some_iff.1 h2).1).trans h2, (hb.block _ (Array.getElem?_eq_some_iff.1 h3).1).trans h3⟩)
      (fun k A B ⟨c, h1, h2, h3⟩ hb => ⟨c, hIx c k A B h1 (But.of_below hb), (hb.block _ (Array.getElem?_eq_some_iff.1 h2).1).trans h2, (hb.block _ (Array.getElem?_eq_some_iff.1 h3).1).trans h3⟩)
      (fun k A h => hSt k A h.1) ?_ ⟨hI1, hL1, hK1⟩).mono ?_
    · rintro k W x ⟨hi, hl, hk⟩ hsz hx
      have hlt : D + 1 < W.heap.size := (Array.getElem?_eq_some_iff.1 hl).1
      have hkl : k < xs.length := (List.getElem?_eq_some_iff.1 hx).1
      have hy := run_yield (P := P) (args := x) hl (by rw [hrec]; exact hps k x hx)
      have hy' : (Instr.yield (D + 1) x).run P W = .ok (.round (D + 1) fn ((ps.zip x).foldl (fun tmps (t, a) => tmps.setIfInBounds t a) a.tmps) assign body) W := by rw [hy, hrec]
      refine ⟨fn, _, assign, body, hy', roundIn_of_wpIn trivial (wpIn_mono (hround k x W hx hi hlt) ?_)⟩
      rintro e0 a0 W0 h0e
      cases e0
      case normal =>
       obtain ⟨rfl, hbody⟩ := h0e
       refine ⟨_, run_beginRound hl (e1 _ _), ?_⟩
       rw [e2]
       obtain ⟨W2, hW2⟩ : ∃ W2, W0.putObj (D + 1) (.loop (rec .busy none)) = W2 := ⟨_, rfl⟩
       have hs2 : W2.heap.size = W0.heap.size := by rw [← hW2]; simp
       have hl2 : W2.heap[D + 1]? = some (.loop (rec .busy none)) := by rw [← hW2]; exact World.putObj_heap_same hlt
       have hk2 : W2.heap[D]? = some (.deferred (some [])) := by rw [← hW2]; exact (World.putObj_heap_other (by omega)).trans hk
       have hi2 : I k W2 := by rw [← hW2]; exact hI _ _ _ hi (But.putObj _ _ (.inr rfl) _)
       have ho2 : ∀ r, D + 2 ≤ r → W2.heap[r]? = W0.heap[r]? := fun r hr => by rw [← hW2]; exact World.putObj_heap_other (by omega)
       rw [hW2]
       refine wpIn_mono (hbody W2 hi2 (by omega)) ?_
       have fin : ∀ (jump : Option Code) (W3 : World), Held D False W2 W3 →
           (Instr.endRound (D + 1) jump).run P W3 = .ok (.bool jump.isNone) (W3.putObj (D + 1) (.loop (rec (if jump.isNone then .ready else .done) jump))) ∧
           (W3.putObj (D + 1) (.loop (rec (if jump.isNone then .ready else .done) jump))).heap[D + 1]? = some (.loop (rec (if jump.isNone then .ready else .done) jump)) ∧
           (W3.putObj (D + 1) (.loop (rec (if jump.isNone then .ready else .done) jump))).heap[D]? = some (.deferred (some [])) := fun jump W3 hk3 => by
         have hl3 := hk3.d1.trans hl2
         have := run_endRound (P := P) jump hl3
         rw [e3] at this
         exact ⟨this, World.putObj_heap_same (Array.getElem?_eq_some_iff.1 hl3).1, (World.putObj_heap_other (by omega)).trans (hk3.d0.trans hk2)⟩
       rintro e a3 W3 hp
       cases e with
       | normal =>
         obtain ⟨hk3, hi3⟩ := hp
         obtain ⟨hr, hl4, hk4⟩ := fin none W3 ⟨hk3.size, hk3.d0, hk3.d1, fun h => h.elim⟩
         refine ⟨_, _, hr, .inl ⟨rfl, ⟨hI _ _ _ hi3 (But.putObj _ _ (.inr rfl) _), hl4, hk4⟩, by have := hk3.size; simp; omega, fun hu r h0 h1 => ?_⟩⟩
         rw [hs1] at h0
         exact (World.putObj_heap_other (by omega)).trans ((hk3.high hu r (by omega) (by omega)).trans (ho2 r h0))
       | ret =>
         obtain ⟨hk3, hi3⟩ := hp
         obtain ⟨hr, hl4, hk4⟩ := fin (some .ret) W3 hk3
         exact ⟨_, _, hr, .inr ⟨rfl, .ret, hIx _ _ _ _ hi3 (But.putObj _ _ (.inr rfl) _), hl4, hk4⟩⟩
       | exit id =>
         obtain ⟨hk3, hi3⟩ := hp
         obtain ⟨hr, hl4, hk4⟩ := fin (some (.exit id)) W3 hk3
         exact ⟨_, _, hr, .inr ⟨rfl, .exit id, hIx _ _ _ _ hi3 (But.putObj _ _ (.inr rfl) _), hl4, hk4⟩⟩
       | goto t =>
         obtain ⟨hk3, hi3⟩ := hp
         obtain ⟨hr, hl4, hk4⟩ := fin (some (.goto t)) W3 hk3
         exact ⟨_, _, hr, .inr ⟨rfl, .goto t, hIx _ _ _ _ hi3 (But.putObj _ _ (.inr rfl) _), hl4, hk4⟩⟩
       | panic ch => exact hp.elim
       | outgrown => exact hp.elim
      all_goals exact h0e.elim
    · rintro e W2 ⟨⟨v, rfl⟩, (⟨hi, hl, hk⟩ | ⟨k, hkl, c, hi, hl, hk⟩)⟩
      · have := run_endLoop (P := P) hl (by rw [e1]; simp)
        rw [e2, e4] at this
        exact ⟨none, _, this, hdone _ (hI _ _ _ hi (But.putObj _ _ (.inr rfl) _)) ((World.putObj_heap_other (by omega)).trans hk)⟩
      · have := run_endLoop (P := P) hl (by rw [e1]; simp)
        rw [e2, e4] at this
        exact ⟨some c, _, this, hstop _ k _ hkl (hIx _ _ _ _ hi (But.putObj _ _ (.inr rfl) _)) ((World.putObj_heap_other (by omega)).trans hk)⟩

/-- The loop, where the frame behind the assignment is given. -/
theorem wpIn_range {P : Program} {g : Operand} {ps : Array Tmp} {assign body : Code} {Q : Exit → Act → World → Prop} {a : Act} {w : World}
    {gf : Nat} {lb : Array Value} (hg : a.eval g = .func (.func gf) #[] lb) (eg : ∀ args w, (callFunc gf args).run P w = .ok (.enter gf args) w)
    {xs : List (Array Value)} {St : World → Prop} {up : Prop} (hseq : Seq P gf lb xs St up) (hps : ∀ (k : Nat) (x : Array Value), xs[k]? = some x → x.size = ps.size)
    (I : Nat → World → Prop) (Ix : Code → Nat → World → Prop)
    (hI : ∀ k A B, I k A → But w.heap.size A B → I k B) (hIx : ∀ c k A B, Ix c k A → But w.heap.size A B → Ix c k B) (hSt : ∀ k A, I k A → St A)
    (h0 : I 0 w) (a₁ : Nat → Act)
    (hassign : ∀ (k : Nat) (x : Array Value) (W : World) (K : Act → World → Prop), xs[k]? = some x → K (a₁ k) W →
      assign.wpIn (Fence.wide.inRound (w.heap.size + 1)) 0 P (Exit.then K (fun _ _ _ => False)) { tmps := (ps.zip x).foldl (fun t (p, v) => t.setIfInBounds p v) a.tmps, defers := [] } W)
    (hbody : ∀ (k : Nat) (W : World), I k W → k < xs.length → w.heap.size + 1 < W.heap.size → body.wpIn (Fence.wide.inRound (w.heap.size + 1)) 0 P (roundLeft w.heap.size up (I (k + 1)) (fun c => Ix c (k + 1)) W) (a₁ k) W)
    (hdone : ∀ (W : World), I xs.length W → W.heap[w.heap.size]? = some (.deferred (some [])) → Q .normal { a with defers := { target := .collected w.heap.size, args := #[] } :: a.defers } W)
    (hstop : ∀ (c : Code) (k : Nat) (W : World), k ≤ xs.length → Ix c k W → W.heap[w.heap.size]? = some (.deferred (some [])) → c.wpIn Fence.wide 0 P Q { a with defers := { target := .collected w.heap.size, args := #[] } :: a.defers } W) :
    (Code.rangeFunc g ps assign body).wpIn Fence.wide 0 P Q a w := by
  exact wpIn_rangeR hg eg hseq hps I Ix hI hIx hSt h0 (fun k x W hx hi hlt => hassign k x W _ hx ⟨rfl, fun W2 hi2 hlt2 => hbody k W2 hi2 (List.getElem?_eq_some_iff.1 hx).1 hlt2⟩) hdone hstop

/-- A function that holds such a loop, from its body. -/
theorem calls_of_marks {P : Program} {f : FuncId} {fn : Func} {c : Code} {args : Array Value} {w : World} {R : Ending → World → Prop}
    (hf : P.funcs[f]? = some fn) (hb : fn.body = some c)
    (h : c.wp P (bodyPostM Fence.wide 0 P fn R) { tmps := args ++ Array.replicate (fn.ntmps - args.size) undef, defers := [] } w) : Calls P f args w R :=
  (callsIn_wide (n := 0)).1 (callsIn_of_wp_marks hf hb trivial (wpIn_wide.2 h))

/-- The way out of such a function. -/
theorem left_mark {P : Program} {fn : Func} {R : Ending → World → Prop} {a : Act} {W : World} {D : Nat} {v : Value} (hd : a.defers = [{ target := .collected D, args := #[] }]) (hD : W.heap[D]? = some (.deferred (some [])))
    (hr : (results fn a.tmps).run P (W.putObj D (.deferred none)) = .ok v (W.putObj D (.deferred none))) (hR : R (.returned v) (W.putObj D (.deferred none))) {e : Exit} (he : e = .ret ∨ e = .normal) : bodyPostM Fence.wide 0 P fn R e a W := by
  have key : LeavesInM Fence.wide 0 P fn a.tmps R a.defers .returning W := by
    rw [hd]
    exact ⟨by simp, .inl ⟨D, _, rfl, run_takeDeferred hD, v, hr, hR⟩⟩
  rcases he with rfl | rfl <;> exact key

theorem left_plain {P : Program} {fn : Func} {R : Ending → World → Prop} {a : Act} {W : World} {v : Value} (hd : a.defers = []) (hr : (results fn a.tmps).run P W = .ok v W) (hR : R (.returned v) W) {e : Exit} (he : e = .ret ∨ e = .normal) : bodyPostM Fence.wide 0 P fn R e a W := by
  have key : LeavesInM Fence.wide 0 P fn a.tmps R a.defers .returning W := by
    rw [hd]
    exact ⟨v, hr, hR⟩
  rcases he with rfl | rfl <;> exact key

theorem wp_range {P : Program} {c : Code} {Q : Exit → Act → World → Prop} {a : Act} {w : World} (h : c.wpIn Fence.wide 0 P Q a w) : c.wp P Q a w := wpIn_wide.1 h

end Go.Proofs.YtnmjdpmfmbgoeaaRRR
