/- A range over a function whose iterator holds memory of its own: what it has made before it hands over the first thing stays, all that rounds make may turn. Over whatever program. -/
import Derived.Test.YtcmkdeejofoibaaRangeLaw
namespace Go.Proofs.Ytcmkdeejofoibaa
open Go.RowKit
set_option linter.unusedVariables false
set_option maxRecDepth 100000

/-- What a round leaves as it lay: the loop's own two blocks, and what lies from them on up to H. -/
structure HeldH (D H : Nat) (A B : World) : Prop where
  size : A.heap.size ≤ B.heap.size
  d0 : B.heap[D]? = A.heap[D]?
  d1 : B.heap[D + 1]? = A.heap[D + 1]?
  high : ∀ r, D ≤ r → r < H → B.heap[r]? = A.heap[r]?
theorem HeldH.of_all {D H : Nat} {A B : World} (hH : D + 2 ≤ H) (hs : A.heap.size ≤ B.heap.size) (h : ∀ r, D ≤ r → r < H → B.heap[r]? = A.heap[r]?) : HeldH D H A B := ⟨hs, h _ (Nat.le_refl _) (by omega), h _ (by omega) (by omega), h⟩

/-- An iterator that hands over xs, one by one, while the rounds go on. St: what it reads at its start. -/
def SeqH (P : Program) (g : Nat) (lb : Array Value) (xs : List (Array Value)) (St : World → Prop) : Prop :=
  ∀ (l : Nat) (J Jx : Nat → Nat → World → Prop) (W : World),
    (∀ H k A B, J H k A → Below A.heap.size A B → J H k B) → (∀ H k A B, Jx H k A → Below A.heap.size A B → Jx H k B) → St W →
    (∀ H k A x, J H k A → W.heap.size ≤ H → H ≤ A.heap.size → xs[k]? = some x → YieldAt Fence.wide 0 P l x A fun e B =>
      (e = .returned (.bool true) ∧ J H (k + 1) B ∧ A.heap.size ≤ B.heap.size ∧ (∀ r, W.heap.size ≤ r → r < H → B.heap[r]? = A.heap[r]?)) ∨ (e = .returned (.bool false) ∧ Jx H (k + 1) B)) →
    (∀ H, W.heap.size ≤ H → J H 0 W) →
    CallsIn Fence.wide 0 P g (#[.func (.yield l) #[] #[]] ++ lb) W fun e B => (∃ v, e = .returned v) ∧ ∃ H, (J H xs.length B ∨ ∃ k, k ≤ xs.length ∧ Jx H k B)

/-- How a round's body is left. -/
def roundLeftH (D H : Nat) (I : World → Prop) (Ix : Code → World → Prop) (W : World) : Exit → Act → World → Prop
  | .normal, _, W' => HeldH D H W W' ∧ I W'
  | .ret, _, W' => Held D False W W' ∧ Ix .ret W'
  | .exit id, _, W' => Held D False W W' ∧ Ix (.exit id) W'
  | .goto t, _, W' => Held D False W W' ∧ Ix (.goto t) W'
  | .panic _, _, _ => False
  | .outgrown, _, _ => False

/-- The loop. -/
theorem wpIn_rangeH {P : Program} {g : Operand} {ps : Array Tmp} {assign body : Code} {Q : Exit → Act → World → Prop} {a : Act} {w : World}
    {gf : Nat} {lb : Array Value} (hg : a.eval g = .func (.func gf) #[] lb) (eg : ∀ args w, (callFunc gf args).run P w = .ok (.enter gf args) w)
    {xs : List (Array Value)} {St : World → Prop} (hseq : SeqH P gf lb xs St) (hps : ∀ (k : Nat) (x : Array Value), xs[k]? = some x → x.size = ps.size)
    (I : Nat → Nat → World → Prop) (Ix : Nat → Code → Nat → World → Prop)
    (hI : ∀ H k A B, I H k A → But w.heap.size A B → I H k B) (hIx : ∀ H c k A B, Ix H c k A → But w.heap.size A B → Ix H c k B) (hSt : ∀ A, I 0 0 A → St A)
    (h0 : ∀ H, I H 0 w)
    (hround : ∀ (H k : Nat) (x : Array Value) (W : World), xs[k]? = some x → I H k W → w.heap.size + 2 ≤ H → H ≤ W.heap.size →
      assign.wpIn (Fence.wide.inRound (w.heap.size + 1)) 0 P (Exit.then (fun a' W' => W' = W ∧ ∀ W2, I H k W2 → H ≤ W2.heap.size →
        body.wpIn (Fence.wide.inRound (w.heap.size + 1)) 0 P (roundLeftH w.heap.size H (I H (k + 1)) (fun c => Ix H c (k + 1)) W2) a' W2) (fun _ _ _ => False)) { tmps := (ps.zip x).foldl (fun t (p, v) => t.setIfInBounds p v) a.tmps, defers := [] } W)
    (hdone : ∀ (H : Nat) (W : World), I H xs.length W → W.heap[w.heap.size]? = some (.deferred (some [])) → Q .normal { a with defers := { target := .collected w.heap.size, args := #[] } :: a.defers } W)
    (hstop : ∀ (H : Nat) (c : Code) (k : Nat) (W : World), k ≤ xs.length → Ix H c k W → W.heap[w.heap.size]? = some (.deferred (some [])) → c.wpIn Fence.wide 0 P Q { a with defers := { target := .collected w.heap.size, args := #[] } :: a.defers } W) :
    (Code.rangeFunc g ps assign body).wpIn Fence.wide 0 P Q a w := by
  refine wpIn_rangeFunc ?_
  intro fn _
  obtain ⟨D, hD⟩ : ∃ D, D = w.heap.size := ⟨_, rfl⟩
  rw [← hD] at hI hIx hround hdone hstop
  obtain ⟨rec, hrec⟩ : ∃ rec : LoopState → Option Code → Loop, rec = fun st pe => { state := st, pending := pe, fn, tmps := a.tmps, params := ps, assign, body, defers := D } := ⟨_, rfl⟩
  obtain ⟨W1, hW1⟩ : ∃ W1, (w.alloc (.deferred (some []))).alloc (.loop (rec .ready none)) = W1 := ⟨_, rfl⟩
  have hs1 : W1.heap.size = D + 2 := by rw [← hW1, hD]; simp
  have hL1 : W1.heap[D + 1]? = some (.loop (rec .ready none)) := by
    have := World.alloc_heap_new (w.alloc (.deferred (some []))) (.loop (rec .ready none)); rwa [World.size_alloc, ← hD, hW1] at this
  have hK1 : W1.heap[D]? = some (.deferred (some [])) := by
    rw [← hW1]; exact (Below.heap_alloc _ _ _ (by simp; omega)).trans (by rw [hD]; exact World.alloc_heap_new w _)
  have hI1 : ∀ H, I H 0 W1 := fun H => by rw [← hW1]; exact hI _ _ _ _ (hI _ _ _ _ (h0 H) (But.alloc _ _ _)) (But.alloc _ _ _)
  refine ⟨D + 1, [{ target := .collected D, args := #[] }], W1, { target := .fn (.func gf) lb, args := #[.func (.yield (D + 1)) #[] #[]] }, W1, gf,
    #[.func (.yield (D + 1)) #[] #[]] ++ lb, W1, ?_, ?_, fun _ _ => trivial, ?_, fun h => by simp [Fence.wide] at h, ?_⟩
  · rw [← hW1, hrec, hD]; exact run_enterLoop_outer _ _ _ _ _
  · simp only [resolve, hg]
    simp [go_sem]
  · simp [invoke, go_sem, eg]
  · have e1 : ∀ st pe, (rec st pe).state = st := fun st pe => by rw [hrec]
    have e2 : ∀ st pe st', ({ rec st pe with state := st' } : Loop) = rec st' pe := fun st pe st' => by rw [hrec]
    have e3 : ∀ st pe st' pe', ({ rec st pe with state := st', pending := pe' } : Loop) = rec st' pe' := fun st pe st' pe' => by rw [hrec]
    have e4 : ∀ st pe, (rec st pe).pending = pe := fun st pe => by rw [hrec]
    refine (hseq (D + 1)
      (fun H k W => I H k W ∧ W.heap[D + 1]? = some (.loop (rec .ready none)) ∧ W.heap[D]? = some (.deferred (some [])))
      (fun H k W => ∃ c, Ix H c k W ∧ W.heap[D + 1]? = some (.loop (rec .done (some c))) ∧ W.heap[D]? = some (.deferred (some [])))
      W1
      (fun H k A B ⟨h1, h2, h3⟩ hb => ⟨hI H k A B h1 (But.of_below hb), (hb.block _ (Array.getElem?_eq_some_iff.1 h2).1).trans h2, (hb.block _ (Array.getElem?_eq_some_iff.1 h3).1).trans h3⟩)
      (fun H k A B ⟨c, h1, h2, h3⟩ hb => ⟨c, hIx H c k A B h1 (But.of_below hb), (hb.block _ (Array.getElem?_eq_some_iff.1 h2).1).trans h2, (hb.block _ (Array.getElem?_eq_some_iff.1 h3).1).trans h3⟩)
      (hSt _ (hI1 0)) ?_ (fun H _ => ⟨hI1 H, hL1, hK1⟩)).mono ?_
    · rintro H k W x ⟨hi, hl, hk⟩ hDH hsz hx
      rw [hs1] at hDH
      have hlt : D + 1 < W.heap.size := (Array.getElem?_eq_some_iff.1 hl).1
      have hkl : k < xs.length := (List.getElem?_eq_some_iff.1 hx).1
      have hy := run_yield (P := P) (args := x) hl (by rw [hrec]; exact hps k x hx)
      have hy' : (Instr.yield (D + 1) x).run P W = .ok (.round (D + 1) fn ((ps.zip x).foldl (fun tmps (t, a) => tmps.setIfInBounds t a) a.tmps) assign body) W := by rw [hy, hrec]
      refine ⟨fn, _, assign, body, hy', roundIn_of_wpIn trivial (wpIn_mono (hround H k x W hx hi hDH hsz) ?_)⟩
      rintro e0 a0 W0 h0e
      cases e0
      case normal =>
       obtain ⟨rfl, hbody⟩ := h0e
       refine ⟨_, run_beginRound hl (e1 _ _), ?_⟩
       rw [e2]
       obtain ⟨W2, hW2⟩ : ∃ W2, W0.putObj (D + 1) (.loop (rec .busy none)) = W2 := ⟨_, rfl⟩
       have hs2 : W2.heap.size = W0.heap.size := by rw [← hW2]; simp
       have hl2 : W2.heap[D + 1]? = some (.loop (rec .busy none)) := by rw [← hW2]; exact World.putObj_heap_same hlt
       have hk2 : W2.heap[D]? = some (.deferred (some [])) := by rw [← hW2]; exact (World.putObj_heap_other (by omega)).trans hk
       have hi2 : I H k W2 := by rw [← hW2]; exact hI _ _ _ _ hi (But.putObj _ _ (.inr rfl) _)
       have ho2 : ∀ r, D + 2 ≤ r → W2.heap[r]? = W0.heap[r]? := fun r hr => by rw [← hW2]; exact World.putObj_heap_other (by omega)
       rw [hW2]
       refine wpIn_mono (hbody W2 hi2 (by omega)) ?_
       have fin : ∀ (jump : Option Code) (W3 : World), Held D False W2 W3 →
           (Instr.endRound (D + 1) jump).run P W3 = .ok (.bool jump.isNone) (W3.putObj (D + 1) (.loop (rec (if jump.isNone then .ready else .done) jump))) ∧
           (W3.putObj (D + 1) (.loop (rec (if jump.isNone then .ready else .done) jump))).heap[D + 1]? = some (.loop (rec (if jump.isNone then .ready else .done) jump)) ∧
           (W3.putObj (D + 1) (.loop (rec (if jump.isNone then .ready else .done) jump))).heap[D]? = some (.deferred (some [])) := fun jump W3 hk3 => by
         have hl3 := hk3.d1.trans hl2
         have := run_endRound (P := P) jump hl3
         rw [e3] at this
         exact ⟨this, World.putObj_heap_same (Array.getElem?_eq_some_iff.1 hl3).1, (World.putObj_heap_other (by omega)).trans (hk3.d0.trans hk2)⟩
       rintro e a3 W3 hp
       cases e with
       | normal =>
         obtain ⟨hk3, hi3⟩ := hp
         obtain ⟨hr, hl4, hk4⟩ := fin none W3 ⟨hk3.size, hk3.d0, hk3.d1, fun h => h.elim⟩
         refine ⟨_, _, hr, .inl ⟨rfl, ⟨hI _ _ _ _ hi3 (But.putObj _ _ (.inr rfl) _), hl4, hk4⟩, by have := hk3.size; simp; omega, fun r h0 h1 => ?_⟩⟩
         rw [hs1] at h0
         exact (World.putObj_heap_other (by omega)).trans ((hk3.high r (by omega) (by omega)).trans (ho2 r h0))
       | ret =>
         obtain ⟨hk3, hi3⟩ := hp
         obtain ⟨hr, hl4, hk4⟩ := fin (some .ret) W3 hk3
         exact ⟨_, _, hr, .inr ⟨rfl, .ret, hIx _ _ _ _ _ hi3 (But.putObj _ _ (.inr rfl) _), hl4, hk4⟩⟩
       | exit id =>
         obtain ⟨hk3, hi3⟩ := hp
         obtain ⟨hr, hl4, hk4⟩ := fin (some (.exit id)) W3 hk3
         exact ⟨_, _, hr, .inr ⟨rfl, .exit id, hIx _ _ _ _ _ hi3 (But.putObj _ _ (.inr rfl) _), hl4, hk4⟩⟩
       | goto t =>
         obtain ⟨hk3, hi3⟩ := hp
         obtain ⟨hr, hl4, hk4⟩ := fin (some (.goto t)) W3 hk3
         exact ⟨_, _, hr, .inr ⟨rfl, .goto t, hIx _ _ _ _ _ hi3 (But.putObj _ _ (.inr rfl) _), hl4, hk4⟩⟩
       | panic ch => exact hp.elim
       | outgrown => exact hp.elim
      all_goals exact h0e.elim
    · rintro e W2 ⟨⟨v, rfl⟩, H, (⟨hi, hl, hk⟩ | ⟨k, hkl, c, hi, hl, hk⟩)⟩
      · have := run_endLoop (P := P) hl (by rw [e1]; simp)
        rw [e2, e4] at this
        exact ⟨none, _, this, hdone H _ (hI _ _ _ _ hi (But.putObj _ _ (.inr rfl) _)) ((World.putObj_heap_other (by omega)).trans hk)⟩
      · have := run_endLoop (P := P) hl (by rw [e1]; simp)
        rw [e2, e4] at this
        exact ⟨some c, _, this, hstop H _ k _ hkl (hIx _ _ _ _ _ hi (But.putObj _ _ (.inr rfl) _)) ((World.putObj_heap_other (by omega)).trans hk)⟩

end Go.Proofs.Ytcmkdeejofoibaa
