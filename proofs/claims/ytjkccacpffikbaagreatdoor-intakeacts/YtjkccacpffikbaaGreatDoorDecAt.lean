/- A decoder as those who call it see it. -/
import Derived.Test.YtjkccacpffikbaaGreatDoorDecPutGo
import Derived.Test.YtjkccacpffikbaaGreatDoorDecNew
namespace Go.Proofs.YtjkccacpffikbaaGreatDoor
open Go.ChangeShapes Go.WideShapes Go.ChangeAt Go.RowKit
open Oc Fl Bk Bd Dk
set_option linter.unusedVariables false
set_option maxRecDepth 100000

/-- A decoder at block R within the limits l, whose reading came to x; its blocks are M's. -/
def DecAt (R : Nat) (l : Lim) (x : St × Nat × Nat) (M : Nat → Prop) (W : World) : Prop := ∃ (d : Ds) (lv gv : Value), DA R l d (tkAt d.wh) lv gv W ∧ Hold l x d ∧ M = mine R lv gv

section
variable {R : Nat} {l : Lim} {x : St × Nat × Nat} {M : Nat → Prop} {W : World}
theorem DecAt.lt (h : DecAt R l x M W) {k : Nat} (hk : M k) : 0 < k ∧ k < W.heap.size := by
  obtain ⟨d, lv, gv, h1, h2, rfl⟩ := h
  exact h1.mine_lt k hk
theorem DecAt.moved {W' : World} (h : DecAt R l x M W) (hm : ∀ k, M k → W'.heap[k]? = W.heap[k]?) (hs : Spans W') : DecAt R l x M W' := by
  obtain ⟨d, lv, gv, h1, h2, rfl⟩ := h
  exact ⟨d, lv, gv, h1.moved hm hs, h2, rfl⟩
theorem DecAt.below {W' : World} (h : DecAt R l x M W) (hb : Below W.heap.size W W') : DecAt R l x M W' := by
  obtain ⟨d, lv, gv, h1, h2, rfl⟩ := h
  exact ⟨d, lv, gv, h1.below hb, h2, rfl⟩
theorem DecAt.spans (h : DecAt R l x M W) : Spans W := by
  obtain ⟨d, lv, gv, h1, h2, rfl⟩ := h
  exact h1.spans
theorem DecAt.end_le (h : DecAt R l x M W) : x.2.2 ≤ 5 := by
  obtain ⟨d, lv, gv, h1, h2, rfl⟩ := h
  exact h2.core.end_le
theorem DecAt.data (h : DecAt R l x M W) : x.1.data.length ≤ x.2.1 := by
  obtain ⟨d, lv, gv, h1, h2, rfl⟩ := h
  exact h2.data
theorem Core.fmax {d : Ds} (h : Core l x d) : d.fields.length ≤ l.fields := by
  rcases h with ⟨_, _, h⟩ | ⟨_, _, h⟩ | ⟨_, _, _, _, _, _, _, h⟩
  · rw [h.fields]; exact h.fmax
  · rw [h.fields]; exact h.fmax
  · rw [h]; exact Nat.zero_le _
/-- What is told of a reading. -/
def leftX (x : St × Nat × Nat) : Nat := if x.1.place = 3 then x.1.n else 0
def fieldsX (x : St × Nat × Nat) : List Fld := if x.2.2 = 0 then x.1.fields else []

theorem doneX (w : World) (h : DecAt R l x M w) : Calls Tryz.prog 30 #[.pointer (some ⟨R, 0, none⟩)] w fun e w' => e = .returned (.bool (decide (x.2.2 = 0))) ∧ w = w' := by
  obtain ⟨d, lv, gv, h1, h2, rfl⟩ := h
  refine (done_any w h1).mono ?_
  rintro e w' ⟨rfl, h⟩
  exact ⟨ret_bool (by rw [Bool.eq_iff_iff]; simp only [decide_eq_true_eq]; exact h2.core.done), h⟩
theorem takenX (w : World) (h : DecAt R l x M w) : Calls Tryz.prog 111 #[.pointer (some ⟨R, 0, none⟩)] w fun e w' => e = .returned (.int .i64 (x.2.1 : Int)) ∧ w = w' := by
  obtain ⟨d, lv, gv, h1, h2, rfl⟩ := h
  refine (taken_any w h1).mono ?_
  rintro e w' ⟨rfl, h⟩
  exact ⟨by rw [h2.taken], h⟩
theorem givenX (w : World) (h : DecAt R l x M w) : Calls Tryz.prog 109 #[.pointer (some ⟨R, 0, none⟩)] w fun e w' => e = .returned (.int .i64 (x.1.data.length : Int)) ∧ w = w' := by
  obtain ⟨d, lv, gv, h1, h2, rfl⟩ := h
  refine (given_any w h1).mono ?_
  rintro e w' ⟨rfl, h⟩
  exact ⟨by rw [h2.given], h⟩
theorem fieldsXA (w : World) (h : DecAt R l x M w) (hl : l.fields ≤ 65536) : Calls Tryz.prog 27 #[.pointer (some ⟨R, 0, none⟩)] w fun e w' => ∃ u, e = .returned u ∧ FS w' u (fieldsX x) ∧ Below w.heap.size w w' := by
  obtain ⟨d, lv, gv, h1, h2, rfl⟩ := h
  have := Core.fmax h2.core
  refine (fields9_any w h1 (by omega)).mono ?_
  rintro e w' ⟨u, rfl, hu, hb⟩
  rw [h2.core.fields] at hu
  exact ⟨u, rfl, hu, hb⟩
theorem DecAt.fields_le (h : DecAt R l x M W) : (fieldsX x).length ≤ l.fields := by
  obtain ⟨d, lv, gv, h1, h2, rfl⟩ := h
  have h3 := h2.core.fields
  have h4 := Core.fmax h2.core
  unfold fieldsX
  rw [← h3]
  split
  · exact h4
  · exact Nat.zero_le _

/-- What a piece leaves. -/
def PutX (R : Nat) (l : Lim) (x : St × Nat × Nat) (M : Nat → Prop) (T : List UInt8) (w : World) (e : Ending) (w' : World) : Prop :=
  ∃ (M' : Nat → Prop) (p : Option Addr) (c : Nat) (D : List UInt8) (n : Nat), e = .returned (.tuple #[.slice p D.length c, .int .i64 (n : Int), .int .i64 ((told (cont l x T).2.2 : Nat) : Int)]) ∧
    DecAt R l (cont l x T) M' w' ∧ Moves M M' w w' ∧ (cont l x T).2.1 = x.2.1 + n ∧ n ≤ T.length ∧ (cont l x T).1.data = x.1.data ++ D ∧ RD w' (.slice p D.length c) D ∧
    (∀ g, (Value.slice p D.length c).ownBlock = some g → w.heap.size ≤ g ∧ g < w'.heap.size ∧ ¬ M' g)
theorem putXw {T : List UInt8} {tv : Value} (w : World) (h : DecAt R l x M w) (hT : RD w tv T) (hv : T ≠ [] → ∀ g, tv.ownBlock = some g → ¬ M g)
    (hTl : T.length ≤ 1000000) (hxl : x.2.1 ≤ 1000000) (hl : l.ext ≤ 65536 ∧ l.fields ≤ 65536 ∧ l.bytes ≤ 65536) :
    Calls Tryz.prog 110 #[.pointer (some ⟨R, 0, none⟩), tv] w fun e w' => PutX R l x M T w e w' := by
  obtain ⟨d, lv, gv, h1, h2, rfl⟩ := h
  refine (put9_any w h1 h2 hT hv hTl hxl hl).mono ?_
  rintro e w' ⟨d', lv', gv', p, c, D, n, q1, q2, q3, q4, q5, q6, q7, q8, q9⟩
  exact ⟨_, p, c, D, n, q1, ⟨d', lv', gv', q2, q4, rfl⟩, q3, q5, q6, q7, q8, q9⟩
theorem putX {T : List UInt8} {tv : Value} (w : World) (h : DecAt R l x M w) (hT : RD w tv T) (hv : ∀ g, tv.ownBlock = some g → ¬ M g)
    (hTl : T.length ≤ 1000000) (hxl : x.2.1 ≤ 1000000) (hl : l.ext ≤ 65536 ∧ l.fields ≤ 65536 ∧ l.bytes ≤ 65536) :
    Calls Tryz.prog 110 #[.pointer (some ⟨R, 0, none⟩), tv] w fun e w' => PutX R l x M T w e w' := putXw w h hT (fun _ => hv) hTl hxl hl
theorem newX (l : Lim) (w : World) (hl : l.ext ≤ 65536 ∧ l.fields ≤ 65536 ∧ l.bytes ≤ 65536) (hsp : Spans w) :
    Calls Tryz.prog 25 #[lim3 (l.ext : Int) (l.fields : Int) (l.bytes : Int)] w fun e w' => ∃ (R : Nat) (M : Nat → Prop), e = .returned (.tuple #[.pointer (some ⟨R, 0, none⟩), .int .i64 0]) ∧ DecAt R l (sz [] 0 0, 0, 4) M w' ∧ (∀ k, M k → w.heap.size ≤ k) ∧ Below w.heap.size w w' := by
  refine (new_ok l w hl hsp).mono ?_
  rintro e w' ⟨R, rfl, h1, h2, h3⟩
  refine ⟨R, _, rfl, ⟨d0, _, _, h2, hold_new l, rfl⟩, fun k hk => ?_, h3⟩
  rcases hk with hk | hk | hk
  · rw [hk]; exact h1
  · simp [Value.ownBlock] at hk
  · simp [Value.ownBlock] at hk
/-- Under a move of M, all below B stays, where M is above. -/
theorem Moves.low {M N : Nat → Prop} {a b c : World} {B : Nat} (hb : Below B a b) (h : Moves M N b c) (hB : B ≤ b.heap.size) (hm : ∀ k, M k → B ≤ k) : Below B a c ∧ (∀ k, N k → B ≤ k) :=
  ⟨hb.trans (h.below hB hm), fun k hk => by rcases h.own k hk with h' | h'; exact hm k h'; omega⟩
end

end Go.Proofs.YtjkccacpffikbaaGreatDoor
