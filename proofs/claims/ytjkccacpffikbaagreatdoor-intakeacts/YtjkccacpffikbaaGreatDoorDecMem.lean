/- A decoder in memory. -/
import Derived.Test.YtjkccacpffikbaaGreatDoorDecGo
import Derived.Test.YtjkccacpffikbaaGreatDoorByteSlices
import Derived.Test.YtjkccacpffikbaaGreatDoorFieldSame
import Derived.Test.YtjkccacpffikbaaGreatDoorBodyStep
namespace Go.Proofs.YtjkccacpffikbaaGreatDoor
open Go.ChangeShapes Go.WideShapes Go.ChangeAt Go.RowKit
open Oc Fl Bk Bd Dk
set_option linter.unusedVariables false
set_option maxRecDepth 100000

/-- Of what lay before, only blocks of M are written; the blocks of N are of M, or new. -/
structure Moves (M N : Nat → Prop) (w w' : World) : Prop where
  os : w'.os = w.os
  tape : w'.tape = w.tape
  output : w'.output = w.output
  size : w.heap.size ≤ w'.heap.size
  block : ∀ k, k < w.heap.size → ¬ M k → w'.heap[k]? = w.heap[k]?
  own : ∀ k, N k → M k ∨ w.heap.size ≤ k
theorem Moves.refl (M : Nat → Prop) (w : World) : Moves M M w w := ⟨rfl, rfl, rfl, Nat.le_refl _, fun _ _ _ => rfl, fun _ h => .inl h⟩
theorem Moves.trans {M N K : Nat → Prop} {a b c : World} (h : Moves M N a b) (g : Moves N K b c) : Moves M K a c :=
  ⟨g.os.trans h.os, g.tape.trans h.tape, g.output.trans h.output, Nat.le_trans h.size g.size,
   fun k hk hm => (g.block k (Nat.lt_of_lt_of_le hk h.size) (fun hn => by rcases h.own k hn with h' | h'; exact hm h'; omega)).trans (h.block k hk hm),
   fun k hk => by
    rcases g.own k hk with h' | h'
    · exact h.own k h'
    · have := h.size
      exact .inr (by omega)⟩
theorem Moves.of_below {M : Nat → Prop} {a b : World} (h : Below a.heap.size a b) : Moves M M a b := ⟨h.os, h.tape, h.output, h.size, fun k hk _ => h.block k hk, fun _ h => .inl h⟩
theorem Moves.below {M N : Nat → Prop} {a b : World} {B : Nat} (h : Moves M N a b) (hB : B ≤ a.heap.size) (hm : ∀ k, M k → B ≤ k) : Below B a b :=
  ⟨h.os, h.tape, h.output, h.size, fun k hk => h.block k (by omega) (fun hh => by have := hm k hh; omega)⟩
theorem Moves.less {M N K : Nat → Prop} {a b : World} (h : Moves M N a b) (hk : ∀ k, K k → N k) : Moves M K a b := ⟨h.os, h.tape, h.output, h.size, h.block, fun k hh => h.own k (hk k hh)⟩

/-- What takes a byte at a place. -/
def tkAt (p : Nat) : Value :=
  match p with
  | 1 => .func (.func 37) #[] #[]
  | 2 => .func (.func 38) #[] #[]
  | 3 => .func (.func 39) #[] #[]
  | 4 => .func (.func 40) #[] #[]
  | 6 => .func (.func 41) #[] #[]
  | 7 => .func (.func 42) #[] #[]
  | 8 => .func (.func 43) #[] #[]
  | 9 => .func (.func 44) #[] #[]
  | 10 => .func (.func 45) #[] #[]
  | 11 => .func (.func 46) #[] #[]
  | 12 => .func (.func 47) #[] #[]
  | _ => .nilFunc
/-- The decoder's cells. -/
def dcs (l : Lim) (d : Ds) (tv lv gv : Value) : Array Value :=
  #[.int .i64 (l.ext : Int), .int .i64 (l.fields : Int), .int .i64 (l.bytes : Int), .int .i64 (d.wh : Int), tv, .int .i64 (d.wrong : Int), .int .i64 (d.digits : Int), .int .u64 (d.left : Int), .int .i64 (d.ext : Int), .int .i64 (d.bytes : Int), lv, gv, .int .i64 (d.taken : Int), .int .i64 (d.given : Int)]
/-- The decoder d lies at block R. -/
structure DA (R : Nat) (l : Lim) (d : Ds) (tv lv gv : Value) (W : World) : Prop where
  blk : W.heap[R]? = some (.cells (dcs l d tv lv gv) 84 (0, 0))
  line : W.ownsRow (0 + 1) 5 1 lv d.line.length (bv d.line)
  fields : W.ownsRow (0 + 1) 78 2 gv d.fields.length (fv d.fields)
  base : 0 < R
  spans : Spans W
/-- Its blocks. -/
def mine (R : Nat) (lv gv : Value) (k : Nat) : Prop := k = R ∨ lv.ownBlock = some k ∨ gv.ownBlock = some k

section
variable {R : Nat} {l : Lim} {d : Ds} {tv lv gv : Value} {W : World}
theorem DA.lt (h : DA R l d tv lv gv W) : R < W.heap.size := (Array.getElem?_eq_some_iff.1 h.blk).1
theorem DA.mine_lt (h : DA R l d tv lv gv W) (k : Nat) (hk : mine R lv gv k) : 0 < k ∧ k < W.heap.size := by
  rcases hk with rfl | hk | hk
  · exact ⟨h.base, h.lt⟩
  · exact h.line.lt k hk
  · exact h.fields.lt k hk
theorem row_type {W : World} {base n m sz sz' : Nat} {e e' : TypeId} {v : Value} {xs : List Value} (h : W.ownsRow base e sz v n xs) {k : Nat} (hk : v.ownBlock = some k) {cs : Array Value} {fr : Nat × Nat} (hb : W.heap[k]? = some (.cells cs e' fr)) : e = e' := by
  rcases h.2 with ⟨rfl, _⟩ | ⟨g, cap, cur, rfl, _, hh, _⟩
  · simp [Value.ownBlock] at hk
  · simp [Value.ownBlock] at hk
    subst hk
    rw [hh] at hb
    simp at hb
    exact hb.2.1
theorem row_block9 {W : World} {base n sz : Nat} {e : TypeId} {v : Value} {xs : List Value} (h : W.ownsRow base e sz v n xs) {k : Nat} (hk : v.ownBlock = some k) : ∃ cs, W.heap[k]? = some (.cells cs e (0, 0)) := by
  rcases h.2 with ⟨rfl, _⟩ | ⟨g, cap, cur, rfl, _, hh, _⟩
  · simp [Value.ownBlock] at hk
  · simp [Value.ownBlock] at hk
    subst hk
    exact ⟨_, hh⟩
theorem DA.line_ne (h : DA R l d tv lv gv W) : lv.ownBlock ≠ some R := fun e => absurd (row_type (m := 0) (sz' := 0) h.line e h.blk) (by decide)
theorem DA.fields_ne (h : DA R l d tv lv gv W) : gv.ownBlock ≠ some R := fun e => absurd (row_type (m := 0) (sz' := 0) h.fields e h.blk) (by decide)
theorem DA.apart (h : DA R l d tv lv gv W) {k : Nat} (h1 : lv.ownBlock = some k) : gv.ownBlock ≠ some k := fun h2 => by
  obtain ⟨cs, hcs⟩ := row_block9 h.line h1
  exact absurd (row_type (m := 0) (sz' := 0) h.fields h2 hcs) (by decide)
theorem DA.cell (h : DA R l d tv lv gv W) (i : Nat) : W.cell? ⟨R, i, none⟩ = (dcs l d tv lv gv)[i]? := by simp [World.cell?, h.blk]
theorem DA.f (h : DA R l d tv lv gv W) (i : Nat) : W.frozen? ⟨R, i, none⟩ = false := by simp [World.frozen?, h.blk]
/-- All that the decoder's code reads. -/
structure Rd14 (R : Nat) (l : Lim) (d : Ds) (tv lv gv : Value) (W : World) : Prop where
  c0 : W.cell? ⟨R, 0, none⟩ = some (.int .i64 (l.ext : Int))
  c1 : W.cell? ⟨R, 1, none⟩ = some (.int .i64 (l.fields : Int))
  c2 : W.cell? ⟨R, 2, none⟩ = some (.int .i64 (l.bytes : Int))
  c3 : W.cell? ⟨R, 3, none⟩ = some (.int .i64 (d.wh : Int))
  c4 : W.cell? ⟨R, 4, none⟩ = some tv
  c5 : W.cell? ⟨R, 5, none⟩ = some (.int .i64 (d.wrong : Int))
  c6 : W.cell? ⟨R, 6, none⟩ = some (.int .i64 (d.digits : Int))
  c7 : W.cell? ⟨R, 7, none⟩ = some (.int .u64 (d.left : Int))
  c8 : W.cell? ⟨R, 8, none⟩ = some (.int .i64 (d.ext : Int))
  c9 : W.cell? ⟨R, 9, none⟩ = some (.int .i64 (d.bytes : Int))
  c10 : W.cell? ⟨R, 10, none⟩ = some lv
  c11 : W.cell? ⟨R, 11, none⟩ = some gv
  c12 : W.cell? ⟨R, 12, none⟩ = some (.int .i64 (d.taken : Int))
  c13 : W.cell? ⟨R, 13, none⟩ = some (.int .i64 (d.given : Int))
theorem DA.reads (h : DA R l d tv lv gv W) : Rd14 R l d tv lv gv W := ⟨h.cell 0, h.cell 1, h.cell 2, h.cell 3, h.cell 4, h.cell 5, h.cell 6, h.cell 7, h.cell 8, h.cell 9, h.cell 10, h.cell 11, h.cell 12, h.cell 13⟩
theorem DA.moved {W' : World} (h : DA R l d tv lv gv W) (hm : ∀ k, mine R lv gv k → W'.heap[k]? = W.heap[k]?) (hs : Spans W') : DA R l d tv lv gv W' :=
  ⟨(hm R (.inl rfl)).trans h.blk, own_same h.line fun k hk => hm k (.inr (.inl hk)), own_same h.fields fun k hk => hm k (.inr (.inr hk)), h.base, hs⟩
theorem DA.below {W' : World} (h : DA R l d tv lv gv W) (hb : Below W.heap.size W W') : DA R l d tv lv gv W' :=
  h.moved (fun k hk => hb.block k (h.mine_lt k hk).2) (h.spans.below hb)
theorem Spans.set {w : World} {R i : Nat} {v : Value} (h : Spans w) (hR : 0 < R) : Spans (w.setCell ⟨R, i, none⟩ v) := by
  obtain ⟨h0, h1⟩ := h
  have e : ∀ j, (w.setCell ⟨R, i, none⟩ v).cell? ⟨0, j, none⟩ = w.cell? ⟨0, j, none⟩ := fun j => World.cell?_of_block (Below.heap_setCell _ _ _ _ (by show (0 : Nat) ≠ R; omega))
  refine ⟨by simpa [World.setCell] using h0, ?_⟩
  rw [e, e, e, e, e, e]
  exact h1
/-- A cell of the decoder's own is written. -/
theorem DA.set (h : DA R l d tv lv gv W) (i : Nat) (v : Value) {d' : Ds} {tv' : Value} (e : dcs l d' tv' lv gv = (dcs l d tv lv gv).setIfInBounds i v) (hl : d'.line = d.line) (hf : d'.fields = d.fields) : DA R l d' tv' lv gv (W.setCell ⟨R, i, none⟩ v) := by
  refine ⟨by rw [e]; exact heap_set v h.blk, ?_, ?_, h.base, h.spans.set h.base⟩
  · rw [hl]; exact own_same h.line fun k hk => Below.heap_setCell _ _ _ _ (fun e => h.line_ne (by rw [hk, e]))
  · rw [hf]; exact own_same h.fields fun k hk => Below.heap_setCell _ _ _ _ (fun e => h.fields_ne (by rw [hk, e]))
/-- The line is left. -/
theorem DA.noLine (h : DA R l d tv lv gv W) {d' : Ds} (e : dcs l d' tv (.slice none 0 0) gv = (dcs l d tv lv gv).setIfInBounds 10 (.slice none 0 0)) (hl : d'.line = []) (hf : d'.fields = d.fields) : DA R l d' tv (.slice none 0 0) gv (W.setCell ⟨R, 10, none⟩ (.slice none 0 0)) := by
  refine ⟨by rw [e]; exact heap_set _ h.blk, ?_, ?_, h.base, h.spans.set h.base⟩
  · rw [hl]; exact World.ownsRow_nil _ _ _ _
  · rw [hf]; exact own_same h.fields fun k hk => Below.heap_setCell _ _ _ _ (fun e => h.fields_ne (by rw [hk, e]))
/-- The fields are left. -/
theorem DA.noFields (h : DA R l d tv lv gv W) {d' : Ds} (e : dcs l d' tv lv (.slice none 0 0) = (dcs l d tv lv gv).setIfInBounds 11 (.slice none 0 0)) (hl : d'.line = d.line) (hf : d'.fields = []) : DA R l d' tv lv (.slice none 0 0) (W.setCell ⟨R, 11, none⟩ (.slice none 0 0)) := by
  refine ⟨by rw [e]; exact heap_set _ h.blk, ?_, ?_, h.base, h.spans.set h.base⟩
  · rw [hl]; exact own_same h.line fun k hk => Below.heap_setCell _ _ _ _ (fun e => h.line_ne (by rw [hk, e]))
  · rw [hf]; exact World.ownsRow_nil _ _ _ _
theorem Moves.set (R : Nat) (lv gv : Value) (W : World) (i : Nat) (v : Value) : Moves (mine R lv gv) (mine R lv gv) W (W.setCell ⟨R, i, none⟩ v) :=
  ⟨rfl, rfl, rfl, by simp [World.setCell], fun k _ hk => Below.heap_setCell _ _ _ _ (fun e => hk (.inl e)), fun _ h => .inl h⟩
end

/-- What a method that takes a byte leaves: where the next one stands. -/
def TakeQ (R : Nat) (l : Lim) (tv lv gv : Value) (r : Nat × Ds) (w : World) (e : Ending) (w' : World) : Prop :=
  ∃ lv' gv', e = .returned (.int .i64 (r.1 : Int)) ∧ DA R l r.2 tv lv' gv' w' ∧ Moves (mine R lv gv) (mine R lv' gv') w w'
theorem TakeQ.after {R : Nat} {l : Lim} {tv lv gv : Value} {r : Nat × Ds} {w w1 : World} {e : Ending} {w' : World} (h : TakeQ R l tv lv gv r w1 e w') (hm : Moves (mine R lv gv) (mine R lv gv) w w1) : TakeQ R l tv lv gv r w e w' := by
  obtain ⟨lv', gv', h1, h2, h3⟩ := h
  exact ⟨lv', gv', h1, h2, hm.trans h3⟩

set_option maxHeartbeats 2000000 in
theorem fail_any {R : Nat} {l : Lim} {d : Ds} {tv lv gv : Value} (e : Nat) (w : World) (h : DA R l d tv lv gv w) :
    Calls Tryz.prog 51 #[.pointer (some ⟨R, 0, none⟩), .int .i64 (e : Int)] w fun x w' => TakeQ R l tv lv gv (failD e d) w x w' := by
  obtain ⟨c0, c1, c2, c3, c4, c5, c6, c7, c8, c9, c10, c11, c12, c13⟩ := h.reads
  have f := h.f
  have HQ := Lib.hid (show TakeQ R l tv lv gv (failD e d) w (.returned (.int .i64 0)) (((w.setCell ⟨R, 5, none⟩ (.int .i64 (e : Int))).setCell ⟨R, 10, none⟩ (.slice none 0 0)).setCell ⟨R, 11, none⟩ (.slice none 0 0)) from by
    have h1 := h.set 5 (.int .i64 (e : Int)) (d' := { d with wrong := e }) (tv' := tv) rfl rfl rfl
    have h2 := h1.noLine (d' := { d with wrong := e, line := [] }) rfl rfl rfl
    have h3 := h2.noFields (d' := { d with wrong := e, line := [], fields := [] }) rfl rfl rfl
    refine ⟨_, _, rfl, h3, ?_⟩
    refine (((Moves.set R lv gv w 5 _).trans (Moves.set R lv gv _ 10 _)).trans (Moves.set R lv gv _ 11 _)).less fun k hk => ?_
    rcases hk with hk | hk | hk
    · exact .inl hk
    · simp [Value.ownBlock] at hk
    · simp [Value.ownBlock] at hk)
  clear h
  go_enter Tryz.func51, Tryz.ntmps51
  go_wp2_with fail
  go_ret
  exact HQ.out

set_option maxHeartbeats 2000000 in
theorem only_any {R : Nat} {l : Lim} {d : Ds} {tv lv gv : Value} (b c : UInt8) (p : Nat) (w : World) (h : DA R l d tv lv gv w) :
    Calls Tryz.prog 54 #[.pointer (some ⟨R, 0, none⟩), .int .u8 (b.toNat : Int), .int .u8 (c.toNat : Int), .int .i64 (p : Int)] w fun x w' => TakeQ R l tv lv gv (onlyD b c p d) w x w' := by
  have H := Lib.hid h
  clear h
  by_cases hc : c = b
  · subst hc
    have HQ := Lib.hid (show TakeQ R l tv lv gv (onlyD c c p d) w (.returned (.int .i64 (p : Int))) w from by
      rw [onlyD, if_pos rfl]; exact ⟨lv, gv, rfl, H.out, Moves.refl _ _⟩)
    have hne : ((c.toNat : Int) != (c.toNat : Int)) = false := by simp
    go_enter Tryz.func54, Tryz.ntmps54
    go_wp2_with fail
    go_ret
    exact HQ.out
  · have hne : ((c.toNat : Int) != (b.toNat : Int)) = true := ub_nne hc
    have HF := Lib.hid (fail_any 2 w H.out)
    have he := Lib.hid (show onlyD b c p d = failD 2 d from if_neg hc)
    go_enter Tryz.func54, Tryz.ntmps54
    go_wp2_with (go_at_call 51; refine HF.out.mono ?_; rintro e w' ⟨lv', gv', rfl, h1, h2⟩)
    go_ret
    rw [he.out]
    exact ⟨lv', gv', rfl, h1, h2⟩

end Go.Proofs.YtjkccacpffikbaaGreatDoor
