/- A strings.Builder of the call's own, in the block b: what it holds lies above it. What copyCheck and WriteString answer at this program. -/
import Derived.Test.YtilebfpaibajcaaGreatDoorOctetTrim
import Derived.Test.YtilebfpaibajcaaGreatDoorMC
namespace Go.Proofs.YtilebfpaibajcaaGreatDoor
open Go.ChangeShapes Go.WideShapes Go.ChangeAt Go.RowKit
set_option linter.unusedVariables false
set_option maxRecDepth 100000

/-- The builder in the block b holds l; p: its own address, or none as yet. -/
structure Bld (W : World) (b : Nat) (p : Option Addr) (v : Value) (l : List UInt8) : Prop where
  two : W.heap[b]? = some (.cells #[.pointer p, v] 199 (0, 0))
  own : W.ownsRow (b + 1) 5 1 v l.length (bv l)
/-- Such a builder, fresh or used. -/
def Held6 (W : World) (b : Nat) (l : List UInt8) : Prop := ∃ p v, (p = none ∨ p = some ⟨b, 0, none⟩) ∧ Bld W b p v l

theorem Bld.lt {W : World} {b : Nat} {p : Option Addr} {v : Value} {l : List UInt8} (h : Bld W b p v l) : b < W.heap.size := (Array.getElem?_eq_some_iff.1 h.two).1
theorem Bld.cells {W : World} {b : Nat} {p : Option Addr} {v : Value} {l : List UInt8} (h : Bld W b p v l) : W.cell? ⟨b, 0, none⟩ = some (.pointer p) ∧ W.cell? ⟨b, 1, none⟩ = some v ∧ ∀ i, W.frozen? ⟨b, i, none⟩ = false := by
  have := h.two
  simp [World.cell?, World.frozen?, this]
theorem Bld.next {W W' : World} {b : Nat} {p : Option Addr} {v : Value} {l : List UInt8} (h : Bld W b p v l) (hb : Below W.heap.size W W') : Bld W' b p v l :=
  ⟨(hb.block b h.lt).trans h.two, own_same h.own fun k hk => hb.block k (h.own.lt k hk).2⟩
theorem Held6.next {W W' : World} {b : Nat} {l : List UInt8} (h : Held6 W b l) (hb : Below W.heap.size W W') : Held6 W' b l := by
  obtain ⟨p, v, hp, h⟩ := h
  exact ⟨p, v, hp, h.next hb⟩
theorem Held6.fresh (w : World) : Held6 (w.alloc (.cells #[.pointer none, .slice none 0 0] 199)) w.heap.size [] :=
  ⟨none, _, .inl rfl, heap_alloc_new w _, World.ownsRow_nil _ _ _ _⟩
/-- A cell of the builder's block is written. -/
theorem Bld.point {W : World} {b : Nat} {p : Option Addr} {v : Value} {l : List UInt8} (h : Bld W b p v l) (q : Option Addr) : Bld (W.setCell ⟨b, 0, none⟩ (.pointer q)) b q v l :=
  ⟨heap_set _ h.two, own_same h.own fun k hk => Below.heap_setCell _ _ _ _ (by have := (h.own.lt k hk).1; simp; omega)⟩
/-- As the shelf speaks of it. -/
theorem Held6.shelf {W : World} {b : Nat} {l : List UInt8} (h : Held6 W b l) : Lib.IsBuilder 199 5 b b (Lib.byteCells l) W := by
  obtain ⟨p, v, hp, h⟩ := h
  have key : Lib.BuilderAt 199 5 b b (.pointer p) (Lib.byteCells l) W :=
    ⟨Nat.le_refl _, v, h.two, by rw [Lib.byteCells_length]; exact own_base h.own (Nat.le_succ _), fun e => by have := (h.own.lt b e).1; omega⟩
  rcases hp with rfl | rfl
  · exact .inl key
  · exact .inr key

/-! The steps of copyCheck that a walk takes from its context. -/
theorem bld_size : (Tryz.prog.info? 199).map (·.size) = some 2 := by kernel_rfl
theorem bld_lies : liesAt Tryz.prog Tryz.prog.depth 199 (2 / Tryz.prog.cellsOf 199) 0 199 1 = true := by kernel_rfl
theorem ptr_same (a : Addr) (W : World) : (binOp .neq 197 (.pointer (some a)) (.pointer (some a))).run Tryz.prog W = .ok (.bool false) W := by
  obtain ⟨j, hj, _⟩ := Option.map_eq_some_iff.1 bld_size
  exact Lib.run_neq_ptr_same W a Tryz.underlying197 hj
theorem Bld.shape {W : World} {b : Nat} {p : Option Addr} {v : Value} {l : List UInt8} (h : Bld W b p v l) : W.shape? b = some (199, 2) := by
  have := h.two
  simp [World.shape?, this]
theorem Bld.away {W : World} {b : Nat} {p : Option Addr} {v : Value} {l : List UInt8} (h : Bld W b p v l) : (convert 197 206 (.pointer (some ⟨b, 0, none⟩))).run Tryz.prog W = .ok (.pointer (some ⟨b, 0, none⟩)) W := by
  obtain ⟨j, hj, hs⟩ := Option.map_eq_some_iff.1 bld_size
  exact Lib.run_to_unsafe W ⟨b, 0, none⟩ Tryz.underlying197 Tryz.underlying206 hj (by rw [hs]; decide) h.shape (show 0 < 2 by decide)
theorem Bld.back {W : World} {b : Nat} {p : Option Addr} {v : Value} {l : List UInt8} (h : Bld W b p v l) : (convert 206 197 (.pointer (some ⟨b, 0, none⟩))).run Tryz.prog W = .ok (.pointer (some ⟨b, 0, none⟩)) W := by
  obtain ⟨j, hj, hs⟩ := Option.map_eq_some_iff.1 bld_size
  exact Lib.run_from_unsafe W ⟨b, 0, none⟩ Tryz.underlying206 Tryz.underlying197 hj h.shape bld_lies
theorem kept_ptr (x : Value) (W : World) : (callFunc 159 #[x]).run Tryz.prog W = .ok (.value x) W := by
  rw [run_callFunc_extern Tryz.func159 (by kernel_rfl) (by kernel_rfl) (by kernel_rfl) (e := Extern.AbiNoEscape.same) (by kernel_rfl), Lib.run_noEscape]
  rfl

set_option maxHeartbeats 1000000 in
theorem check_any (W : World) (b : Nat) (l : List UInt8) (h : Held6 W b l) :
    Calls Tryz.prog 157 #[.pointer (some ⟨b, 0, none⟩)] W fun e W' => e = .returned (.tuple #[]) ∧ (∃ v, Bld W' b (some ⟨b, 0, none⟩) v l) ∧ Below b W W' := by
  obtain ⟨p, v, hp, h⟩ := h
  obtain ⟨c0, _, cf⟩ := h.cells
  have h1 := h.away
  have h2 := h.back
  have h3 := kept_ptr (.pointer (some ⟨b, 0, none⟩)) W
  have h4 := ptr_same ⟨b, 0, none⟩ W
  have HB := Lib.hid h
  clear h
  rcases hp with rfl | rfl
  · go_enter Tryz.func157, Tryz.ntmps157
    go_wp2
    go_end0
    exact ⟨rfl, ⟨v, HB.out.point _⟩, (Below.refl b W).setCell (p := ⟨b, 0, none⟩) (Nat.le_refl _) _⟩
  · go_enter Tryz.func157, Tryz.ntmps157
    go_wp2
    go_end0
    exact ⟨rfl, ⟨v, HB.out⟩, Below.refl _ _⟩

/-- An append of a text whose run is known, as a step of a walk. -/
theorem wpList_append_text {P : Program} {w : World} {ops : Array Oper} {rest : List Oper} {o : Oper} {a : Act} {Q : Exit → Act → World → Prop}
    (hg : o.guard = none) (s x : Operand) (t u : TypeId) (hop : o.op = Op.call { callee := Callee.builtin Builtin.append, args := #[s, x], argTypes := #[t, u] })
    (v y v' : Value) (w' : World) (hs : a.eval s = v) (hx : a.eval x = y) (hrun : (Builtin.append_ #[t, u] o.type #[v, y]).run P w = .ok v' w')
    (hK : wpList P ops Q rest (a.put o.dst v') w') : wpList P ops Q (o :: rest) a w := by
  refine wpList_plain hg fun K hK' => ?_
  unfold Oper.wp
  simp [execOp, hop, resolve, invoke, builtin, hs, hx, hrun, Result.andThen]
  exact hK' _ _ hK
theorem text_info : (Tryz.prog.info? 5).map (fun i => (i.zero, i.size, i.bytes)) = some (some (.int .u8 0), 1, 1) := by kernel_rfl
/-- What the append of a text makes of the builder. -/
theorem Bld.more {W : World} {b : Nat} {p : Option Addr} {v : Value} {l : List UInt8} (h : Bld W b p v l) (s : ByteArray) (ty : TypeId) (hl : l.length + s.size ≤ 1000000) :
    ∃ q n c W', (Builtin.append_ #[35, 9] ty #[v, .string s]).run Tryz.prog W = .ok (.slice q n c) W' ∧ W'.heap[b]? = some (.cells #[.pointer p, v] 199 (0, 0)) ∧
      Bld (W'.setCell ⟨b, 1, none⟩ (.slice q n c)) b p (.slice q n c) (l ++ s.data.toList) ∧ Below b W (W'.setCell ⟨b, 1, none⟩ (.slice q n c)) := by
  obtain ⟨i0, hi, hz0, hz1, hz2⟩ := info_parts text_info
  have hlt := h.lt
  obtain ⟨v', W', r0, r1, r2, _⟩ := Lib.run_append_own_string (P := Tryz.prog) W (b + 1) 35 9 ty 5 i0 Tryz.underlying35 Tryz.underlying9 hi hz0 hz1 hz2 v _ _ h.own s (by unfold maxLen; omega) (by omega) (by omega)
  obtain ⟨q, n, c, rfl⟩ := own_slice r1
  have hk : W'.heap[b]? = some (.cells #[.pointer p, v] 199 (0, 0)) := (r2.block b hlt (fun e => by have := (h.own.lt b e.symm).1; omega)).trans h.two
  have hr : W'.ownsRow (b + 1) 5 1 (.slice q n c) (l ++ s.data.toList).length (bv (l ++ s.data.toList)) := by
    have e1 : bv (l ++ s.data.toList) = bv l ++ Lib.strCells s := by simp [bv, Lib.strCells]
    rw [e1, List.length_append, blen]
    exact r1
  refine ⟨q, n, c, W', r0, hk, ⟨heap_set _ hk, own_same hr fun k hk => Below.heap_setCell _ _ _ _ (by have := (hr.lt k hk).1; simp; omega)⟩, ?_⟩
  exact ((Below.refl b W).grown r2 (Nat.le_of_lt hlt) (fun k hk => by have := (h.own.lt k hk).1; omega)).setCell (p := ⟨b, 1, none⟩) (Nat.le_refl _) _

set_option maxHeartbeats 1000000 in
theorem write_any (W : World) (b : Nat) (l : List UInt8) (s : ByteArray) (h : Held6 W b l) (hl : l.length + s.size ≤ 1000000) :
    Calls Tryz.prog 154 #[.pointer (some ⟨b, 0, none⟩), .string s] W fun e W' => e = .returned (.tuple #[.int .i64 s.size, .nilIface]) ∧ Held6 W' b (l ++ s.data.toList) ∧ Below b W W' := by
  have hC := Lib.hid (check_any W b l h)
  have hlt : b < W.heap.size := by obtain ⟨p, v, _, h⟩ := h; exact h.lt
  clear h
  go_enter Tryz.func154, Tryz.ntmps154
  go_wp2_with fail
  refine hC.out.mono ?_
  rintro e W1 ⟨rfl, ⟨v, h1⟩, hb1⟩
  obtain ⟨c0, c1, _⟩ := h1.cells
  obtain ⟨q, n, c, W2, r0, r1, r2, r3⟩ := h1.more s 35 hl
  have d : W2.cell? ⟨b, 0, none⟩ = some (.pointer (some ⟨b, 0, none⟩)) ∧ W2.cell? ⟨b, 1, none⟩ = some v ∧ ∀ i, W2.frozen? ⟨b, i, none⟩ = false := by simp [World.cell?, World.frozen?, r1]
  obtain ⟨d0, d1, d2⟩ := d
  have R0 := Lib.hid r0
  have HE := Lib.hid (show Held6 (W2.setCell ⟨b, 1, none⟩ (.slice q n c)) b (l ++ s.data.toList) ∧ Below b W (W2.setCell ⟨b, 1, none⟩ (.slice q n c)) from ⟨⟨_, _, .inr rfl, r2⟩, hb1.trans r3⟩)
  clear r0 r1 r2 r3 h1 hb1 hC
  go_wp2_with (at_builtin; refine wpList_append_text rfl (.tmp 12) (.tmp 13) 35 9 rfl _ _ _ _ rfl rfl R0.out ?_)
  go_ret2
  exact ⟨rfl, HE.out⟩

end Go.Proofs.YtilebfpaibajcaaGreatDoor
