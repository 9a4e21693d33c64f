/- What the document's line answers. -/
import Derived.Test.YtilebfpaibajcaaGreatDoorBodyStep
namespace Go.Proofs.YtilebfpaibajcaaGreatDoor
open Go.ChangeShapes Go.WideShapes Go.ChangeAt Go.RowKit
open Oc Fl Bk Bd
set_option linter.unusedVariables false
set_option maxRecDepth 100000

/-- Blocks of a state, of limits, of a state that is nothing yet. -/
abbrev obS (p n c li si : Nat) (tx : List UInt8) (dv gv : Value) : Obj := .cells (stc p n c li si tx dv gv) 75
abbrev obL (l : Lim) : Obj := .cells #[.int .i64 (l.ext : Int), .int .i64 (l.fields : Int), .int .i64 (l.bytes : Int)] 80
abbrev obZ : Obj := .cells #[.int .i64 0, .int .u64 0, .int .i64 0, .int .i64 0, .int .i64 0, .string ⟨#[]⟩, .slice none 0 0, .slice none 0 0] 75
abbrev obB (b : UInt8) : Obj := .cells #[.int .u8 (b.toNat : Int)] 5

theorem cell_new (w : World) (x y z : Obj) (b : UInt8) : ((((w.alloc x).alloc y).alloc z).alloc (obB b)).cell? ⟨w.heap.size + 1 + 1 + 1, 0, none⟩ = some (.int .u8 (b.toNat : Int)) := by
  have := World.alloc_heap_new (((w.alloc x).alloc y).alloc z) (obB b)
  simp only [World.size_alloc] at this
  exact (one_cell this).1
theorem arr_snoc (tx : List UInt8) (b : UInt8) : arr tx ++ ⟨#[b]⟩ = arr (tx ++ [b]) := b_ext (by rw [arr_list]; simp [arr])

set_option maxHeartbeats 2000000 in
theorem line_full {p n c li si : Nat} {tx D : List UInt8} {fs : List Fld} {dv gv : Value} {b : UInt8} {l : Lim} (w : World) (hD : RD w dv D) (hF : FS w gv fs) (hs : l.bytes ≤ si) :
    Calls Tryz.prog 59 #[stv ⟨p, n, c, li, si, tx, D, fs⟩ dv gv, .int .u8 (b.toNat : Int), limv l] w fun e w' => e = .returned (.tuple #[stv ⟨p, n, c, li, si, tx, D, fs⟩ dv gv, .int .i64 5]) ∧ Below w.heap.size w w' := by
  obtain ⟨pd, cd, rfl, -⟩ := hD
  obtain ⟨pf, cf, rfl, -⟩ := RS.slice hF
  clear hF
  unfold stv limv stc
  simp only
  have hs' : (l.bytes : Int) ≤ (si : Int) := by omega
  go_enter Tryz.func59, Tryz.ntmps59
  go_wp2_with fail
  refine bodyPost_ret (results_two rfl _ _ (w.heap.size + 1 + 1) 75 _ (0, 0) _ rfl (box3 w _ _ _) Tryz.underlying75 rfl (by kernel_rfl)) rfl ?_
  exact ⟨rfl, below3 _ _ _ _⟩

set_option maxHeartbeats 4000000 in
theorem line_more {p n c li si : Nat} {tx D : List UInt8} {fs : List Fld} {dv gv : Value} {b : UInt8} {l : Lim} (w : World) (hD : RD w dv D) (hF : FS w gv fs) (hs : ¬ l.bytes ≤ si) (hl : l.bytes ≤ 65536) (htx : tx.length ≤ 1000000) (hp : b ≠ 10 ∨ p ≠ 9) :
    Calls Tryz.prog 59 #[stv ⟨p, n, c, li, si, tx, D, fs⟩ dv gv, .int .u8 (b.toNat : Int), limv l] w fun e w' => e = .returned (.tuple #[stv ⟨p, n, c, li, si + 1, tx ++ [b], D, fs⟩ dv gv, .int .i64 0]) ∧ Below w.heap.size w w' := by
  obtain ⟨pd, cd, rfl, -⟩ := hD
  obtain ⟨pf, cf, rfl, -⟩ := RS.slice hF
  clear hF
  unfold stv limv stc
  simp only
  have hs' : ¬ (l.bytes : Int) ≤ (si : Int) := by omega
  obtain ⟨q, hq⟩ : ∃ q, si + 1 = q := ⟨_, rfl⟩
  have hw : IntKind.i64.wrap ((si : Int) + 1) = (q : Int) := by rw [IntWalk.i64_in _ (by omega)]; omega
  rw [hq]
  have hcv : (convert 35 9 (.slice (some ⟨w.heap.size + 1 + 1 + 1, 0, none⟩) 1 1)).run Tryz.prog ((((w.alloc (obS p n c li q tx (.slice pd D.length cd) (.slice pf fs.length cf))).alloc (obL l)).alloc obZ).alloc (obB b)) = .ok (.string ⟨#[b]⟩) ((((w.alloc (obS p n c li q tx (.slice pd D.length cd) (.slice pf fs.length cf))).alloc (obL l)).alloc obZ).alloc (obB b)) := conv_one8 b _ _ (cell_new w _ _ _ b)
  have hadd : ∀ W, (Op.stringOp .add (arr tx) ⟨#[b]⟩).run Tryz.prog W = .ok (.string (arr (tx ++ [b]))) W := fun W => by
    rw [← arr_snoc]
    exact run_string_add_sum (P := Tryz.prog) (w := W) _ _ (by rw [arr_size]; show tx.length + 1 ≤ _; omega)
  simp only [obS, obL, obZ, obB, stc] at hcv
  generalize arr (tx ++ [b]) = tb at *
  generalize arr tx = ta at *
  clear hq hs hl htx
  by_cases h10 : b = 10
  · have hp9 : ((p : Int) != 9) = true := by unfold bne; rw [beq_eq_false_iff_ne.2 (by have := hp.resolve_left (fun h => h h10); omega)]; rfl
    have hne : ((b.toNat : Int) != 10) = false := by rw [h10]; rfl
    clear hp h10
    go_enter Tryz.func59, Tryz.ntmps59
    go_wp2_with fail
    refine bodyPost_ret (results_two rfl _ _ (w.heap.size + 1 + 1) 75 _ (0, 0) _ rfl (box4 w _ _ _ _) Tryz.underlying75 rfl (by kernel_rfl)) rfl ?_
    exact ⟨rfl, below4 _ _ _ _ _⟩
  · have hne : ((b.toNat : Int) != 10) = true := ub_nne h10
    clear hp
    go_enter Tryz.func59, Tryz.ntmps59
    go_wp2_with fail
    refine bodyPost_ret (results_two rfl _ _ (w.heap.size + 1 + 1) 75 _ (0, 0) _ rfl (box4 w _ _ _ _) Tryz.underlying75 rfl (by kernel_rfl)) rfl ?_
    exact ⟨rfl, below4 _ _ _ _ _⟩

end Go.Proofs.YtilebfpaibajcaaGreatDoor
