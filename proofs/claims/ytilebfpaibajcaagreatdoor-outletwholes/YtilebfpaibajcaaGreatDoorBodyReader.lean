/- The reader of a body in memory; next, giveUp, end. -/
import Derived.Test.YtilebfpaibajcaaGreatDoorME
import Derived.Test.YtilebfpaibajcaaGreatDoorHexaBody
import Derived.Test.YtilebfpaibajcaaGreatDoorMD
import Derived.Test.YtilebfpaibajcaaGreatDoorBlockScan
import Derived.Defers
import Derived.Recover
namespace Go.Proofs.YtilebfpaibajcaaGreatDoor
open Go.ChangeShapes Go.WideShapes Go.ChangeAt Go.RowKit
open Oc Fl Bk Bd
set_option linter.unusedVariables false
set_option maxRecDepth 100000

/-- All below B but the block R lies as it lay. -/
structure Solo (B R : Nat) (A W : World) : Prop where
  os : W.os = A.os
  tape : W.tape = A.tape
  output : W.output = A.output
  size : A.heap.size ≤ W.heap.size
  block : ∀ k, k < B → k ≠ R → W.heap[k]? = A.heap[k]?
theorem Solo.refl (B R : Nat) (A : World) : Solo B R A A := ⟨rfl, rfl, rfl, Nat.le_refl _, fun _ _ _ => rfl⟩
theorem Solo.trans {B R : Nat} {A W C : World} (h : Solo B R A W) (g : Solo B R W C) : Solo B R A C :=
  ⟨g.os.trans h.os, g.tape.trans h.tape, g.output.trans h.output, Nat.le_trans h.size g.size, fun k hk h0 => (g.block k hk h0).trans (h.block k hk h0)⟩
theorem Solo.of_below {B R : Nat} {A W : World} (h : Below A.heap.size A W) (hB : B ≤ A.heap.size) : Solo B R A W := ⟨h.os, h.tape, h.output, h.size, fun k hk _ => h.block k (by omega)⟩
theorem Solo.set {B R : Nat} {A W : World} (h : Solo B R A W) (i : Nat) (v : Value) : Solo B R A (W.setCell ⟨R, i, none⟩ v) := h.trans ⟨rfl, rfl, rfl, by simp [World.setCell], fun k _ h => Below.heap_setCell _ _ _ _ h⟩
theorem Solo.drewN {B R : Nat} {A W : World} (h : Solo B R A W) (m : Nat) : Solo B R A (W.drewN m) := ⟨h.os, h.tape, h.output, h.size, h.block⟩
theorem Solo.drew {B R : Nat} {A W : World} (h : Solo B R A W) : Solo B R A W.drew := ⟨h.os, h.tape, h.output, h.size, h.block⟩
theorem Solo.alloc {B R : Nat} {A W : World} (h : Solo B R A W) (hB : B ≤ W.heap.size) (o : Obj) : Solo B R A (W.alloc o) := h.trans (Solo.of_below (below_box W o) hB)

/-- The reader at block R: of the text T, which the slice tv reads as; within the limits l; at the place k; with the data D so far. -/
structure RAt (B R : Nat) (tv : Value) (T : List UInt8) (l : Lim) (k : Nat) (dv : Value) (D : List UInt8) (W : World) : Prop where
  blk : W.heap[R]? = some (.cells #[tv, .int .i64 (l.ext : Int), .int .i64 (l.fields : Int), .int .i64 (l.bytes : Int), .int .i64 (k : Int), dv, .slice none 0 0] 111 (0, 0))
  text : RD W tv T
  far : ∀ g, tv.ownBlock = some g → g < B ∧ g ≠ R
  own : W.ownsRow B 5 1 dv D.length (bv D)
  base : R < B ∧ B ≤ W.heap.size
  small : T.length ≤ 1099511627776 ∧ k ≤ T.length ∧ D.length ≤ k
  lims : l.ext ≤ 65536 ∧ l.fields ≤ 65536 ∧ l.bytes ≤ 65536

section
variable {B R : Nat} {tv : Value} {T : List UInt8} {l : Lim} {k : Nat} {dv : Value} {D : List UInt8} {W : World}
theorem RAt.c0 (h : RAt B R tv T l k dv D W) : W.cell? ⟨R, 0, none⟩ = some tv := by simp [World.cell?, h.blk]
theorem RAt.c1 (h : RAt B R tv T l k dv D W) : W.cell? ⟨R, 1, none⟩ = some (.int .i64 (l.ext : Int)) := by simp [World.cell?, h.blk]
theorem RAt.c2 (h : RAt B R tv T l k dv D W) : W.cell? ⟨R, 2, none⟩ = some (.int .i64 (l.fields : Int)) := by simp [World.cell?, h.blk]
theorem RAt.c3 (h : RAt B R tv T l k dv D W) : W.cell? ⟨R, 3, none⟩ = some (.int .i64 (l.bytes : Int)) := by simp [World.cell?, h.blk]
theorem RAt.c4 (h : RAt B R tv T l k dv D W) : W.cell? ⟨R, 4, none⟩ = some (.int .i64 (k : Int)) := by simp [World.cell?, h.blk]
theorem RAt.c5 (h : RAt B R tv T l k dv D W) : W.cell? ⟨R, 5, none⟩ = some dv := by simp [World.cell?, h.blk]
theorem RAt.f (h : RAt B R tv T l k dv D W) (i : Nat) : W.frozen? ⟨R, i, none⟩ = false := by simp [World.frozen?, h.blk]
theorem RAt.below {W' : World} (h : RAt B R tv T l k dv D W) (hb : Below W.heap.size W W') : RAt B R tv T l k dv D W' :=
  ⟨(hb.block _ (by have := h.base; omega)).trans h.blk, h.text.below hb, h.far, own_same h.own fun g hg => hb.block g (h.own.lt g hg).2, ⟨h.base.1, Nat.le_trans h.base.2 hb.size⟩, h.small, h.lims⟩
theorem RAt.drewN (h : RAt B R tv T l k dv D W) (m : Nat) : RAt B R tv T l k dv D (W.drewN m) := ⟨h.blk, h.text, h.far, h.own, h.base, h.small, h.lims⟩
/-- The place is written. -/
theorem RAt.put (h : RAt B R tv T l k dv D W) (k' : Nat) (hk : k ≤ k') (hk' : k' ≤ T.length) : RAt B R tv T l k' dv D (W.setCell ⟨R, 4, none⟩ (.int .i64 (k' : Int))) :=
  ⟨heap_set _ h.blk, h.text.kept fun g hg => Below.heap_setCell _ _ _ _ (h.far g hg).2, h.far, own_same h.own fun g hg => Below.heap_setCell _ _ _ _ (by have := (h.own.lt g hg).1; have := h.base; simp; omega),
   ⟨h.base.1, by simp [World.setCell]; exact h.base.2⟩, ⟨h.small.1, hk', by have := h.small; omega⟩, h.lims⟩
/-- The slice that the text lies in. -/
theorem RAt.slice (h : RAt B R tv T l k dv D W) : ∃ p cap, tv = .slice p T.length cap ∧ T.length ≤ cap ∧ ∀ (i : Nat) (b : UInt8), T[i]? = some b → ∃ ad, p = some ad ∧ W.cell? (ad.add i) = some (.int .u8 (b.toNat : Int)) := by
  obtain ⟨p, cap, e, h1, h2, h3, h4⟩ := h.text
  refine ⟨p, cap, e, h1, fun i b hb => ?_⟩
  cases p with
  | none =>
    have := h3 rfl
    have := (List.getElem?_eq_some_iff.1 hb).1
    omega
  | some ad => exact ⟨ad, rfl, h4 ad rfl i b hb⟩
end

/-- A panic of the reader's own. -/
abbrev threw (e : Nat) : Ending := .panicked [{ v := .iface 29 (.int .i64 (e : Int)), recovered := false }]

theorem giveUp_any (p : Value) (e : Int) (w : World) :
    Calls Tryz.prog 76 #[p, .int .i64 e] w fun x w' => x = .panicked [{ v := .iface 29 (.int .i64 e), recovered := false }] ∧ w' = w := by
  go_enter Tryz.func76, Tryz.ntmps76
  go_wp2_with fail
  exact ⟨rfl, rfl, rfl⟩

set_option maxHeartbeats 2000000 in
theorem next_end {B R : Nat} {tv : Value} {T : List UInt8} {l : Lim} {k : Nat} {dv : Value} {D : List UInt8} (w : World) (h : RAt B R tv T l k dv D w) (hk : T.length ≤ k) :
    Calls Tryz.prog 80 #[.pointer (some ⟨R, 0, none⟩)] w fun x w' => x = .panicked [{ v := .iface 29 (.int .i64 4), recovered := false }] ∧ ∃ m, w' = w.drewN m := by
  have c0 := h.c0
  have c4 := h.c4
  obtain ⟨p, cap, rfl, hc, -⟩ := h.slice
  obtain rfl : k = T.length := by have := h.small; omega
  clear h
  go_enter Tryz.func80, Tryz.ntmps80
  go_wp2_with fail
  go_quiet (fail)
  go_wp2_with (go_at_call 76; refine (giveUp_any _ _ _).mono ?_; rintro e w' ⟨rfl, rfl⟩)
  exact ⟨rfl, rfl, _, rfl⟩

set_option maxHeartbeats 2000000 in
theorem next_byte {B R : Nat} {tv : Value} {T : List UInt8} {l : Lim} {k : Nat} {dv : Value} {D : List UInt8} (w : World) (h : RAt B R tv T l k dv D w) {b : UInt8} (hb : T[k]? = some b) :
    Calls Tryz.prog 80 #[.pointer (some ⟨R, 0, none⟩)] w fun x w' => x = .returned (.int .u8 (b.toNat : Int)) ∧ ∃ m, w' = w.drewN m := by
  have c0 := h.c0
  have c4 := h.c4
  obtain ⟨p, cap, rfl, hc, hat⟩ := h.slice
  obtain ⟨ad, rfl, hcell⟩ := hat k b hb
  have hlt := (List.getElem?_eq_some_iff.1 hb).1
  have k1 : (0 : Int) ≤ (k : Int) := by omega
  have k2 : (k : Int) < (T.length : Int) := by omega
  have hne : ((k : Int) == (T.length : Int)) = false := beq_eq_false_iff_ne.2 (by omega)
  clear h hat hb
  go_enter Tryz.func80, Tryz.ntmps80
  go_wp2_with fail
  go_quiet (fail)
  go_wp2_with fail
  go_quiet (fail)
  go_wp2_with fail
  go_ret
  exact ⟨rfl, _, by first | rfl | exact World.drewN_drewN ..⟩

end Go.Proofs.YtilebfpaibajcaaGreatDoor
