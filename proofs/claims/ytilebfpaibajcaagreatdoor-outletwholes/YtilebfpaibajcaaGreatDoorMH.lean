/- MH: EncFixEnd, OutConcat, OutAt, OutPut, OutEnd in one. -/
import Derived.Test.YtilebfpaibajcaaGreatDoorEncFix
import Derived.Test.YtilebfpaibajcaaGreatDoorMD
import Derived.Lib.AppendZeros
import Derived.Test.YtilebfpaibajcaaGreatDoorMG
import Derived.ArgAppend
import Derived.Deep.RegionHeld3
import Derived.Test.YtilebfpaibajcaaGreatDoorMC
/- An encoder of a size: made, asked, ended. -/
namespace Go.Proofs.YtilebfpaibajcaaGreatDoor
open Go.ChangeShapes Go.WideShapes Go.ChangeAt Go.RowKit
open Oc Fl Bk Bd
set_option linter.unusedVariables false
set_option maxRecDepth 100000

set_option maxHeartbeats 1000000 in
theorem fixLeft_any (R K size d : Nat) (w : World) (h : FixAt R K size d w) :
    Calls Tryz.prog 44 #[.pointer (some ⟨R, 0, none⟩)] w fun e w' => e = .returned (.int .u64 ((size - d : Nat) : Int)) ∧ Below w.heap.size w w' := by
  have HP := Lib.hid (fleft_any R K size d w h)
  have hR := h.enc
  have c0 : w.cell? ⟨R, 0, none⟩ = some (.iface 87 (.pointer (some ⟨K, 0, none⟩))) := by simp [World.cell?, hR]
  clear h hR
  generalize size - d = s at *
  go_enter Tryz.func44, Tryz.ntmps44
  go_wp2_with fail
  refine HP.out.mono ?_
  rintro e w1 ⟨rfl, m, rfl⟩
  have HB := Lib.hid (drewN_below8 w m)
  go_wp2_with fail
  go_ret
  exact ⟨rfl, HB.out⟩

theorem nothing_nil (w : World) : Calls Tryz.prog 140 #[.slice none 0 0] w fun e w' => e = .returned (.tuple #[.slice none 0 0, .int .i64 0]) ∧ Below w.heap.size w w' := by
  go_enter Tryz.func140, Tryz.ntmps140
  go_wp2_with fail
  go_loopw [8] (fun i wr => i = .int .i64 0 ∧ wr = w) (fun i _ => 1)
  case atStart => exact ⟨rfl, rfl⟩
  case round =>
    obtain ⟨rfl, rfl⟩ := hrel
    go_wp2_with fail
    go_ret2
    exact ⟨rfl, Below.refl _ _⟩

/-- What the end of it answers where no trailer is said. -/
def fixEndE (size d : Nat) : Nat := if d < size then 4 else 0
set_option maxHeartbeats 1000000 in
theorem fend_any (R K size d : Nat) (w : World) (h : FixAt R K size d w) :
    Calls Tryz.prog 136 #[.pointer (some ⟨K, 0, none⟩), .slice none 0 0] w fun e w' => e = .returned (.tuple #[.slice none 0 0, .int .i64 (fixEndE size d : Int)]) ∧ Below w.heap.size w w' := by
  have HP := Lib.hid (fleft_any R K size d w h)
  have hle := h.le
  have hbg := h.big
  clear h
  by_cases hd : d < size
  · rw [show fixEndE size d = 4 from if_pos hd]
    have h0 : (0 : Int) < ((size - d : Nat) : Int) := by omega
    generalize size - d = s at *
    go_enter Tryz.func136, Tryz.ntmps136
    go_wp2_with fail
    refine HP.out.mono ?_
    rintro e w1 ⟨rfl, m, rfl⟩
    have HB := Lib.hid (drewN_below8 w m)
    go_wp2_with fail
    go_ret2
    exact ⟨rfl, HB.out⟩
  · rw [show fixEndE size d = 0 from if_neg hd]
    rw [show size - d = 0 from by omega] at HP
    go_enter Tryz.func136, Tryz.ntmps136
    go_wp2_with fail
    refine HP.out.mono ?_
    rintro e w1 ⟨rfl, m, rfl⟩
    have HN := Lib.hid (nothing_nil (w.drewN m))
    have HB := Lib.hid (drewN_below8 w m)
    go_wp2_with fail
    refine HN.out.mono ?_
    rintro e w2 ⟨rfl, hb⟩
    have HC := Lib.hid (ahead HB.out hb)
    clear hb
    go_wp2_with fail
    go_ret2
    exact ⟨rfl, HC.out⟩

set_option maxHeartbeats 1000000 in
theorem fixEnd_any (R K size d : Nat) (w : World) (h : FixAt R K size d w) :
    Calls Tryz.prog 25 #[.pointer (some ⟨R, 0, none⟩), .slice none 0 0] w fun e w' => e = .returned (.tuple #[.slice none 0 0, .int .i64 (fixEndE size d : Int)]) ∧ ∀ B, B ≤ w.heap.size → B ≤ R → Below B w w' := by
  have HP := Lib.hid (fend_any R K size d w h)
  have hR := h.enc
  have c0 : w.cell? ⟨R, 0, none⟩ = some (.iface 87 (.pointer (some ⟨K, 0, none⟩))) := by simp [World.cell?, hR]
  have c1 : w.cell? ⟨R, 1, none⟩ = some (.bool false) := by simp [World.cell?, hR]
  have HR := Lib.hid hR
  clear h hR
  have key : ∀ w1 : World, Below w.heap.size w w1 → ∀ v, ∀ B, B ≤ w.heap.size → B ≤ R → Below B w (w1.setCell ⟨R, 1, none⟩ v) := fun w1 hb v B h1 h2 => (hb.mono h1).setCell (p := ⟨R, 1, none⟩) h2 _
  have HK := Lib.hid key
  clear key
  have g2 : ∀ w1 : World, Below w.heap.size w w1 → w1.cell? ⟨R, 1, none⟩ = some (.bool false) ∧ w1.frozen? ⟨R, 1, none⟩ = false := fun w1 hb => by
    have := (hb.block R (Array.getElem?_eq_some_iff.1 HR.out).1).trans HR.out
    simp [World.cell?, World.frozen?, this]
  have HG := Lib.hid g2
  clear g2
  have he : fixEndE size d = 4 ∨ fixEndE size d = 0 := by unfold fixEndE; split <;> simp
  rcases he with he | he
  · rw [he] at HP ⊢
    clear he
    go_enter Tryz.func25, Tryz.ntmps25
    go_wp2_with fail
    refine HP.out.mono ?_
    rintro e w1 ⟨rfl, hb⟩
    obtain ⟨q0, q1⟩ := HG.out w1 hb
    have HQ := Lib.hid (HK.out w1 hb)
    clear hb HP
    go_wp2_with fail
    go_ret2
    exact ⟨rfl, HQ.out _⟩
  · rw [he] at HP ⊢
    clear he
    go_enter Tryz.func25, Tryz.ntmps25
    go_wp2_with fail
    refine HP.out.mono ?_
    rintro e w1 ⟨rfl, hb⟩
    obtain ⟨q0, q1⟩ := HG.out w1 hb
    have HQ := Lib.hid (HK.out w1 hb)
    clear hb HP
    go_wp2_with fail
    go_ret2
    exact ⟨rfl, HQ.out _⟩

set_option maxHeartbeats 1000000 in
theorem fixNew_any (size : Nat) (w : World) (h : size ≤ 4611686018427387903) :
    Calls Tryz.prog 24 #[.agg #[.int .i64 1, .int .u64 (size : Int)]] w fun e w' => ∃ R K, e = .returned (.tuple #[.pointer (some ⟨R, 0, none⟩), .int .i64 0]) ∧ FixAt R K size 0 w' ∧ Below w.heap.size w w' ∧ w.heap.size ≤ R ∧ w.heap.size ≤ K := by
  obtain ⟨w1, hw1⟩ : ∃ w1, w.alloc (.cells #[.int .i64 1, .int .u64 (size : Int)] 24) = w1 := ⟨_, rfl⟩
  obtain ⟨w2, hw2⟩ : ∃ w2, w1.alloc (.cells #[.int .i64 0, .int .u64 (size : Int)] 91) = w2 := ⟨_, rfl⟩
  obtain ⟨w3, hw3⟩ : ∃ w3, w2.alloc (.cells #[.iface 87 (.pointer (some ⟨w1.heap.size, 0, none⟩)), .bool false] 73) = w3 := ⟨_, rfl⟩
  have b1 : Below w.heap.size w w1 := by rw [← hw1]; exact below_box _ _
  have b2 : Below w1.heap.size w1 w2 := by rw [← hw2]; exact below_box _ _
  have b3 : Below w2.heap.size w2 w3 := by rw [← hw3]; exact below_box _ _
  have z1 : w1.heap.size = w.heap.size + 1 := by rw [← hw1]; simp
  have z2 : w2.heap.size = w1.heap.size + 1 := by rw [← hw2]; simp
  have hQ : FixAt w2.heap.size w1.heap.size size 0 w3 ∧ Below w.heap.size w w3 ∧ w.heap.size ≤ w2.heap.size ∧ w.heap.size ≤ w1.heap.size := by
    refine ⟨⟨?_, ?_, by omega, by omega, h⟩, ahead (ahead b1 b2) b3, by omega, by omega⟩
    · rw [← hw3]; exact World.alloc_heap_new w2 _
    · rw [b3.block _ (by omega), ← hw2]; exact World.alloc_heap_new w1 _
  rw [z2, z1] at hQ
  rw [z1] at hw3
  rw [← hw3, ← hw2, ← hw1] at hQ
  have HQ := Lib.hid hQ
  have hs : (size : Int) ≤ 4611686018427387903 := by omega
  clear b1 b2 b3 z1 z2 hQ hw1 hw2 hw3
  go_enter Tryz.func24, Tryz.ntmps24
  go_wp2_with fail
  go_ret2
  exact ⟨w.heap.size + 1 + 1, w.heap.size + 1, rfl, HQ.out⟩

end Go.Proofs.YtilebfpaibajcaaGreatDoor

/- What slices.Grow of nothing and slices.Concat of slices of bytes answer: bytes of the call's own. -/
namespace Go.Proofs.YtilebfpaibajcaaGreatDoor
open Go.ChangeShapes Go.WideShapes Go.ChangeAt Go.RowKit
open Oc Fl Bk
set_option linter.unusedVariables false
set_option maxRecDepth 100000

set_option maxHeartbeats 2000000 in
theorem grow14_any (n : Nat) (hn : n ≤ 1000000) (w : World) :
    Calls Tryz.prog 40 #[.slice none 0 0, .int .i64 (n : Int)] w fun e w' => ∃ v, e = .returned v ∧ w'.ownsRow w.heap.size 5 1 v 0 [] ∧ Below w.heap.size w w' := by
  by_cases h0 : n = 0
  · subst h0
    go_enter Tryz.func40, Tryz.ntmps40
    go_wp2_with fail
    go_ret
    exact ⟨_, rfl, World.ownsRow_nil _ _ _ _, Below.refl _ _⟩
  · obtain ⟨i0, hi, hz0, hz1, hz2⟩ := info_parts byte_info
    have hrun := fun ty => Lib.run_append_nil_zeros w 35 3 ty 5 i0 _ .i64 .i64 Tryz.underlying35 Tryz.underlying3 hi hz0 n (by omega) (by omega) (by omega) (by rw [hz2]; omega)
    have g1 := grownCap_ge w n 0 5
    have g2 := grownCap_le_maxLen w n 0 5 (by simp only [maxLen]; omega)
    have hQ : ∀ G, grownCap w n 0 5 = G → (w.drew.alloc (.cells (Builtin.zeroCells (Value.int IntKind.u8 0).cells n ++ Builtin.zeroCells (Value.int IntKind.u8 0).cells (G - n)) 5)).ownsRow w.heap.size 5 1 (.slice (some ⟨w.heap.size, 0, none⟩) 0 G) 0 [] ∧
        Below w.heap.size w (w.drew.alloc (.cells (Builtin.zeroCells (Value.int IntKind.u8 0).cells n ++ Builtin.zeroCells (Value.int IntKind.u8 0).cells (G - n)) 5)) := fun G hG => by
      refine ⟨World.ownsRow_made w.drew _ G (Nat.le_refl _) (by rw [← hG]; exact g2) ?_, ?_⟩
      · rw [hG] at g1
        simp [Builtin.zeroCells, Value.cells]
        omega
      · exact ahead ((Below.refl _ _).drew) (below_box w.drew _)
    have HQ := Lib.hid hQ
    clear hQ
    obtain ⟨G, hG⟩ : ∃ G, grownCap w n 0 5 = G := ⟨_, rfl⟩
    have HQ2 := Lib.hid (HQ.out G hG)
    rw [hG] at hrun g1 g2
    have HR := Lib.hid hrun
    have hG63 : (G : Int) ≤ 9223372036854775807 := by simp only [maxLen] at g2; omega
    have hn1 : (0 : Int) < (n : Int) := by omega
    have hn2 : ¬ (n : Int) < 0 := by omega
    have hw : IntKind.i64.wrap ((n : Int) - 0) = (n : Int) := by rw [Int.sub_zero]; exact IntWalk.i64_in _ (by omega)
    clear hrun hG HQ g1 g2 h0 hi hz0 hz1 hz2
    go_enter Tryz.func40, Tryz.ntmps40
    go_wp2_with (at_builtin; refine Lib.wpList_append_run _ rfl (.tmp 20) (.tmp 21) _ _ rfl _ _ rfl rfl _ _ (HR.out _) ?_)
    go_ret
    exact ⟨_, rfl, HQ2.out⟩

set_option maxHeartbeats 4000000 in
theorem concat14_any (cs : List (List UInt8)) (p : Option Addr) (c : Nat) (w : World) (hC : CS w (.slice p cs.length c) cs) (hl : cs.flatten.length ≤ 1000000) (hn : cs.length ≤ 1000000) :
    Calls Tryz.prog 27 #[.slice p cs.length c] w fun x w' => ∃ v, x = .returned v ∧ Own10 w w' v cs.flatten := by
  have HC := Lib.hid hC
  clear hC
  go_enter Tryz.func27, Tryz.ntmps27
  go_wp2_with fail
  go_loopw [3, 11] (fun s i wr => ∃ (k m : Nat), k ≤ cs.length ∧ i = .int .i64 k ∧ s = .int .i64 m ∧ Hid ((cs.take k).flatten.length = m) ∧ w = wr) (fun _ i _ => cs.length - (intOf i).toNat)
  case atStart => exact ⟨0, 0, Nat.zero_le _, rfl, rfl, Lib.hid (by simp), rfl⟩
  case round =>
    obtain ⟨k, m, hk, rfl, rfl, HM, rfl⟩ := hrel
    have hfk := flat_take cs k
    rw [HM.out] at hfk
    by_cases hlt : k < cs.length
    · obtain ⟨x, hx⟩ : ∃ x, cs[k]? = some x := ⟨_, List.getElem?_eq_getElem hlt⟩
      obtain ⟨-, ad, pu, cu, rfl, c0, hu⟩ := HC.out.at hx
      have hxl := flat_mem (List.mem_of_getElem? hx)
      have hsn := flat_snoc hx
      rw [HM.out] at hsn
      have HN := Lib.hid hsn
      have hw : IntKind.i64.wrap ((m : Int) + (x.length : Int)) = ((m + x.length : Nat) : Int) := by rw [IntWalk.i64_in _ (by omega)]; omega
      have hnn : ¬ ((m + x.length : Nat) : Int) < 0 := by omega
      clear hu hx hsn
      generalize m + x.length = m2 at *
      go_wp2_with fail
      go_roundw
      case rel => exact ⟨k + 1, m2, by omega, by go_num, rfl, HN, trivial⟩
      case measure => simp [intOf]; omega
    · obtain rfl : k = cs.length := by omega
      rw [List.take_length] at HM
      have HG := Lib.hid (grow14_any m (by omega) w)
      go_wp2_with fail
      refine HG.out.mono ?_
      rintro e w1 ⟨v1, rfl, ho1, hb1⟩
      have HO := Lib.hid (And.intro ho1 hb1)
      clear ho1 hb1 HG HM hfk hlt hk
      go_wp2_with fail
      go_loopw [6, 27] (fun v i wr => ∃ (k : Nat), k ≤ cs.length ∧ i = .int .i64 k ∧ Hid (wr.ownsRow w.heap.size 5 1 v (cs.take k).flatten.length (bv (cs.take k).flatten) ∧ Below w.heap.size w wr)) (fun _ i _ => cs.length - (intOf i).toNat)
      case atStart => exact ⟨0, Nat.zero_le _, rfl, HO⟩
      case round =>
        clear HO
        obtain ⟨k, hk, rfl, HB⟩ := hrel
        have hfk := flat_take cs k
        by_cases hlt : k < cs.length
        · obtain ⟨x, hx⟩ : ∃ x, cs[k]? = some x := ⟨_, List.getElem?_eq_getElem hlt⟩
          obtain ⟨-, ad, pu, cu, rfl, c0, hu⟩ := (HC.out.below HB.out.2).at hx
          have hxl := flat_mem (List.mem_of_getElem? hx)
          have e1 : (cs.take (k + 1)).flatten = (cs.take k).flatten ++ x := by rw [List.take_add_one, hx]; simp
          obtain ⟨v', w', hrun, hown, hg⟩ := run_append_rd wr 35 w.heap.size _ _ _ _ _ HB.out.1 hu (by omega) HB.out.2.size
          have HN := Lib.hid (And.intro (show w'.ownsRow w.heap.size 5 1 v' (cs.take (k + 1)).flatten.length (bv (cs.take (k + 1)).flatten) by rw [e1]; simpa [bv] using hown) (HB.out.2.grown hg HB.out.2.size (fun k hk => (HB.out.1.lt k hk).1)))
          have HR := Lib.hid hrun
          clear hown hg hu hx e1 hrun
          go_wp2_with (at_builtin; refine wpList_append_run rfl (.tmp 31) (.tmp 32) 35 rfl _ _ _ _ rfl rfl HR.out ?_)
          go_roundw
          case rel => exact ⟨k + 1, by omega, by go_num, HN⟩
          case measure => simp [intOf]; omega
        · obtain rfl : k = cs.length := by omega
          rw [List.take_length] at *
          go_wp2_with fail
          go_ret
          exact ⟨_, rfl, Own10.of_row HB.out.1 HB.out.2⟩

end Go.Proofs.YtilebfpaibajcaaGreatDoor

/- The program's outlet: where it lies; the byte that it keeps, what it counts. -/
namespace Go.Proofs.YtilebfpaibajcaaGreatDoor
open Go.ChangeShapes Go.WideShapes Go.ChangeAt Go.RowKit
open Oc Fl Bk Bd Ft Ot
set_option linter.unusedVariables false
set_option maxRecDepth 100000

namespace Ot
def fixK : K10 → Bool
  | .fix _ => true
  | _ => false
/-- Is a byte kept? -/
def keptB (o : Rs) : Bool := !o.shut && decide (o.W < o.A.length)
/-- Will the last one be kept? -/
def kpt (E : Es) (T : List UInt8) : Bool :=
  match E.k with
  | .fix s => decide (s ≤ E.d) && decide (0 < T.length)
  | _ => false
end Ot
def keptV (O : Nat) (o : Rs) : Value := if keptB o = true then .slice (some ⟨O, 2, none⟩) 1 1 else .slice none 0 0
/-- The six cells. -/
def outCells (R : Nat) (fx : Bool) (rm : UInt8) (kv : Value) (n : Nat) (sh : Bool) : Array Value := #[.pointer (some ⟨R, 0, none⟩), .bool fx, .int .u8 (rm.toNat : Int), kv, .int .i64 (n : Int), .bool sh]

/-- An outlet lies at the block O, its encoder at R, what this counts at K. -/
structure OuAt (O R K : Nat) (o : Rs) (W : World) : Prop where
  blk : ∃ rm : UInt8, W.heap[O]? = some (.cells (outCells R (fixK o.E.k) rm (keptV O o) o.W o.shut) 56 (0, 0)) ∧ (keptB o = true → o.A.drop o.W = [rm])
  enc : EnAt R K o.E W
  neR : O ≠ R
  neK : O ≠ K
theorem OuAt.lt {O R K : Nat} {o : Rs} {W : World} (h : OuAt O R K o W) : O < W.heap.size := by obtain ⟨rm, h1, -⟩ := h.blk; exact (Array.getElem?_eq_some_iff.1 h1).1
theorem OuAt.keep {O R K : Nat} {o : Rs} {W W' : World} (h : OuAt O R K o W) (h1 : W'.heap[O]? = W.heap[O]?) (h2 : W'.heap[R]? = W.heap[R]?) (h3 : W'.heap[K]? = W.heap[K]?) : OuAt O R K o W' := by
  obtain ⟨rm, e1, e2⟩ := h.blk
  exact ⟨⟨rm, h1.trans e1, e2⟩, h.enc.keep h2 h3, h.neR, h.neK⟩
theorem OuAt.below {O R K : Nat} {o : Rs} {W W' : World} (h : OuAt O R K o W) (hb : Below W.heap.size W W') : OuAt O R K o W' := h.keep (hb.block O h.lt) (hb.block R h.enc.ltR) (hb.block K h.enc.ltK)
/-- Its cells. -/
theorem out_cells {O R n : Nat} {fx sh : Bool} {rm : UInt8} {kv : Value} {W : World} (h : W.heap[O]? = some (.cells (outCells R fx rm kv n sh) 56 (0, 0))) :
    (W.cell? ⟨O, 0, none⟩ = some (.pointer (some ⟨R, 0, none⟩)) ∧ W.cell? ⟨O, 1, none⟩ = some (.bool fx) ∧ W.cell? ⟨O, 2, none⟩ = some (.int .u8 (rm.toNat : Int)) ∧ W.cell? ⟨O, 3, none⟩ = some kv ∧ W.cell? ⟨O, 4, none⟩ = some (.int .i64 (n : Int)) ∧ W.cell? ⟨O, 5, none⟩ = some (.bool sh)) ∧ ∀ i, W.frozen? ⟨O, i, none⟩ = false := by
  simp [World.cell?, World.frozen?, h, outCells]

/-- Of what lay before only three blocks are written. -/
structure Sol3 (O R K : Nat) (A B : World) : Prop where
  os : B.os = A.os
  tape : B.tape = A.tape
  output : B.output = A.output
  size : A.heap.size ≤ B.heap.size
  block : ∀ k, k < A.heap.size → k ≠ O → k ≠ R → k ≠ K → B.heap[k]? = A.heap[k]?
theorem Sol3.trans {O R K : Nat} {A B C : World} (h : Sol3 O R K A B) (g : Sol3 O R K B C) : Sol3 O R K A C :=
  ⟨g.os.trans h.os, g.tape.trans h.tape, g.output.trans h.output, Nat.le_trans h.size g.size, fun k hk h0 h1 h2 => (g.block k (Nat.lt_of_lt_of_le hk h.size) h0 h1 h2).trans (h.block k hk h0 h1 h2)⟩
theorem Sol3.of_below {O R K : Nat} {A B : World} (h : Below A.heap.size A B) : Sol3 O R K A B := ⟨h.os, h.tape, h.output, h.size, fun k hk _ _ _ => h.block k hk⟩
theorem Sol3.of_enc {O R K : Nat} {A B : World} (h : Sol2 R K A B) : Sol3 O R K A B := ⟨h.os, h.tape, h.output, h.size, fun k hk _ h1 h2 => h.block k hk h1 h2⟩
theorem Sol3.set (O R K i : Nat) (v : Value) (A : World) : Sol3 O R K A (A.setCell ⟨O, i, none⟩ v) := ⟨rfl, rfl, rfl, by simp [World.setCell], fun k _ h _ _ => Below.heap_setCell _ _ _ _ h⟩
theorem Sol3.below {O R K n : Nat} {w A B : World} (h : Sol3 O R K A B) (hb : Below n w A) (hO : n ≤ O) (hR : n ≤ R) (hK : n ≤ K) (hs : n ≤ A.heap.size) : Below n w B :=
  hb.trans ⟨h.os, h.tape, h.output, h.size, fun k hk => h.block k (by omega) (by omega) (by omega) (by omega)⟩

/-- What a call leaves of an outlet: it, bytes in memory of the call's own. -/
structure OuQ (O R K : Nat) (o : Rs) (w w' : World) (v : Value) (ys : List UInt8) : Prop where
  at_ : OuAt O R K o w'
  rd : RD w' v ys
  sol : Sol3 O R K w w'
  own : ∀ g, v.ownBlock = some g → w.heap.size ≤ g ∧ g < w'.heap.size
theorem OuQ.none {O R K : Nat} {o : Rs} {w w' : World} (h : OuAt O R K o w) (hb : Below w.heap.size w w') : OuQ O R K o w w' (.slice none 0 0) [] :=
  ⟨h.below hb, RD.nil _, Sol3.of_below hb, fun g hg => by simp [Value.ownBlock] at hg⟩

set_option maxHeartbeats 1000000 in
theorem count14_any (O R n m c : Nat) (fx sh : Bool) (rm : UInt8) (kv : Value) (p : Option Addr) (w : World) (h : w.heap[O]? = some (.cells (outCells R fx rm kv n sh) 56 (0, 0))) (hb : n + m ≤ 9223372036854775807) :
    Calls Tryz.prog 29 #[.pointer (some ⟨O, 0, none⟩), .slice p m c] w fun e w' => e = .returned (.slice p m c) ∧ w' = w.setCell ⟨O, 4, none⟩ (.int .i64 ((n + m : Nat) : Int)) := by
  obtain ⟨⟨c0, c1, c2, c3, c4, c5⟩, hf⟩ := out_cells h
  have f4 := hf 4
  have hw : IntKind.i64.wrap ((n : Int) + (m : Int)) = ((n + m : Nat) : Int) := by rw [IntWalk.i64_in _ (by omega)]; omega
  clear h hf c0 c1 c2 c3 c5
  generalize n + m = k at *
  go_enter Tryz.func29, Tryz.ntmps29
  go_wp2_with fail
  go_ret
  exact ⟨rfl, rfl⟩

set_option maxHeartbeats 1000000 in
theorem close14_any (O R n : Nat) (fx sh : Bool) (rm : UInt8) (kv : Value) (w : World) (h : w.heap[O]? = some (.cells (outCells R fx rm kv n sh) 56 (0, 0))) :
    Calls Tryz.prog 28 #[.pointer (some ⟨O, 0, none⟩)] w fun e w' => e = .returned (.tuple #[]) ∧ w' = (w.setCell ⟨O, 5, none⟩ (.bool true)).setCell ⟨O, 3, none⟩ (.slice none 0 0) := by
  obtain ⟨⟨c0, c1, c2, c3, c4, c5⟩, hf⟩ := out_cells h
  have f3 := hf 3
  have f5 := hf 5
  have h5 := heap_set (i := 5) (.bool true) h
  have d3 : (w.setCell ⟨O, 5, none⟩ (.bool true)).cell? ⟨O, 3, none⟩ = some kv := by simp [World.cell?, h5, outCells]
  have g3 : (w.setCell ⟨O, 5, none⟩ (.bool true)).frozen? ⟨O, 3, none⟩ = false := by simp [World.frozen?, h5]
  clear h hf c0 c1 c2 c4 h5
  go_enter Tryz.func28, Tryz.ntmps28
  go_wp2_with fail
  go_end0
  exact ⟨rfl, rfl⟩

/-- Nothing is kept of it. -/
theorem keep14_free (O R n m c : Nat) (sh : Bool) (rm : UInt8) (kv : Value) (p : Option Addr) (w : World) (h : w.heap[O]? = some (.cells (outCells R false rm kv n sh) 56 (0, 0))) :
    Calls Tryz.prog 33 #[.pointer (some ⟨O, 0, none⟩), .slice p m c] w fun e w' => e = .returned (.slice p m c) ∧ w = w' := by
  obtain ⟨⟨c0, c1, c2, c3, c4, c5⟩, hf⟩ := out_cells h
  clear h hf c0 c2 c3 c4 c5
  go_enter Tryz.func33, Tryz.ntmps33
  go_wp2_with fail
  go_ret
  exact ⟨rfl, rfl⟩

set_option maxHeartbeats 1000000 in
theorem keep14_more (O R K n m c s d : Nat) (sh : Bool) (rm : UInt8) (kv : Value) (p : Option Addr) (w : World) (h : w.heap[O]? = some (.cells (outCells R true rm kv n sh) 56 (0, 0))) (hE : FixAt R K s d w) (hm : d < s ∨ m = 0) :
    Calls Tryz.prog 33 #[.pointer (some ⟨O, 0, none⟩), .slice p m c] w fun e w' => e = .returned (.slice p m c) ∧ Below w.heap.size w w' := by
  obtain ⟨⟨c0, c1, c2, c3, c4, c5⟩, hf⟩ := out_cells h
  have HL := Lib.hid (fixLeft_any R K s d w hE)
  clear h hf hE c2 c3 c4 c5
  by_cases hd : d < s
  · have h0 : (0 : Int) < ((s - d : Nat) : Int) := by omega
    clear hm hd
    generalize s - d = x at *
    go_enter Tryz.func33, Tryz.ntmps33
    go_wp2_with fail
    refine HL.out.mono ?_
    rintro e w1 ⟨rfl, hb1⟩
    have B1 := Lib.hid hb1
    clear hb1
    go_wp2_with fail
    go_ret
    exact ⟨rfl, B1.out⟩
  · obtain rfl : m = 0 := by omega
    rw [show s - d = 0 from by omega] at HL
    clear hm hd
    go_enter Tryz.func33, Tryz.ntmps33
    go_wp2_with fail
    refine HL.out.mono ?_
    rintro e w1 ⟨rfl, hb1⟩
    have B1 := Lib.hid hb1
    clear hb1
    go_wp2_with fail
    go_ret
    exact ⟨rfl, B1.out⟩

set_option maxHeartbeats 4000000 in
/-- The last byte is kept. -/
theorem keep14_kept (O R K n c s d : Nat) (xs : List UInt8) (x : UInt8) (sh : Bool) (rm : UInt8) (kv : Value) (ad : Addr) (w : World) (h : w.heap[O]? = some (.cells (outCells R true rm kv n sh) 56 (0, 0))) (hE : FixAt R K s d w) (hd : s ≤ d)
    (hx : RD w (.slice (some ad) (xs.length + 1) c) (xs ++ [x])) (hc : xs.length + 1 ≤ c) (hl : xs.length ≤ 1000000) (had : ad.block ≠ O) :
    Calls Tryz.prog 33 #[.pointer (some ⟨O, 0, none⟩), .slice (some ad) (xs.length + 1) c] w fun e w' => ∃ w1, e = .returned (.slice (some ad) xs.length xs.length) ∧ Below w.heap.size w w1 ∧ w' = (w1.setCell ⟨O, 2, none⟩ (.int .u8 (x.toNat : Int))).setCell ⟨O, 3, none⟩ (.slice (some ⟨O, 2, none⟩) 1 1) := by
  have hlt := (Array.getElem?_eq_some_iff.1 h).1
  have HL := Lib.hid (fixLeft_any R K s d w hE)
  obtain ⟨⟨c0, c1, -⟩, -⟩ := out_cells h
  have HH := Lib.hid h
  have HX := Lib.hid hx
  rw [show s - d = 0 from by omega] at HL
  have HLT := Lib.hid hlt
  have HAD := Lib.hid had
  obtain ⟨k, hk⟩ : ∃ k, xs.length = k := ⟨_, rfl⟩
  have HK := Lib.hid hk
  rw [hk] at HX hc hl ⊢
  have hw : IntKind.i64.wrap ((k : Int) + 1 - 1) = (k : Int) := by rw [IntWalk.i64_in _ (by omega)]; omega
  have hz : (((k + 1 : Nat) : Int) == 0) = false := beq_eq_false_iff_ne.2 (by omega)
  have hkk : (k : Int) < (k : Int) + 1 := by omega
  clear h hE hd hx hk hlt had
  go_enter Tryz.func33, Tryz.ntmps33
  go_wp2_with fail
  refine HL.out.mono ?_
  rintro e w1 ⟨rfl, hb1⟩
  have h1 := (hb1.block O HLT.out).trans HH.out
  obtain ⟨⟨d0, d1, d2, d3, d4, d5⟩, df⟩ := out_cells h1
  have f3 := df 3
  have hx1 := HX.out.below hb1
  have x1 : w1.cell? (ad.add k) = some (.int .u8 (x.toNat : Int)) := by
    obtain ⟨p', c', e, -, -, -, h4⟩ := hx1
    simp only [Value.slice.injEq] at e
    obtain ⟨rfl, -, rfl⟩ := e
    exact h4 ad rfl k x (by rw [← HK.out]; simp)
  have hO1 := (Array.getElem?_eq_some_iff.1 h1).1
  obtain ⟨W2, hW2⟩ : ∃ W2, (w1.alloc (.cells #[.int .u8 (x.toNat : Int)] 5)).drew = W2 := ⟨_, rfl⟩
  have b2 : Below w1.heap.size w1 W2 := by rw [← hW2]; exact (below_box w1 _).drew
  have h2 := (b2.block O hO1).trans h1
  have n2 : W2.cell? ⟨w1.heap.size, 0, none⟩ = some (.int .u8 (x.toNat : Int)) := by
    have : W2.heap[w1.heap.size]? = some (.cells #[.int .u8 (x.toNat : Int)] 5 (0, 0)) := by rw [← hW2]; exact World.alloc_heap_new w1 _
    simp [World.cell?, this]
  obtain ⟨⟨-, -, e2, e3, -, -⟩, ef⟩ := out_cells h2
  obtain ⟨i0, hi, hz0, hz1, hz2⟩ := info_parts byte_info
  have hrun : ∀ ty, (Builtin.append_ #[35, 35] ty #[.slice (some ⟨O, 2, none⟩) 0 1, .slice (some ⟨w1.heap.size, 0, none⟩) 1 1]).run Tryz.prog W2 = .ok (.slice (some ⟨O, 2, none⟩) 1 1) (W2.setCell ⟨O, 2, none⟩ (.int .u8 (x.toNat : Int))) := fun ty => by
    have := run_append_room_cells (P := Tryz.prog) (w := W2) 35 ty 5 i0 Tryz.underlying35 hi O 2 0 1 ⟨w1.heap.size, 0, none⟩ 1 1 [.int .u8 (x.toNat : Int)] (by rw [hz1]; rfl) (fun j u hj => by
      cases j with
      | zero => simp at hj; subst hj; exact n2
      | succ j => simp at hj) (fun u hu => by simp at hu; subst hu; rfl) (by omega) (fun j hj => by
        obtain rfl : j = 0 := by simp at hj; omega
        simp [e2]) (fun j hj => by
        obtain rfl : j = 0 := by simp at hj; omega
        simpa using ef 2)
    rw [hz1] at this
    exact this
  have q3 : (w1.alloc (.cells #[.int .u8 (x.toNat : Int)] 5)).cell? ⟨O, 3, none⟩ = some kv := by
    have := ((below_box w1 (.cells #[.int .u8 (x.toNat : Int)] 5)).block O hO1).trans h1
    simp [World.cell?, this, outCells]
  have q4 : (w1.alloc (.cells #[.int .u8 (x.toNat : Int)] 5)).frozen? ⟨O, 3, none⟩ = false := by
    have := ((below_box w1 (.cells #[.int .u8 (x.toNat : Int)] 5)).block O hO1).trans h1
    simp [World.frozen?, this]
  have HR := Lib.hid hrun
  have HQ := Lib.hid (ahead hb1 b2)
  subst hW2
  clear hrun HL n2 e2 e3 ef b2 h2 hO1 hx1 h1 hb1 d0 d1 d4 d5 df hi hz0 hz1 hz2 HK HX HH
  go_wp2_with fail
  go_region_law (refine step_append_run rfl (.tmp 32) (.tmp 37) 35 rfl (.slice (some ⟨O, 2, none⟩) 0 1) (.slice (some ⟨w1.heap.size, 0, none⟩) 1 1) (.slice (some ⟨O, 2, none⟩) 1 1) _ (by simp [Act.eval]) (by simp [Act.eval]) (HR.out _) ?_)
  all_goals
    go_wp2_with fail
    go_ret
    exact ⟨_, rfl, HQ.out, rfl⟩

end Go.Proofs.YtilebfpaibajcaaGreatDoor

/- The program's outlet: Put, New, Abort; what it tells of itself. -/
namespace Go.Proofs.YtilebfpaibajcaaGreatDoor
open Go.ChangeShapes Go.WideShapes Go.ChangeAt Go.RowKit
open Oc Fl Bk Bd Ft Ot
set_option linter.unusedVariables false
set_option maxRecDepth 100000

namespace Ot
theorem done_not {o : Rs} (h : Ok o) (hs : o.shut = false) : o.E.done = false := by cases e : o.E.done with | false => rfl | true => rw [h.done e] at hs; cases hs
theorem putx_stop {x : Es} {T : List UInt8} (h : putEx x T ≠ 0) : putEs x T = x ∧ putBx x T = [] := by
  obtain ⟨k, d, done⟩ := x
  cases done with
  | true => exact ⟨rfl, rfl⟩
  | false =>
    cases k with
    | fix s =>
      have : s < d + T.length := by
        by_cases e : s < d + T.length
        · exact e
        · exact absurd (show putEx ⟨.fix s, d, false⟩ T = 0 from if_neg e) h
      exact ⟨by show (⟨.fix s, fixD s d T, false⟩ : Es) = _; rw [show fixD s d T = d from if_pos this], if_pos this⟩
    | chk => exact absurd rfl h
    | unt => exact absurd rfl h
/-- A piece of which nothing is kept. -/
theorem put_free {o : Rs} {T : List UInt8} (h : Ok o) (hs : o.shut = false) (he : putEx o.E T = 0) (hk : kpt (putEs o.E T) (putBx o.E T) = false) :
    (putO o T).W = o.W + (putBx o.E T).length ∧ putOb o T = putBx o.E T ∧ keptB (putO o T) = keptB o ∧ (keptB o = true → (putO o T).A.drop (putO o T).W = o.A.drop o.W) := by
  have hd := done_not h hs
  have hstop : ¬ stopP o T := fun e => by rcases e with e | e; · rw [hs] at e; cases e
                                          · exact e he
  have hw := h.w
  rw [hd, if_neg (by decide)] at hw
  have hda := h.data
  have hok := h.ok
  unfold putOb putO keptB
  rw [if_neg hstop, if_neg hstop]
  obtain ⟨⟨k, d, done⟩, A, W, sh⟩ := o
  simp only at hd hw hs
  subst hd hs
  cases k with
  | fix s =>
    have hle : ¬ s < d + T.length := fun e => by have : putEx ⟨.fix s, d, false⟩ T = 6 := if_pos e; simp only at he; omega
    have e1 : putBx ⟨.fix s, d, false⟩ T = T := if_neg hle
    have e2 : putEs ⟨.fix s, d, false⟩ T = ⟨.fix s, d + T.length, false⟩ := by show (⟨.fix s, fixD s d T, false⟩ : Es) = _; rw [show fixD s d T = d + T.length from if_neg hle]
    have hA : A.length = d := hda
    obtain ⟨hds, -⟩ : d ≤ s ∧ s ≤ 4611686018427387903 := hok
    simp only [e1, e2] at hk ⊢
    have hk' : ¬ (s ≤ d + T.length ∧ 0 < T.length) := by
      have : (decide (s ≤ d + T.length) && decide (0 < T.length)) = false := hk
      simpa using this
    have hfu : ∀ n, upto ⟨.fix s, d, false⟩ n = if 0 < n ∧ n = s then n - 1 else n := fun n => by
      show (if (decide (0 < n) && decide (n = s)) = true then n - 1 else n) = _
      simp
    rw [hfu] at hw
    show upto _ (putA _ T).length = _ ∧ ((putA _ T).take (upto _ (putA _ T).length)).drop W = T ∧ (!false && decide (upto _ (putA _ T).length < (putA _ T).length)) = _ ∧ (_ → (putA _ T).drop (upto _ (putA _ T).length) = _)
    have e3 : putA ⟨⟨.fix s, d, false⟩, A, W, false⟩ T = A ++ T := by unfold putA; rw [e1]
    rw [e3, hfu, List.length_append]
    by_cases hT : T = []
    · subst hT
      simp only [List.length_nil, Nat.add_zero, List.append_nil]
      rw [← hw]
      exact ⟨rfl, by rw [List.drop_take]; simp, rfl, fun _ => rfl⟩
    · have hT' : 0 < T.length := List.length_pos_iff.2 hT
      have hlt : d + T.length < s := by omega
      rw [if_neg (by omega)] at hw
      rw [if_neg (by omega)]
      subst hw
      refine ⟨rfl, ?_, ?_, ?_⟩
      · rw [← List.length_append, List.take_length, List.drop_left]
      · simp
      · intro hh; simp at hh
  | chk =>
    have hfu : ∀ n, upto ⟨.chk, d, false⟩ n = n := fun n => rfl
    rw [hfu] at hw
    subst hw
    have e3 : putA ⟨⟨.chk, d, false⟩, A, A.length, false⟩ T = A ++ ck [] T := rfl
    have e4 : putBx ⟨.chk, d, false⟩ T = ck [] T := rfl
    simp only [e3, e4, hfu, List.take_length, List.drop_left]
    refine ⟨by rw [List.length_append], trivial, by simp, fun hh => by simp at hh⟩
  | unt =>
    have hfu : ∀ n, upto ⟨.unt, d, false⟩ n = n := fun n => rfl
    rw [hfu] at hw
    subst hw
    have e3 : putA ⟨⟨.unt, d, false⟩, A, A.length, false⟩ T = A ++ T := rfl
    have e4 : putBx ⟨.unt, d, false⟩ T = T := rfl
    simp only [e3, e4, hfu, List.take_length, List.drop_left]
    refine ⟨by rw [List.length_append], trivial, by simp, fun hh => by simp at hh⟩
/-- A piece whose last byte is kept. -/
theorem put_kept {o : Rs} {T : List UInt8} {xs : List UInt8} {x : UInt8} (h : Ok o) (hs : o.shut = false) (he : putEx o.E T = 0) (hk : kpt (putEs o.E T) (putBx o.E T) = true) (hT : putBx o.E T = xs ++ [x]) :
    (putO o T).W = o.W + xs.length ∧ putOb o T = xs ∧ keptB (putO o T) = true ∧ (putO o T).A.drop (putO o T).W = [x] ∧ keptB o = false := by
  have hd := done_not h hs
  have hstop : ¬ stopP o T := fun e => by rcases e with e | e; · rw [hs] at e; cases e
                                          · exact e he
  have hw := h.w
  rw [hd, if_neg (by decide)] at hw
  have hda := h.data
  have hok := h.ok
  unfold putOb putO keptB
  rw [if_neg hstop, if_neg hstop]
  obtain ⟨⟨k, d, done⟩, A, W, sh⟩ := o
  simp only at hd hw hs
  subst hd hs
  cases k with
  | fix s =>
    have hle : ¬ s < d + T.length := fun e => by have : putEx ⟨.fix s, d, false⟩ T = 6 := if_pos e; simp only at he; omega
    have e1 : putBx ⟨.fix s, d, false⟩ T = T := if_neg hle
    have e2 : putEs ⟨.fix s, d, false⟩ T = ⟨.fix s, d + T.length, false⟩ := by show (⟨.fix s, fixD s d T, false⟩ : Es) = _; rw [show fixD s d T = d + T.length from if_neg hle]
    have hA : A.length = d := hda
    simp only [e1, e2] at hk hT ⊢
    have hk' : s ≤ d + T.length ∧ 0 < T.length := by
      have : (decide (s ≤ d + T.length) && decide (0 < T.length)) = true := hk
      simpa using this
    have hl : T.length = xs.length + 1 := by rw [hT]; simp
    have hfu : ∀ n, upto ⟨.fix s, d, false⟩ n = if 0 < n ∧ n = s then n - 1 else n := fun n => by
      show (if (decide (0 < n) && decide (n = s)) = true then n - 1 else n) = _
      simp
    rw [hfu, if_neg (by omega)] at hw
    have e3 : putA ⟨⟨.fix s, d, false⟩, A, W, false⟩ T = A ++ T := by unfold putA; rw [e1]
    have e4 : upto ⟨.fix s, d, false⟩ (A ++ T).length = A.length + xs.length := by rw [hfu, List.length_append, if_pos (by omega)]; omega
    have e5 : A ++ T = (A ++ xs) ++ [x] := by rw [hT]; simp
    show upto _ (putA _ T).length = _ ∧ ((putA _ T).take (upto _ (putA _ T).length)).drop W = xs ∧ (!false && decide (upto _ (putA _ T).length < (putA _ T).length)) = true ∧ (putA _ T).drop (upto _ (putA _ T).length) = [x] ∧ (!false && decide (W < A.length)) = false
    rw [e3, e4, e5]
    refine ⟨by rw [hw], ?_, ?_, ?_, ?_⟩
    · rw [← List.length_append, List.take_left, hw, List.drop_left]
    · simp
    · rw [← List.length_append, List.drop_left]
    · rw [hw]; simp
  | chk => cases hk
  | unt => cases hk
end Ot

/-- Another number in the fourth cell, and what is kept. -/
theorem OuAt.counted {O R K : Nat} {o o' : Rs} {w1 : World} {rm : UInt8} {n : Nat} (hO : O ≠ R) (hO2 : O ≠ K) (hb : w1.heap[O]? = some (.cells (outCells R (fixK o.E.k) rm (keptV O o) o.W o.shut) 56 (0, 0))) (he : EnAt R K o'.E w1) (hk : fixK o'.E.k = fixK o.E.k)
    (hw : o'.W = n) (hs : o'.shut = o.shut) (hkb : keptB o' = keptB o) (hA : keptB o = true → o'.A.drop o'.W = [rm]) : OuAt O R K o' (w1.setCell ⟨O, 4, none⟩ (.int .i64 (n : Int))) := by
  refine ⟨⟨rm, ?_, fun hh => hA (by rw [← hkb]; exact hh)⟩, he.keep (Below.heap_setCell _ _ _ _ (Ne.symm hO)) (Below.heap_setCell _ _ _ _ (Ne.symm hO2)), hO, hO2⟩
  rw [heap_set _ hb]
  subst hw
  rw [hk, hs]
  unfold keptV
  rw [hkb]
  rfl

set_option maxHeartbeats 4000000 in
theorem outPut_any (O R K : Nat) (o : Rs) (T : List UInt8) (p : Option Addr) (c : Nat) (w : World) (h : OuAt O R K o w) (hk : Ok o)
    (hP : o.shut = false → Calls Tryz.prog 32 #[.pointer (some ⟨R, 0, none⟩), .slice p T.length c] w fun e w' => ∃ v, e = .returned (.tuple #[v, .int .i64 (putEx o.E T : Int)]) ∧ EnQ R K (putEs o.E T) w w' v (putBx o.E T))
    (hb : o.W + (putBx o.E T).length ≤ 4611686018427387903) (hl : (putBx o.E T).length ≤ 1000000) :
    Calls Tryz.prog 14 #[.pointer (some ⟨O, 0, none⟩), .slice p T.length c] w fun e w' => ∃ v, e = .returned (.tuple #[v, .int .i64 (putOe o T : Int)]) ∧ OuQ O R K (putO o T) w w' v (putOb o T) := by
  obtain ⟨rm, hblk, hkp⟩ := h.blk
  obtain ⟨⟨c0, c1, c2, c3, c4, c5⟩, cf⟩ := out_cells hblk
  have hnR := h.neR
  have hnK := h.neK
  have hltO := h.lt
  have HH := Lib.hid h
  cases hs : o.shut with
  | true =>
    rw [hs] at c5
    have e1 : putO o T = o := if_pos (.inl hs)
    have e2 : putOe o T = 8 := if_pos hs
    have e3 : putOb o T = [] := if_pos (.inl hs)
    rw [e1, e2, e3]
    have HQ := Lib.hid (OuQ.none h (Below.refl _ _))
    clear h hk hP hb hl hblk hkp c0 c1 c2 c3 c4 cf e1 e2 e3 HH hs
    go_enter Tryz.func14, Tryz.ntmps14
    go_wp2_with fail
    go_ret2
    exact ⟨_, rfl, HQ.out⟩
  | false =>
    have HP := Lib.hid (hP hs)
    rw [hs] at c5
    by_cases he : putEx o.E T = 0
    · have e2 : putOe o T = 0 := by unfold putOe; rw [if_neg (by rw [hs]; decide)]; exact he
      rw [e2]
      rw [he] at HP
      have hd : (putEs o.E T).done = false := by rw [putEs_done]; exact done_not hk hs
      have hkk : (putEs o.E T).k = o.E.k := putEs_k _ _
      cases hkt : kpt (putEs o.E T) (putBx o.E T) with
      | false =>
        obtain ⟨q1, q2, q3, q4⟩ := put_free hk hs he hkt
        rw [q2]
        have HF : Hid (∀ w1, EnAt R K (putEs o.E T) w1 → ∀ m, m = (putBx o.E T).length → ∀ p c, w1.heap[O]? = some (.cells (outCells R (fixK o.E.k) rm (keptV O o) o.W false) 56 (0, 0)) →
            Calls Tryz.prog 33 #[.pointer (some ⟨O, 0, none⟩), .slice p m c] w1 fun e w' => e = .returned (.slice p m c) ∧ Below w1.heap.size w1 w') := Lib.hid fun w1 hE m hm p c hh => by
          have hkkn := hkk
          cases hx : (putEs o.E T) with
          | mk k d dn =>
            rw [hx] at hE hd hkkn hkt
            simp only at hd hkkn
            subst hd
            cases k with
            | fix s =>
              rw [← hkkn] at hh
              have : ¬ (s ≤ d ∧ 0 < (putBx o.E T).length) := by
                have : (decide (s ≤ d) && decide (0 < (putBx o.E T).length)) = false := hkt
                simpa using this
              exact keep14_more O R K _ m c s d _ rm _ p w1 hh ⟨hE.enc, hE.knd, hE.ne, hE.ok.1, hE.ok.2⟩ (by omega)
            | chk =>
              rw [← hkkn] at hh
              refine (keep14_free O R _ m c _ rm _ p w1 hh).mono ?_
              rintro e w' ⟨e1, rfl⟩
              exact ⟨e1, Below.refl _ _⟩
            | unt =>
              rw [← hkkn] at hh
              refine (keep14_free O R _ m c _ rm _ p w1 hh).mono ?_
              rintro e w' ⟨e1, rfl⟩
              exact ⟨e1, Below.refl _ _⟩
        have hpo : putO o T = ⟨putEs o.E T, putA o T, upto o.E (putA o T).length, false⟩ := if_neg (fun e => by
          rcases e with e | e
          · rw [hs] at e; cases e
          · exact e he)
        have HZ : Hid (∀ w3 : World, w3.heap[O]? = some (.cells (outCells R (fixK o.E.k) rm (keptV O o) o.W false) 56 (0, 0)) → EnAt R K (putEs o.E T) w3 → OuAt O R K (putO o T) (w3.setCell ⟨O, 4, none⟩ (.int .i64 ((o.W + (putBx o.E T).length : Nat) : Int)))) := Lib.hid fun w3 hh hE =>
          OuAt.counted hnR hnK (by rw [hs]; exact hh) (by rw [hpo]; exact hE) (by rw [hpo]; show fixK (putEs o.E T).k = _; rw [hkk]) q1 (by rw [hpo]; exact hs.symm) q3 (fun hh => (q4 hh).trans (hkp hh))
        rw [hs] at hblk
        have HB := Lib.hid hblk
        generalize keptV O o = kv at *
        generalize putEs o.E T = E2 at *
        generalize putBx o.E T = ys at *
        obtain ⟨ny, hny⟩ : ∃ ny, ys.length = ny := ⟨_, rfl⟩
        have HNY := Lib.hid hny
        rw [hny] at hb hl
        clear h hk hP hblk hkp c1 c2 c3 c4 cf e2 q1 q2 q3 q4 hs he hd hkk hkt hny
        go_enter Tryz.func14, Tryz.ntmps14
        go_wp2_with fail
        refine HP.out.mono ?_
        rintro e w1 ⟨v1, rfl, hQ⟩
        obtain ⟨p1, c1, rfl, -⟩ := id hQ.rd
        have h1 := (hQ.sol.block O hltO hnR hnK).trans HB.out
        have HK := Lib.hid (HF.out w1 hQ.at_ ys.length rfl p1 c1 h1)
        have HQ := Lib.hid hQ
        have H1 := Lib.hid h1
        clear hQ h1 HF HP
        rw [HNY.out] at HK ⊢
        go_wp2_with fail
        refine HK.out.mono ?_
        rintro e w2 ⟨rfl, hb2⟩
        have h2 := (hb2.block O (Array.getElem?_eq_some_iff.1 H1.out).1).trans H1.out
        have HC := Lib.hid (count14_any O R o.W ny c1 _ _ rm _ p1 w2 h2 (by omega))
        have HE2 := Lib.hid (HZ.out w2 h2 (HQ.out.at_.below hb2))
        rw [HNY.out] at HE2
        have hrd := HQ.out.rd.below hb2
        rw [HNY.out] at hrd
        have hsol := (Sol3.of_enc (O := O) HQ.out.sol).trans (Sol3.of_below hb2)
        have hown := HQ.out.own
        rw [HNY.out] at hown
        have hz2 := hb2.size
        have HQ2 := Lib.hid (show OuQ O R K (putO o T) w (w2.setCell ⟨O, 4, none⟩ (.int .i64 ((o.W + ny : Nat) : Int))) (.slice p1 ny c1) ys from
          ⟨HE2.out, hrd.kept fun g hg => Below.heap_setCell _ _ _ _ (by have := (hown g hg).1; show g ≠ O; omega), hsol.trans (Sol3.set O R K 4 _ w2), fun g hg => by have := hown g hg; simp [World.setCell]; omega⟩)
        clear hb2 h2 HK HE2 hrd hsol hown hz2 HZ HQ H1
        go_wp2_with fail
        refine HC.out.mono ?_
        rintro e w3 ⟨rfl, rfl⟩
        go_wp2_with fail
        go_ret2
        exact ⟨_, rfl, HQ2.out⟩
      | true =>
        obtain ⟨xs, x, hxs⟩ : ∃ xs x, putBx o.E T = xs ++ [x] := by
          rcases List.eq_nil_or_concat (putBx o.E T) with e | ⟨xs, x, e⟩
          · exfalso
            rw [e] at hkt
            unfold kpt at hkt
            split at hkt
            · simp at hkt
            · cases hkt
          · exact ⟨xs, x, by simpa using e⟩
        obtain ⟨q1, q2, q3, q4, q5⟩ := put_kept hk hs he hkt hxs
        rw [q2]
        have hpo : putO o T = ⟨putEs o.E T, putA o T, upto o.E (putA o T).length, false⟩ := if_neg (fun e => by
          rcases e with e | e
          · rw [hs] at e; cases e
          · exact e he)
        obtain ⟨s, d, hsd, hds⟩ : ∃ s d, putEs o.E T = ⟨.fix s, d, false⟩ ∧ s ≤ d := by
          unfold kpt at hkt
          cases hx : putEs o.E T with
          | mk k d dn =>
            rw [hx] at hkt hd
            simp only at hd
            subst hd
            cases k with
            | fix s =>
              simp only [Bool.and_eq_true, decide_eq_true_eq] at hkt
              exact ⟨s, d, rfl, hkt.1⟩
            | chk => cases hkt
            | unt => cases hkt
        have hfx : fixK o.E.k = true := by rw [← hkk, hsd]; rfl
        rw [hxs, List.length_append, List.length_singleton] at hb hl
        have HF : Hid (∀ w1, EnAt R K (putEs o.E T) w1 → ∀ ad c, RD w1 (.slice (some ad) (xs.length + 1) c) (xs ++ [x]) → xs.length + 1 ≤ c → ad.block ≠ O → w1.heap[O]? = some (.cells (outCells R true rm (keptV O o) o.W false) 56 (0, 0)) → _) := Lib.hid fun w1 hE ad c hx hc hab hh =>
          keep14_kept O R K o.W c s d xs x false rm (keptV O o) ad w1 hh (by rw [hsd] at hE; exact ⟨hE.enc, hE.knd, hE.ne, hE.ok.1, hE.ok.2⟩) hds hx hc (by omega) hab
        rw [hs, hfx] at hblk
        have HB := Lib.hid hblk
        have hzW : ∀ (w3 : World), w3.heap[O]? = some (.cells (outCells R true rm (keptV O o) o.W false) 56 (0, 0)) →
            ((w3.setCell ⟨O, 2, none⟩ (.int .u8 (x.toNat : Int))).setCell ⟨O, 3, none⟩ (.slice (some ⟨O, 2, none⟩) 1 1)).heap[O]? = some (.cells (outCells R true x (.slice (some ⟨O, 2, none⟩) 1 1) o.W false) 56 (0, 0)) := fun w3 hh => by
          rw [heap_set _ (heap_set _ hh)]; rfl
        have HZW := Lib.hid hzW
        have hz : ∀ (w3 : World), w3.heap[O]? = some (.cells (outCells R true x (.slice (some ⟨O, 2, none⟩) 1 1) o.W false) 56 (0, 0)) → EnAt R K (putEs o.E T) w3 → OuAt O R K (putO o T) (w3.setCell ⟨O, 4, none⟩ (.int .i64 ((o.W + xs.length : Nat) : Int))) := fun w3 hh hE => by
          refine ⟨⟨x, ?_, fun _ => q4⟩, ?_, hnR, hnK⟩
          · rw [heap_set _ hh]
            unfold keptV
            rw [q3, if_pos rfl, q1]
            rw [hpo]
            show _ = some (Obj.cells (outCells R (fixK (putEs o.E T).k) _ _ _ false) _ _)
            rw [hkk, hfx]
            rfl
          · rw [hpo]
            exact hE.keep (Below.heap_setCell _ _ _ _ (Ne.symm hnR)) (Below.heap_setCell _ _ _ _ (Ne.symm hnK))
        have HZ := Lib.hid hz
        rw [hxs] at HP
        have hkv : ∃ kv, keptV O o = kv := ⟨_, rfl⟩
        obtain ⟨kv, hkv⟩ := hkv
        rw [hkv] at HF HB HZW
        generalize putEs o.E T = E2 at *
        obtain ⟨ny, hny⟩ : ∃ ny, xs.length = ny := ⟨_, rfl⟩
        have HNY := Lib.hid hny
        rw [hny] at hb hl HZ HF
        clear h hk hblk hkp c1 c2 c3 c4 cf e2 q1 q2 q3 q4 q5 hs he hd hkk hkt hny hzW hz hkv hxs hpo hsd hds hfx hP
        go_enter Tryz.func14, Tryz.ntmps14
        go_wp2_with fail
        refine HP.out.mono ?_
        rintro e w1 ⟨v1, rfl, hQ⟩
        have hQr := hQ.rd
        obtain ⟨p1, c1, rfl, hc1, hc2, hc3, -⟩ := id hQr
        rw [List.length_append, List.length_singleton, HNY.out] at hQr hc1 ⊢
        have hown := hQ.own
        rw [List.length_append, List.length_singleton, HNY.out] at hown
        cases p1 with
        | none => have := hc3 rfl; omega
        | some ad =>
        have had := (hown ad.block rfl)
        have h1 := (hQ.sol.block O hltO hnR hnK).trans HB.out
        have HK := Lib.hid (HF.out w1 hQ.at_ ad c1 hQr hc1 (by omega) h1)
        have HSO := Lib.hid (Sol3.of_enc (O := O) hQ.sol)
        have HE1 := Lib.hid hQ.at_
        have hrp : RD w1 (.slice (some ad) ny ny) xs := by
          obtain ⟨p', c', e, -, -, -, h4⟩ := hQr
          simp only [Value.slice.injEq] at e
          obtain ⟨rfl, -, rfl⟩ := e
          exact ⟨some ad, ny, by rw [HNY.out], by rw [HNY.out]; exact Nat.le_refl _, by omega, (fun hh => by cases hh), fun ad' hp i b hb => by
            cases hp
            exact h4 ad rfl i b (by rw [List.getElem?_append_left (List.getElem?_eq_some_iff.1 hb).1]; exact hb)⟩
        have HRP := Lib.hid hrp
        have H1 := Lib.hid h1
        have hlt1 := (Array.getElem?_eq_some_iff.1 h1).1
        have hncast : ((ny + 1 : Nat) : Int) = (ny : Int) + 1 := by omega
        clear hQ h1 HF HP hQr hc1 hc2 hc3 hown
        go_wp2_with fail
        refine HK.out.mono ?_
        rintro e w2 ⟨w3, rfl, hb3, rfl⟩
        have h3 := (hb3.block O hlt1).trans H1.out
        have h4 := HZW.out w3 h3
        have hE3 := HE1.out.below hb3
        have HS4 := Lib.hid (((HSO.out.trans (Sol3.of_below hb3)).trans (Sol3.set O R K 2 (.int .u8 (x.toNat : Int)) w3)).trans (Sol3.set O R K 3 (.slice (some ⟨O, 2, none⟩) 1 1) _))
        have hr3 := HRP.out.below hb3
        have hz3 := hb3.size
        obtain ⟨w5, hw5⟩ : ∃ w5, (w3.setCell ⟨O, 2, none⟩ (.int .u8 (x.toNat : Int))).setCell ⟨O, 3, none⟩ (.slice (some ⟨O, 2, none⟩) 1 1) = w5 := ⟨_, rfl⟩
        have hfar : ∀ g, g ≠ O → w5.heap[g]? = w3.heap[g]? := fun g hg => by
          rw [← hw5]
          exact (Below.heap_setCell _ ⟨O, 3, none⟩ _ _ hg).trans (Below.heap_setCell _ ⟨O, 2, none⟩ _ _ hg)
        have hz5 : w5.heap.size = w3.heap.size := by rw [← hw5]; simp [World.setCell]
        rw [hw5] at h4 HS4 ⊢
        have hr5 : RD w5 (.slice (some ad) ny ny) xs := hr3.kept fun g hg => hfar g (by cases hg; omega)
        have hE5 := hE3.keep (hfar R (Ne.symm hnR)) (hfar K (Ne.symm hnK))
        have HC := Lib.hid (count14_any O R o.W ny ny _ _ x _ (some ad) w5 h4 (by omega))
        have HQ2 := Lib.hid (show OuQ O R K (putO o T) w (w5.setCell ⟨O, 4, none⟩ (.int .i64 ((o.W + ny : Nat) : Int))) (.slice (some ad) ny ny) xs from
          ⟨HZ.out w5 h4 hE5, hr5.kept fun g hg => Below.heap_setCell _ _ _ _ (by cases hg; show ad.block ≠ O; omega), HS4.out.trans (Sol3.set O R K 4 _ w5), fun g hg => by cases hg; simp [World.setCell]; omega⟩)
        clear h3 h4 hE3 HS4 hr3 hw5 hfar hr5 hE5 HZ HZW HK HRP H1 hb3 hz3 hz5 HE1 HSO hrp
        go_wp2_with fail
        refine HC.out.mono ?_
        rintro e w6 ⟨rfl, rfl⟩
        go_wp2_with fail
        go_ret2
        exact ⟨_, rfl, HQ2.out⟩
    · have e1 : putO o T = o := if_pos (.inr he)
      have e2 : putOe o T = putEx o.E T := by unfold putOe; rw [if_neg (by rw [hs]; decide)]
      have e3 : putOb o T = [] := if_pos (.inr he)
      rw [e1, e2, e3]
      obtain ⟨f1, f2⟩ := putx_stop he
      rw [f1, f2] at HP
      have hz : ((putEx o.E T : Int) == 0) = false := beq_eq_false_iff_ne.2 (by omega)
      generalize putEx o.E T = q at *
      clear h hk hP hb hl hblk hkp c1 c2 c3 c4 cf e1 e2 e3 f1 f2 hs he
      go_enter Tryz.func14, Tryz.ntmps14
      go_wp2_with fail
      refine HP.out.mono ?_
      rintro e w1 ⟨v1, rfl, hQ⟩
      have HQ := Lib.hid (show OuQ O R K o w w1 (.slice none 0 0) [] from ⟨HH.out.keep (hQ.sol.block O hltO hnR hnK) (hQ.at_.enc.trans HH.out.enc.enc.symm) (hQ.at_.knd.trans HH.out.enc.knd.symm), RD.nil _, Sol3.of_enc hQ.sol, fun g hg => by simp [Value.ownBlock] at hg⟩)
      clear hQ HP
      go_wp2_with fail
      go_ret2
      exact ⟨_, rfl, HQ.out⟩

end Go.Proofs.YtilebfpaibajcaaGreatDoor

/- The program's outlet: made, ended, given up; what it tells of itself. -/
namespace Go.Proofs.YtilebfpaibajcaaGreatDoor
open Go.ChangeShapes Go.WideShapes Go.ChangeAt Go.RowKit
open Oc Fl Bk Bd Ft Ot
set_option linter.unusedVariables false
set_option maxRecDepth 100000

namespace Ot
theorem kept_drop {o : Rs} (h : Ok o) (hs : o.shut = false) (hk : keptB o = false) : o.A.drop o.W = [] := by
  unfold keptB at hk
  rw [hs] at hk
  simp at hk
  exact List.drop_eq_nil_iff.2 hk
theorem end_bytes {o : Rs} {l : List Fld} (h : Ok o) (hs : ¬ stopE o l) : endOb o l = o.A.drop o.W ++ endBx o.E (sel false l) := by
  unfold endOb
  rw [if_neg hs]
  unfold endA
  rw [List.drop_append_of_le_length h.low]
theorem end_written {o : Rs} {l : List Fld} (h : Ok o) (hs : ¬ stopE o l) : (endO o l).W = o.W + (endOb o l).length := by
  rw [end_bytes h hs]
  unfold endO
  rw [if_neg hs]
  show (endA o l).length = _
  unfold endA
  have := h.low
  simp
  omega
end Ot

set_option maxHeartbeats 2000000 in
theorem outNew_any (kind : Int) (size : Nat) (w : World) (hr : rightE kind size = true)
    (hN : ∀ W, Below w.heap.size w W → Calls Tryz.prog 24 #[.agg #[.int .i64 kind, .int .u64 (size : Int)]] W fun e w' => ∃ R K, e = .returned (.tuple #[.pointer (some ⟨R, 0, none⟩), .int .i64 0]) ∧ EnAt R K (newEs kind size) w' ∧ Below W.heap.size W w' ∧ W.heap.size ≤ R ∧ W.heap.size ≤ K) :
    Calls Tryz.prog 8 #[.agg #[.int .i64 kind, .int .u64 (size : Int)]] w fun e w' => ∃ O R K, e = .returned (.tuple #[.pointer (some ⟨O, 0, none⟩), .int .i64 0]) ∧ OuAt O R K (newO kind size) w' ∧ Below w.heap.size w w' ∧ w.heap.size ≤ O ∧ w.heap.size ≤ R ∧ w.heap.size ≤ K := by
  have hfx : fixK (newEs kind size).k = (kind == 1) := by
    unfold newEs
    by_cases h1 : kind = 1
    · subst h1; rfl
    · have h1' : (kind == 1) = false := beq_eq_false_iff_ne.2 h1
      rw [h1']
      simp only [if_neg h1]
      by_cases h2 : kind = 2 <;> simp only [h2, if_pos] <;> rfl
  obtain ⟨w0, hw0⟩ : ∃ w0, w.alloc (.cells #[.int .i64 kind, .int .u64 (size : Int)] 24) = w0 := ⟨_, rfl⟩
  have b0 : Below w.heap.size w w0 := by rw [← hw0]; exact below_box _ _
  have l0 : w0.heap[w.heap.size]? = some (.cells #[.int .i64 kind, .int .u64 (size : Int)] 24 (0, 0)) := by rw [← hw0]; exact World.alloc_heap_new w _
  have HN := Lib.hid (hN w0 b0)
  have C0 : Hid (∀ W, Below w0.heap.size w0 W → W.cell? ⟨w.heap.size, 0, none⟩ = some (.int .i64 kind) ∧ W.cell? ⟨w.heap.size, 1, none⟩ = some (.int .u64 (size : Int))) := Lib.hid fun W hb => by
    have := (hb.block w.heap.size (Array.getElem?_eq_some_iff.1 l0).1).trans l0
    simp [World.cell?, this]
  obtain ⟨y0, y1⟩ := C0.out w0 (Below.refl _ _)
  have W0 := Lib.hid hw0
  have B0 := Lib.hid b0
  have hz0 : w0.heap.size = w.heap.size + 1 := by rw [← hw0]; simp
  have HZ0 := Lib.hid hz0
  clear hN hw0 b0 l0 hr hz0
  generalize hb1 : (kind == 1) = b1 at *
  go_enter Tryz.func8, Tryz.ntmps8
  go_wp2_with fail
  rw [W0.out]
  refine HN.out.mono ?_
  rintro e w1 ⟨R, K, rfl, hE, hb, hR, hK⟩
  obtain ⟨x0, x1⟩ := C0.out w1 hb
  obtain ⟨w2, hw2⟩ : ∃ w2, w1.alloc (.cells (outCells R b1 0 (.slice none 0 0) 0 false) 56) = w2 := ⟨_, rfl⟩
  have b2 : Below w1.heap.size w1 w2 := by rw [← hw2]; exact below_box _ _
  have hl1 := hE.ltR
  have hl2 := hE.ltK
  have hQ : OuAt w1.heap.size R K (newO kind size) w2 := by
    refine ⟨⟨0, ?_, fun hh => by simp [keptB, newO] at hh⟩, hE.below b2, by omega, by omega⟩
    show w2.heap[w1.heap.size]? = some (.cells (outCells R (fixK (newEs kind size).k) 0 (keptV w1.heap.size (newO kind size)) 0 false) 56 (0, 0))
    rw [hfx, ← hw2]
    exact World.alloc_heap_new w1 _
  have HQ := Lib.hid hQ
  have B2 := Lib.hid (ahead (ahead B0.out hb) b2)
  have hbs := hb.size
  have hz0 := HZ0.out
  have HL : Hid (w.heap.size ≤ w1.heap.size ∧ w.heap.size ≤ R ∧ w.heap.size ≤ K) := Lib.hid ⟨by omega, by omega, by omega⟩
  unfold outCells at hw2
  subst hw2
  clear hE hb hR hK hl1 hl2 b2 hQ hbs hz0 C0 y0 y1 HN
  go_wp2_with fail
  go_ret2
  exact ⟨_, R, K, rfl, HQ.out, B2.out, HL.out.1, HL.out.2.1, HL.out.2.2⟩

theorem two14 {W : World} {R : Nat} {a b : Value} {t : TypeId} (h : W.heap[R]? = some (.cells #[a, b] t (0, 0))) : W.cell? ⟨R, 0, none⟩ = some a ∧ W.cell? ⟨R, 1, none⟩ = some b := by simp [World.cell?, h]
/-- Two slices of bytes, laid one behind the other. -/
theorem cs_two {w : World} {p1 p2 : Option Addr} {c1 c2 : Nat} {xs ys : List UInt8} (h1 : RD w (.slice p1 xs.length c1) xs) (h2 : RD w (.slice p2 ys.length c2) ys) :
    CS (w.alloc (.cells #[.slice p1 xs.length c1, .slice p2 ys.length c2] 35)) (.slice (some ⟨w.heap.size, 0, none⟩) 2 2) [xs, ys] := by
  have hb := below_box w (.cells #[.slice p1 xs.length c1, .slice p2 ys.length c2] 35)
  have hn := World.alloc_heap_new w (.cells #[.slice p1 xs.length c1, .slice p2 ys.length c2] 35 (0, 0))
  refine ⟨[.slice p1 xs.length c1, .slice p2 ys.length c2], ⟨rfl, some ⟨w.heap.size, 0, none⟩, 2, rfl, Nat.le_refl _, by decide, (fun h => by cases h), fun ad hp i u hu => ?_⟩, rfl, fun i u x hu hx => ?_⟩
  · cases hp
    match i, hu with
    | 0, hu => simp only [List.getElem?_cons_zero, Option.some.injEq] at hu; subst hu; exact (two14 hn).1
    | 1, hu => simp only [List.getElem?_cons_succ, List.getElem?_cons_zero, Option.some.injEq] at hu; subst hu; exact (two14 hn).2
    | i + 2, hu => simp at hu
  · match i, hu, hx with
    | 0, hu, hx => simp only [List.getElem?_cons_zero, Option.some.injEq] at hu hx; subst hu hx; exact h1.below hb
    | 1, hu, hx => simp only [List.getElem?_cons_succ, List.getElem?_cons_zero, Option.some.injEq] at hu hx; subst hu hx; exact h2.below hb
    | i + 2, hu, _ => simp at hu

/-- What is kept, as bytes. -/
theorem kept_rd {O R K : Nat} {o : Rs} {w : World} (h : OuAt O R K o w) (hk : Ok o) (hs : o.shut = false) : ∃ p c, keptV O o = .slice p (o.A.drop o.W).length c ∧ RD w (.slice p (o.A.drop o.W).length c) (o.A.drop o.W) ∧ ∀ g, (Value.slice p (o.A.drop o.W).length c).ownBlock = some g → g = O := by
  obtain ⟨rm, hb, hA⟩ := h.blk
  unfold keptV
  cases hkb : keptB o with
  | false =>
    rw [kept_drop hk hs hkb]
    exact ⟨none, 0, rfl, RD.nil _, fun g hg => by simp [Value.ownBlock] at hg⟩
  | true =>
    rw [hA hkb]
    refine ⟨some ⟨O, 2, none⟩, 1, rfl, ⟨_, _, rfl, Nat.le_refl _, by decide, (fun h => by cases h), fun ad hp i b hi => ?_⟩, fun g hg => by cases hg; rfl⟩
    cases hp
    match i, hi with
    | 0, hi =>
      simp only [List.getElem?_cons_zero, Option.some.injEq] at hi
      subst hi
      exact (out_cells hb).1.2.2.1
    | i + 1, hi => simp at hi

set_option maxHeartbeats 4000000 in
theorem outEnd_any (O R K : Nat) (o : Rs) (l : List Fld) (p : Option Addr) (c : Nat) (w : World) (h : OuAt O R K o w) (hk : Ok o)
    (hK : ∀ W, Below w.heap.size w W → o.shut = false → Calls Tryz.prog 26 #[.slice p l.length c] W fun e w' => ∃ q d, e = .returned (.slice q (sel false l).length d) ∧ FS w' (.slice q (sel false l).length d) (sel false l) ∧ Below W.heap.size W w')
    (hE : ∀ W q d, Below w.heap.size w W → FS W (.slice q (sel false l).length d) (sel false l) → o.shut = false → Calls Tryz.prog 25 #[.pointer (some ⟨R, 0, none⟩), .slice q (sel false l).length d] W fun e w' => ∃ v, e = .returned (.tuple #[v, .int .i64 (endEx o.E (sel false l) : Int)]) ∧ EnQ R K (endEs o.E (sel false l)) W w' v (endBx o.E (sel false l)))
    (hb : o.A.length + (endBx o.E (sel false l)).length ≤ 1000000) :
    Calls Tryz.prog 10 #[.pointer (some ⟨O, 0, none⟩), .slice p l.length c] w fun e w' => ∃ v, e = .returned (.tuple #[v, .int .i64 (endOe o l : Int)]) ∧ OuQ O R K (endO o l) w w' v (endOb o l) := by
  obtain ⟨rm, hblk, hkp⟩ := h.blk
  obtain ⟨⟨c0, c1, c2, c3, c4, c5⟩, cf⟩ := out_cells hblk
  have hnR := h.neR
  have hnK := h.neK
  have hltO := h.lt
  have HH := Lib.hid h
  cases hs : o.shut with
  | true =>
    rw [hs] at c5
    have e1 : endO o l = o := if_pos (.inl hs)
    have e2 : endOe o l = 8 := if_pos hs
    have e3 : endOb o l = [] := if_pos (.inl hs)
    rw [e1, e2, e3]
    have HQ := Lib.hid (OuQ.none h (Below.refl _ _))
    clear h hk hK hE hb hblk hkp c0 c1 c2 c3 c4 cf e1 e2 e3 HH hs
    go_enter Tryz.func10, Tryz.ntmps10
    go_wp2_with fail
    go_ret2
    exact ⟨_, rfl, HQ.out⟩
  | false =>
    have HK : Hid (∀ W, Below w.heap.size w W → _) := Lib.hid fun W hb => hK W hb hs
    have HE : Hid (∀ W q d, Below w.heap.size w W → FS W (.slice q (sel false l).length d) (sel false l) → _) := Lib.hid fun W q d hb hF => hE W q d hb hF hs
    rw [hs] at c5
    have HC0 : Hid (∀ W : World, W.heap[O]? = w.heap[O]? → W.cell? ⟨O, 0, none⟩ = some (.pointer (some ⟨R, 0, none⟩))) := Lib.hid fun W hw => (out_cells (hw.trans hblk)).1.1
    have HX : Hid (∀ W w', Sol2 R K W w' → Below w.heap.size w W → w'.heap[O]? = w.heap[O]?) := Lib.hid fun W w' hsol hbw => (hsol.block O (Nat.lt_of_lt_of_le hltO hbw.size) hnR hnK).trans (hbw.block O hltO)
    have B0 : Hid (Below w.heap.size w w.drew) := Lib.hid ((Below.refl _ _).drew)
    obtain ⟨pk, ck, hkv, hkrd, hkown⟩ := kept_rd h hk hs
    by_cases he : endEx o.E (sel false l) = 0
    · have hstop : ¬ stopE o l := fun e => by
        rcases e with e | e
        · rw [hs] at e; cases e
        · exact e he
      have e2 : endOe o l = 0 := by unfold endOe; rw [if_neg (by rw [hs]; decide)]; exact he
      rw [e2]
      rw [he] at HE
      have hbs := end_bytes hk hstop
      have hwr := end_written hk hstop
      have hlow := hk.low
      have hzn : endO o l = ⟨endEs o.E (sel false l), endA o l, (endA o l).length, true⟩ := if_neg hstop
      have hz : ∀ (w3 : World) (x : UInt8) (kv : Value) (n : Nat), w3.heap[O]? = some (.cells (outCells R (fixK o.E.k) x kv n true) 56 (0, 0)) → kv = .slice none 0 0 → n = o.W + (endOb o l).length → EnAt R K (endEs o.E (sel false l)) w3 → OuAt O R K (endO o l) w3 := fun w3 x kv n hh hkv hn hE => by
        have hkf : keptB (endO o l) = false := by rw [hzn]; rfl
        refine ⟨⟨x, ?_, fun hh => by rw [hkf] at hh; cases hh⟩, by rw [hzn]; exact hE, hnR, hnK⟩
        unfold keptV
        rw [hkf, hwr, ← hn, hzn]
        subst hkv
        exact hh
      have HZ := Lib.hid hz
      have hlen : o.W + (endOb o l).length ≤ 1000000 := by rw [hbs, List.length_append, List.length_drop]; omega
      have HBS := Lib.hid hbs
      rw [hs] at hblk
      have HB := Lib.hid hblk
      have HKR : Hid (∀ W : World, W.heap[O]? = w.heap[O]? → RD W (.slice pk (o.A.drop o.W).length ck) (o.A.drop o.W)) := Lib.hid fun W hw => hkrd.kept fun g hg => by rw [hkown g hg]; exact hw
      rw [hkv] at c3 HB
      have HC3 : Hid (∀ W : World, W.heap[O]? = w.heap[O]? → W.cell? ⟨O, 3, none⟩ = some (.slice pk (o.A.drop o.W).length ck)) := Lib.hid fun W hw => (out_cells (hw.trans HB.out)).1.2.2.2.1
      generalize o.A.drop o.W = ka at *
      generalize endBx o.E (sel false l) = bx at *
      generalize endEs o.E (sel false l) = E2 at *
      generalize endOb o l = ob at *
      generalize endO o l = o2 at *
      generalize sel false l = ls at *
      clear h hk hK hE hb hblk hkp c0 c1 c2 c3 c4 cf e2 hs he hkv hkrd hkown hstop hbs hwr hlow hzn hz
      go_enter Tryz.func10, Tryz.ntmps10
      go_wp2_with fail
      go_region_held3 (fun W => W.cell? ⟨O, 0, none⟩ = some (.pointer (some ⟨R, 0, none⟩)))
        ((refine HC0.out _ ?_; first | exact B0.out.block O hltO | exact (BA.out.block O hltO) | exact SB.out))
        (first
        | (go_at_call 26; refine (HK.out _ B0.out).mono ?_; rintro e w' ⟨q1, d1, rfl, hF, hb'⟩; have HF := Lib.hid hF; have BA := Lib.hid (ahead B0.out hb'); clear hb' hF)
        | (go_at_call 25; refine (HE.out _ _ _ BA.out HF.out).mono ?_; rintro e w' ⟨v, rfl, hQ⟩; have SB := Lib.hid (HX.out _ _ hQ.sol BA.out); have HQ := Lib.hid hQ; clear hQ))
      all_goals
        rename_i hHeld
        clear hHeld
        have x3 := HC3.out w' SB.out
        obtain ⟨pv, cv, rfl, -⟩ := id HQ.out.rd
        have hcs := cs_two (HKR.out w' SB.out) HQ.out.rd
        have hbw := below_box w' (.cells #[.slice pk ka.length ck, .slice pv bx.length cv] 35)
        obtain ⟨w3, hw3⟩ : ∃ w3, w'.alloc (.cells #[.slice pk ka.length ck, .slice pv bx.length cv] 35) = w3 := ⟨_, rfl⟩
        rw [hw3] at hcs hbw
        have hfl : [ka, bx].flatten = ob := by rw [HBS.out]; simp
        have HCC := Lib.hid (concat14_any [ka, bx] (some ⟨w'.heap.size, 0, none⟩) 2 w3 hcs (by rw [hfl]; omega) (by simp))
        rw [hfl, show [ka, bx].length = 2 from rfl] at HCC
        have H3 := Lib.hid (show w3.heap[O]? = w.heap[O]? from (hbw.block O (by have h1 := BA.out.size; have h2 := HQ.out.sol.size; omega)).trans SB.out)
        have HE3 := Lib.hid (HQ.out.at_.below hbw)
        have HS3 := Lib.hid (((Sol3.of_below (O := O) BA.out).trans (Sol3.of_enc HQ.out.sol)).trans (Sol3.of_below hbw))
        have W3 := Lib.hid hw3
        clear hcs hbw hfl hw3 HQ SB HK HE HKR HC3
        generalize hka : ka.length = nk at *
        generalize hbx : bx.length = nb at *
        go_wp2_with fail
        rw [W3.out]
        refine HCC.out.mono ?_
        rintro e w4 ⟨v4, rfl, hO4⟩
        obtain ⟨p4, c4, rfl⟩ := hO4.slice
        have h4 := ((hO4.below.block O (Nat.lt_of_lt_of_le hltO HS3.out.size)).trans H3.out).trans HB.out
        have HCL := Lib.hid (close14_any O R o.W _ _ rm _ w4 h4)
        have h5 := heap_set (i := 3) (.slice none 0 0) (heap_set (i := 5) (.bool true) h4)
        obtain ⟨w5, hw5⟩ : ∃ w5, (w4.setCell ⟨O, 5, none⟩ (.bool true)).setCell ⟨O, 3, none⟩ (.slice none 0 0) = w5 := ⟨_, rfl⟩
        have hfar : ∀ g, g ≠ O → w5.heap[g]? = w4.heap[g]? := fun g hg => by
          rw [← hw5]
          exact (Below.heap_setCell _ ⟨O, 3, none⟩ _ _ hg).trans (Below.heap_setCell _ ⟨O, 5, none⟩ _ _ hg)
        have hz5 : w5.heap.size = w4.heap.size := by rw [← hw5]; simp [World.setCell]
        rw [hw5] at h5
        have h5' : w5.heap[O]? = some (.cells (outCells R (fixK o.E.k) rm (.slice none 0 0) o.W true) 56 (0, 0)) := h5
        have HCO := Lib.hid (count14_any O R o.W ob.length c4 _ _ rm _ p4 w5 h5' (by omega))
        have h6 := heap_set (i := 4) (.int .i64 ((o.W + ob.length : Nat) : Int)) h5'
        have hE4 := HE3.out.below hO4.below
        have hE5 := hE4.keep (hfar R (Ne.symm hnR)) (hfar K (Ne.symm hnK))
        have hE6 := hE5.keep (Below.heap_setCell w5 ⟨O, 4, none⟩ (.int .i64 ((o.W + ob.length : Nat) : Int)) R (Ne.symm hnR)) (Below.heap_setCell w5 ⟨O, 4, none⟩ (.int .i64 ((o.W + ob.length : Nat) : Int)) K (Ne.symm hnK))
        have hS5 : Sol3 O R K w4 w5 := by rw [← hw5]; exact (Sol3.set O R K 5 _ w4).trans (Sol3.set O R K 3 _ _)
        have hs3 := HS3.out.size
        have hQ6 : OuQ O R K o2 w (w5.setCell ⟨O, 4, none⟩ (.int .i64 ((o.W + ob.length : Nat) : Int))) (.slice p4 ob.length c4) ob := by
          refine ⟨HZ.out _ rm _ _ h6 rfl rfl hE6, ?_, ((HS3.out.trans (Sol3.of_below hO4.below)).trans hS5).trans (Sol3.set O R K 4 _ w5), fun g hg => by have := hO4.own g hg; simp [World.setCell]; omega⟩
          refine (hO4.rd.kept fun g hg => hfar g ?_).kept fun g hg => Below.heap_setCell _ _ _ _ ?_
          · have := (hO4.own g hg).1; omega
          · have := (hO4.own g hg).1; show g ≠ O; omega
        have HQ6 := Lib.hid hQ6
        have W5 := Lib.hid hw5
        clear hO4 h4 h5 hw5 hfar hz5 h5' h6 hE4 hE5 hE6 hS5 hs3 hQ6 HCC W3 HS3 HE3 H3 HZ
        go_wp2_with fail
        refine HCL.out.mono ?_
        rintro e w6 ⟨rfl, rfl⟩
        rw [W5.out]
        go_wp2_with fail
        refine HCO.out.mono ?_
        rintro e w6 ⟨rfl, rfl⟩
        go_wp2_with fail
        go_ret2
        exact ⟨_, rfl, HQ6.out⟩
    · have e1 : endO o l = o := if_pos (.inr he)
      have e2 : endOe o l = endEx o.E (sel false l) := by unfold endOe; rw [if_neg (by rw [hs]; decide)]
      have e3 : endOb o l = [] := if_pos (.inr he)
      have e4 : endEs o.E (sel false l) = o.E := by unfold endEs; rw [decide_eq_false he, Bool.or_false]
      rw [e1, e2, e3]
      rw [e4] at HE
      have hz : ((endEx o.E (sel false l) : Int) == 0) = false := beq_eq_false_iff_ne.2 (by omega)
      generalize endBx o.E (sel false l) = bx at *
      generalize endEx o.E (sel false l) = q at *
      generalize sel false l = ls at *
      clear h hk hK hE hb hblk hkp c0 c1 c2 c3 c4 cf e1 e2 e3 e4 hs he hkv hkrd hkown
      go_enter Tryz.func10, Tryz.ntmps10
      go_wp2_with fail
      go_region_held3 (fun W => W.cell? ⟨O, 0, none⟩ = some (.pointer (some ⟨R, 0, none⟩)))
        ((refine HC0.out _ ?_; first | exact B0.out.block O hltO | exact (BA.out.block O hltO) | exact SB.out))
        (first
        | (go_at_call 26; refine (HK.out _ B0.out).mono ?_; rintro e w' ⟨q1, d1, rfl, hF, hb'⟩; have HF := Lib.hid hF; have BA := Lib.hid (ahead B0.out hb'); clear hb' hF)
        | (go_at_call 25; refine (HE.out _ _ _ BA.out HF.out).mono ?_; rintro e w' ⟨v, rfl, hQ⟩; have SB := Lib.hid (HX.out _ _ hQ.sol BA.out); have HQ := Lib.hid hQ; clear hQ))
      all_goals
        rename_i hHeld
        clear hHeld
        have HZ := Lib.hid (show OuQ O R K o w w' (.slice none 0 0) [] from ⟨HH.out.keep SB.out (HQ.out.at_.enc.trans HH.out.enc.enc.symm) (HQ.out.at_.knd.trans HH.out.enc.knd.symm), RD.nil _, (Sol3.of_below BA.out).trans (Sol3.of_enc HQ.out.sol), fun g hg => by simp [Value.ownBlock] at hg⟩)
        go_wp2_with fail
        go_ret2
        exact ⟨_, rfl, HZ.out⟩

end Go.Proofs.YtilebfpaibajcaaGreatDoor
