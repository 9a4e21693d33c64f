/- An encoder of a size. -/
import Derived.Test.YtilebfpaibajcaaGreatDoorMF
import Derived.Test.YtilebfpaibajcaaGreatDoorByteSame
namespace Go.Proofs.YtilebfpaibajcaaGreatDoor
open Go.ChangeShapes Go.WideShapes Go.ChangeAt Go.RowKit
open Oc Fl Bk Bd
set_option linter.unusedVariables false
set_option maxRecDepth 100000

/-- An open encoder of a size lies at the block R, what it counts at the block K. -/
structure FixAt (R K size d : Nat) (W : World) : Prop where
  enc : W.heap[R]? = some (.cells #[.iface 87 (.pointer (some ⟨K, 0, none⟩)), .bool false] 73 (0, 0))
  knd : W.heap[K]? = some (.cells #[.int .i64 (d : Int), .int .u64 (size : Int)] 91 (0, 0))
  ne : R ≠ K
  le : d ≤ size
  big : size ≤ 4611686018427387903
theorem FixAt.below {R K size d : Nat} {W W' : World} (h : FixAt R K size d W) (hb : Below W.heap.size W W') : FixAt R K size d W' :=
  ⟨(hb.block R (Array.getElem?_eq_some_iff.1 h.enc).1).trans h.enc, (hb.block K (Array.getElem?_eq_some_iff.1 h.knd).1).trans h.knd, h.ne, h.le, h.big⟩
theorem FixAt.lt {R K size d : Nat} {W : World} (h : FixAt R K size d W) : K < W.heap.size := (Array.getElem?_eq_some_iff.1 h.knd).1
theorem FixAt.set {R K size d e : Nat} {W : World} (h : FixAt R K size d W) (he : e ≤ size) : FixAt R K size e (W.setCell ⟨K, 0, none⟩ (.int .i64 (e : Int))) :=
  ⟨(Below.heap_setCell _ _ _ _ h.ne).trans h.enc, heap_set _ h.knd, h.ne, he, h.big⟩

set_option maxHeartbeats 1000000 in
theorem fleft_any (R K size d : Nat) (w : World) (h : FixAt R K size d w) :
    Calls Tryz.prog 138 #[.pointer (some ⟨K, 0, none⟩)] w fun e w' => e = .returned (.int .u64 ((size - d : Nat) : Int)) ∧ ∃ m, w' = w.drewN m := by
  have hK := h.knd
  have hle := h.le
  have hbg := h.big
  have c1 : w.cell? ⟨K, 1, none⟩ = some (.int .u64 (size : Int)) := by simp [World.cell?, hK]
  have HG : Hid (∀ n, _) := Lib.hid fun n => given10_any K d _ _ (w.drewN n) hK rfl
  have hw : IntKind.u64.wrap (d : Int) = (d : Int) := IntWalk.u64_in _ (by omega)
  have hs : IntKind.u64.wrap ((size : Int) - (d : Int)) = ((size - d : Nat) : Int) := by rw [IntWalk.u64_in _ (by omega)]; omega
  clear h hK
  generalize size - d = s at *
  go_enter Tryz.func138, Tryz.ntmps138
  go_wp2_with fail
  go_quiet ((go_at_call 137; exact Calls.quiet_of_same ((HG.out _).mono fun _ _ h => ⟨h.1, h.2.symm⟩)))
  go_wp2_with fail
  go_ret
  exact ⟨rfl, _, rfl⟩

/-- What Put of it answers. -/
def fixB (size d : Nat) (xs : List UInt8) : List UInt8 := if size < d + xs.length then [] else xs
def fixE (size d : Nat) (xs : List UInt8) : Nat := if size < d + xs.length then 6 else 0
def fixD (size d : Nat) (xs : List UInt8) : Nat := if size < d + xs.length then d else d + xs.length
/-- What a call leaves of such an encoder. -/
structure FixQ (R K size d : Nat) (w w' : World) (v : Value) (ys : List UInt8) : Prop where
  at_ : FixAt R K size d w'
  rd : RD w' v ys
  sol : Sol10 K w w'
  own : ∀ g, v.ownBlock = some g → w.heap.size ≤ g ∧ g < w'.heap.size

set_option maxHeartbeats 2000000 in
theorem fput_any (R K size d : Nat) (xs : List UInt8) (p : Option Addr) (c : Nat) (w : World) (h : FixAt R K size d w) (hx : RD w (.slice p xs.length c) xs) (hp : xs ≠ [] → ∀ g, (Value.slice p xs.length c).ownBlock = some g → g ≠ K) (hl : xs.length ≤ 100000) :
    Calls Tryz.prog 139 #[.pointer (some ⟨K, 0, none⟩), .slice p xs.length c] w fun e w' => ∃ v, e = .returned (.tuple #[v, .int .i64 (fixE size d xs : Int)]) ∧ FixQ R K size (fixD size d xs) w w' v (fixB size d xs) := by
  have hle := h.le
  have hbg := h.big
  have HL := Lib.hid (fleft_any R K size d w h)
  have hw : IntKind.u64.wrap (xs.length : Int) = (xs.length : Int) := IntWalk.u64_in _ (by omega)
  have HX := Lib.hid hx
  have HA := Lib.hid h
  have HP := Lib.hid hp
  clear h hx hp
  by_cases ho : size < d + xs.length
  · rw [show fixE size d xs = 6 from if_pos ho, show fixD size d xs = d from if_pos ho, show fixB size d xs = [] from if_pos ho]
    have ho' : ((size - d : Nat) : Int) < (xs.length : Int) := by omega
    clear ho
    generalize size - d = s at *
    go_enter Tryz.func139, Tryz.ntmps139
    go_wp2_with fail
    refine HL.out.mono ?_
    rintro e w1 ⟨rfl, m, rfl⟩
    have HQ := Lib.hid (show FixQ R K size d w (w.drewN m) (.slice none 0 0) [] from ⟨HA.out.below (drewN_below8 _ _), RD.nil _, Sol10.of_below (drewN_below8 _ _), fun g hg => by simp [Value.ownBlock] at hg⟩)
    clear HL
    go_wp2_with fail
    go_ret2
    exact ⟨_, rfl, HQ.out⟩
  · rw [show fixE size d xs = 0 from if_neg ho, show fixD size d xs = d + xs.length from if_neg ho, show fixB size d xs = xs from if_neg ho]
    have ho' : ¬ ((size - d : Nat) : Int) < (xs.length : Int) := by omega
    have hds : d + xs.length ≤ size := by omega
    clear ho
    generalize size - d = s at *
    go_enter Tryz.func139, Tryz.ntmps139
    go_wp2_with fail
    refine HL.out.mono ?_
    rintro e w1 ⟨rfl, m, rfl⟩
    have h1 := HA.out.below (drewN_below8 w m)
    have HD := Lib.hid (add_any K xs.length d c p _ _ (w.drewN m) h1.knd rfl (by omega))
    have h2 := h1.set (e := d + xs.length) hds
    have x2 : RD ((w.drewN m).setCell ⟨K, 0, none⟩ (.int .i64 ((d + xs.length : Nat) : Int))) (.slice p xs.length c) xs := (rd_drewN HX.out m).keep fun hne k hk => Below.heap_setCell _ _ _ _ (HP.out hne k hk)
    have HC := Lib.hid (clone10_any xs p c _ x2 hl)
    have H2 := Lib.hid h2
    have S2 := Lib.hid ((Sol10.of_below (R := K) (drewN_below8 w m)).trans (Sol10.set K 0 (.int .i64 ((d + xs.length : Nat) : Int)) (w.drewN m)))
    clear HL h1 h2 x2
    go_wp2_with fail
    refine HD.out.mono ?_
    rintro e w2 ⟨rfl, rfl⟩
    go_wp2_with fail
    refine HC.out.mono ?_
    rintro e w3 ⟨v, rfl, hO⟩
    have HQ := Lib.hid (show FixQ R K size (d + xs.length) w w3 v xs from ⟨H2.out.below hO.below, hO.rd, S2.out.trans (Sol10.of_below hO.below), fun g hg => by have := hO.own g hg; simpa [World.setCell] using this⟩)
    clear hO HD HC
    go_wp2_with fail
    go_ret2
    exact ⟨_, rfl, HQ.out⟩

set_option maxHeartbeats 2000000 in
theorem fixPut_any (R K size d : Nat) (xs : List UInt8) (p : Option Addr) (c : Nat) (w : World) (h : FixAt R K size d w) (hx : RD w (.slice p xs.length c) xs) (hp : xs ≠ [] → ∀ g, (Value.slice p xs.length c).ownBlock = some g → g ≠ K) (hl : xs.length ≤ 100000) :
    Calls Tryz.prog 32 #[.pointer (some ⟨R, 0, none⟩), .slice p xs.length c] w fun e w' => ∃ v, e = .returned (.tuple #[v, .int .i64 (fixE size d xs : Int)]) ∧ FixQ R K size (fixD size d xs) w w' v (fixB size d xs) := by
  have HP := Lib.hid (fput_any R K size d xs p c w h hx hp hl)
  have hR := h.enc
  have c0 : w.cell? ⟨R, 0, none⟩ = some (.iface 87 (.pointer (some ⟨K, 0, none⟩))) := by simp [World.cell?, hR]
  have c1 : w.cell? ⟨R, 1, none⟩ = some (.bool false) := by simp [World.cell?, hR]
  clear h hx hp hR
  go_enter Tryz.func32, Tryz.ntmps32
  go_wp2_with fail
  refine HP.out.mono ?_
  rintro e w3 ⟨v, rfl, hQ⟩
  go_wp2_with fail
  go_ret2
  exact ⟨_, rfl, hQ⟩

end Go.Proofs.YtilebfpaibajcaaGreatDoor
