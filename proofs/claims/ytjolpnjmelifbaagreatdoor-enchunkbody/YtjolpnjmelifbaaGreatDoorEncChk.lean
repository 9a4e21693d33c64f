/- A chunked encoder: made, given data, ended. -/
import Derived.Test.YtjolpnjmelifbaaGreatDoorEncCount
namespace Go.Proofs.YtjolpnjmelifbaaGreatDoor
open Go.ChangeShapes Go.WideShapes Go.ChangeAt Go.RowKit
open Oc Fl Bk Bd
set_option linter.unusedVariables false
set_option maxRecDepth 100000

/-- An open chunked encoder lies at the block R, what it counts at the block K. -/
structure ChkAt (R K d : Nat) (W : World) : Prop where
  enc : W.heap[R]? = some (.cells #[.iface 62 (.pointer (some ⟨K, 0, none⟩)), .bool false] 61 (0, 0))
  knd : W.heap[K]? = some (.cells #[.int .i64 (d : Int)] 64 (0, 0))
  ne : R ≠ K
theorem ChkAt.ltK {R K d : Nat} {W : World} (h : ChkAt R K d W) : K < W.heap.size := (Array.getElem?_eq_some_iff.1 h.knd).1
theorem ChkAt.ltR {R K d : Nat} {W : World} (h : ChkAt R K d W) : R < W.heap.size := (Array.getElem?_eq_some_iff.1 h.enc).1
theorem ChkAt.keep {R K d : Nat} {W W' : World} (h : ChkAt R K d W) (h1 : W'.heap[R]? = W.heap[R]?) (h2 : W'.heap[K]? = W.heap[K]?) : ChkAt R K d W' := ⟨h1.trans h.enc, h2.trans h.knd, h.ne⟩
theorem ChkAt.below {R K d : Nat} {W W' : World} (h : ChkAt R K d W) (hb : Below W.heap.size W W') : ChkAt R K d W' := h.keep (hb.block R h.ltR) (hb.block K h.ltK)
theorem ChkAt.set {R K d : Nat} (e : Nat) {W : World} (h : ChkAt R K d W) : ChkAt R K e (W.setCell ⟨K, 0, none⟩ (.int .i64 (e : Int))) :=
  ⟨(Below.heap_setCell _ _ _ _ h.ne).trans h.enc, heap_set _ h.knd, h.ne⟩

/-- What Put leaves. -/
structure ChkQ (R K d : Nat) (w w' : World) (v : Value) (ys : List UInt8) : Prop where
  at_ : ChkAt R K d w'
  rd : RD w' v ys
  sol : Sol10 K w w'

set_option maxHeartbeats 2000000 in
theorem cput_any (R K d : Nat) (xs : List UInt8) (p : Option Addr) (c : Nat) (w : World) (h : ChkAt R K d w) (hx : RD w (.slice p xs.length c) xs) (hp : xs ≠ [] → ∀ g, (Value.slice p xs.length c).ownBlock = some g → g ≠ K) (hl : xs.length ≤ 100000) (hd : d ≤ 4611686018427387903) (hz : Tz w) (hg : 3 ≠ K) :
    Calls Tryz.prog 117 #[.pointer (some ⟨K, 0, none⟩), .slice p xs.length c] w fun e w' => ∃ v, e = .returned (.tuple #[v, .int .i64 0]) ∧ ChkQ R K (d + xs.length) w w' v (ck [] xs) := by
  have HD := Lib.hid (add_any K xs.length d c p _ _ w h.knd rfl (by omega))
  have x2 : RD (w.setCell ⟨K, 0, none⟩ (.int .i64 ((d + xs.length : Nat) : Int))) (.slice p xs.length c) xs := hx.keep fun hne k hk => Below.heap_setCell _ _ _ _ (hp hne k hk)
  have hz2 : Tz (w.setCell ⟨K, 0, none⟩ (.int .i64 ((d + xs.length : Nat) : Int))) := by
    unfold Tz at hz ⊢
    rw [World.cell?_of_block (Below.heap_setCell _ _ _ _ hg)]
    exact hz
  have HC := Lib.hid (chunk10_any xs p c _ x2 (by omega) hz2)
  have H2 := Lib.hid (h.set (d + xs.length))
  have S2 := Lib.hid (Sol10.set K 0 (.int .i64 ((d + xs.length : Nat) : Int)) w)
  clear h hx hp x2 hz hz2
  go_enter Tryz.func117, Tryz.ntmps117
  go_wp2_with fail
  refine HD.out.mono ?_
  rintro e w2 ⟨rfl, rfl⟩
  go_wp2_with fail
  refine HC.out.mono ?_
  rintro e w3 ⟨v, rfl, hO⟩
  have HQ := Lib.hid (show ChkQ R K (d + xs.length) w w3 v (ck [] xs) from ⟨H2.out.below hO.below, hO.rd, S2.out.trans (Sol10.of_below hO.below)⟩)
  clear hO HD HC
  go_wp2_with fail
  go_ret2
  exact ⟨_, rfl, HQ.out⟩

set_option maxHeartbeats 2000000 in
theorem chkPut_any (R K d : Nat) (xs : List UInt8) (p : Option Addr) (c : Nat) (w : World) (h : ChkAt R K d w) (hx : RD w (.slice p xs.length c) xs) (hp : xs ≠ [] → ∀ g, (Value.slice p xs.length c).ownBlock = some g → g ≠ K) (hl : xs.length ≤ 100000) (hd : d ≤ 4611686018427387903) (hz : Tz w) (hg : 3 ≠ K) :
    Calls Tryz.prog 8 #[.pointer (some ⟨R, 0, none⟩), .slice p xs.length c] w fun e w' => ∃ v, e = .returned (.tuple #[v, .int .i64 0]) ∧ ChkQ R K (d + xs.length) w w' v (ck [] xs) := by
  have HP := Lib.hid (cput_any R K d xs p c w h hx hp hl hd hz hg)
  have hR := h.enc
  have c0 : w.cell? ⟨R, 0, none⟩ = some (.iface 62 (.pointer (some ⟨K, 0, none⟩))) := by simp [World.cell?, hR]
  have c1 : w.cell? ⟨R, 1, none⟩ = some (.bool false) := by simp [World.cell?, hR]
  clear h hx hp hR hz
  go_enter Tryz.func8, Tryz.ntmps8
  go_wp2_with fail
  refine HP.out.mono ?_
  rintro e w3 ⟨v, rfl, hQ⟩
  go_wp2_with fail
  go_ret2
  exact ⟨_, rfl, hQ⟩

set_option maxHeartbeats 1000000 in
theorem cend_any (K : Nat) (l : List Fld) (p : Option Addr) (c : Nat) (w : World) (hF : FS w (.slice p l.length c) l) (hl : bulk l ≤ 2000) (hsp : Spans w) :
    Calls Tryz.prog 115 #[.pointer (some ⟨K, 0, none⟩), .slice p l.length c] w fun e w' => ∃ v, e = .returned (.tuple #[v, .int .i64 (putE l)]) ∧ Own10 w w' v (lastB l) := by
  have HL := Lib.hid (last_any l p c w hF hl hsp)
  clear hF hsp
  generalize putE l = pe at *
  go_enter Tryz.func115, Tryz.ntmps115
  go_wp2_with fail
  refine HL.out.mono ?_
  rintro e w1 ⟨v, rfl, hO⟩
  have HO := Lib.hid hO
  clear hO
  go_wp2_with fail
  go_ret2
  exact ⟨_, rfl, HO.out⟩

/-- What End leaves: bytes in memory of its own; of what lay before only the encoder's block is written. -/
structure EndQ10 (R : Nat) (w w' : World) (v : Value) (ys : List UInt8) : Prop where
  rd : RD w' v ys
  sol : Sol10 R w w'
  own : ∀ g, v.ownBlock = some g → w.heap.size ≤ g ∧ g < w'.heap.size

set_option maxHeartbeats 2000000 in
theorem chkEnd_any (R K d : Nat) (l : List Fld) (p : Option Addr) (c : Nat) (w : World) (h : ChkAt R K d w) (hF : FS w (.slice p l.length c) l) (hl : bulk l ≤ 2000) (hsp : Spans w) :
    Calls Tryz.prog 9 #[.pointer (some ⟨R, 0, none⟩), .slice p l.length c] w fun e w' => ∃ v, e = .returned (.tuple #[v, .int .i64 (putE l)]) ∧ EndQ10 R w w' v (lastB l) := by
  have HP := Lib.hid (cend_any K l p c w hF hl hsp)
  have hR := h.enc
  have hlt := h.ltR
  have c0 : w.cell? ⟨R, 0, none⟩ = some (.iface 62 (.pointer (some ⟨K, 0, none⟩))) := by simp [World.cell?, hR]
  have c1 : w.cell? ⟨R, 1, none⟩ = some (.bool false) := by simp [World.cell?, hR]
  have HR := Lib.hid hR
  have HLT := Lib.hid hlt
  clear h hR hF hsp hlt
  have key : ∀ w1 v, Own10 w w1 v (lastB l) → ∀ x, EndQ10 R w (w1.setCell ⟨R, 1, none⟩ x) v (lastB l) := fun w1 v hO x =>
    ⟨hO.rd.kept fun k hk => Below.heap_setCell _ _ _ _ (by have h1 := (hO.own k hk).1; have h2 := HLT.out; show k ≠ R; omega), (Sol10.of_below hO.below).trans (Sol10.set R 1 x w1), fun g hg => by have := hO.own g hg; simpa [World.setCell] using this⟩
  have HK := Lib.hid key
  have g2 : ∀ w1 : World, Below w.heap.size w w1 → w1.cell? ⟨R, 1, none⟩ = some (.bool false) ∧ w1.frozen? ⟨R, 1, none⟩ = false := fun w1 hb => by
    have := (hb.block R HLT.out).trans HR.out
    simp [World.cell?, World.frozen?, this]
  have HG := Lib.hid g2
  clear key g2
  have he : putE l = 1 ∨ putE l = 0 := by unfold putE; split <;> simp
  rcases he with he | he
  · rw [he] at HP ⊢
    clear he
    go_enter Tryz.func9, Tryz.ntmps9
    go_wp2_with fail
    refine HP.out.mono ?_
    rintro e w1 ⟨v, rfl, hO⟩
    obtain ⟨q0, q1⟩ := HG.out w1 hO.below
    have HQ := Lib.hid (HK.out w1 v hO)
    clear hO HP
    go_wp2_with fail
    go_ret2
    exact ⟨_, rfl, HQ.out _⟩
  · rw [he] at HP ⊢
    clear he
    go_enter Tryz.func9, Tryz.ntmps9
    go_wp2_with fail
    refine HP.out.mono ?_
    rintro e w1 ⟨v, rfl, hO⟩
    obtain ⟨q0, q1⟩ := HG.out w1 hO.below
    have HQ := Lib.hid (HK.out w1 v hO)
    clear hO HP
    go_wp2_with fail
    go_ret2
    exact ⟨_, rfl, HQ.out _⟩

set_option maxHeartbeats 1000000 in
theorem chkNew_any (w : World) :
    Calls Tryz.prog 7 #[.agg #[.int .i64 2, .int .u64 0]] w fun e w' => ∃ R K, e = .returned (.tuple #[.pointer (some ⟨R, 0, none⟩), .int .i64 0]) ∧ ChkAt R K 0 w' ∧ Below w.heap.size w w' ∧ w.heap.size ≤ R ∧ w.heap.size ≤ K := by
  obtain ⟨w1, hw1⟩ : ∃ w1, w.alloc (.cells #[.int .i64 2, .int .u64 0] 36) = w1 := ⟨_, rfl⟩
  obtain ⟨w2, hw2⟩ : ∃ w2, w1.alloc (.cells #[.int .i64 0] 64) = w2 := ⟨_, rfl⟩
  obtain ⟨w3, hw3⟩ : ∃ w3, w2.alloc (.cells #[.iface 62 (.pointer (some ⟨w1.heap.size, 0, none⟩)), .bool false] 61) = w3 := ⟨_, rfl⟩
  have b1 : Below w.heap.size w w1 := by rw [← hw1]; exact below_box _ _
  have b2 : Below w1.heap.size w1 w2 := by rw [← hw2]; exact below_box _ _
  have b3 : Below w2.heap.size w2 w3 := by rw [← hw3]; exact below_box _ _
  have z1 : w1.heap.size = w.heap.size + 1 := by rw [← hw1]; simp
  have z2 : w2.heap.size = w1.heap.size + 1 := by rw [← hw2]; simp
  have hQ : ChkAt w2.heap.size w1.heap.size 0 w3 ∧ Below w.heap.size w w3 ∧ w.heap.size ≤ w2.heap.size ∧ w.heap.size ≤ w1.heap.size := by
    refine ⟨⟨?_, ?_, by omega⟩, ahead (ahead b1 b2) b3, by omega, by omega⟩
    · rw [← hw3]; exact World.alloc_heap_new w2 _
    · rw [b3.block _ (by omega), ← hw2]; exact World.alloc_heap_new w1 _
  rw [z2, z1] at hQ
  rw [z1] at hw3
  rw [← hw3, ← hw2, ← hw1] at hQ
  have HQ := Lib.hid hQ
  clear b1 b2 b3 z1 z2 hQ hw1 hw2 hw3
  go_enter Tryz.func7, Tryz.ntmps7
  go_wp2_with fail
  go_ret2
  exact ⟨w.heap.size + 1 + 1, w.heap.size + 1, rfl, HQ.out⟩

end Go.Proofs.YtjolpnjmelifbaaGreatDoor
