/- What takes the bytes of one framing of an intake, in memory; what its methods answer. -/
import Derived.Test.YtjkccacpffikbaaDoorIntMath
import Derived.Test.YtjkccacpffikbaaDoorDecAt
import Derived.Test.YtjkccacpffikbaaDoorCloneMem
namespace Go.Proofs.YtjkccacpffikbaaDoor
open Go.ChangeShapes Go.WideShapes Go.ChangeAt Go.RowKit
open Oc Fl Bk Bd Dk Ik
set_option linter.unusedVariables false
set_option maxRecDepth 100000

/-- k lies at the block K, is of the type T; its blocks are M's. -/
def KdAt (K : Nat) (k : Kd) (T : TypeId) (M : Nat → Prop) (W : World) : Prop :=
  match k with
  | .fix n c => T = 60 ∧ (M = fun g => g = K) ∧ W.heap[K]? = some (.cells #[.int .i64 (c : Int), .int .u64 (n : Int)] 62 (0, 0)) ∧ n ≤ 4611686018427387903
  | .unt b c => T = 55 ∧ (M = fun g => g = K) ∧ W.heap[K]? = some (.cells #[.int .i64 (c : Int), .bool b] 59 (0, 0))
  | .dec l x => T = 48 ∧ DecAt K l x M W ∧ l.ext ≤ 65536 ∧ l.fields ≤ 65536 ∧ l.bytes ≤ 65536

section
variable {K : Nat} {k : Kd} {T : TypeId} {M : Nat → Prop} {W W' : World}
theorem KdAt.lt (h : KdAt K k T M W) {g : Nat} (hg : M g) : g < W.heap.size := by
  cases k with
  | fix n c =>
    obtain ⟨-, rfl, h3, -⟩ := h
    obtain rfl := hg
    exact (Array.getElem?_eq_some_iff.1 h3).1
  | unt b c =>
    obtain ⟨-, rfl, h3⟩ := h
    obtain rfl := hg
    exact (Array.getElem?_eq_some_iff.1 h3).1
  | dec l x => exact (h.2.1.lt hg).2
theorem KdAt.below (h : KdAt K k T M W) (hb : Below W.heap.size W W') : KdAt K k T M W' := by
  cases k with
  | fix n c =>
    obtain ⟨h1, h2, h3, h4⟩ := h
    exact ⟨h1, h2, (hb.block K (Array.getElem?_eq_some_iff.1 h3).1).trans h3, h4⟩
  | unt b c =>
    obtain ⟨h1, h2, h3⟩ := h
    exact ⟨h1, h2, (hb.block K (Array.getElem?_eq_some_iff.1 h3).1).trans h3⟩
  | dec l x => exact ⟨h.1, h.2.1.below hb, h.2.2⟩
/-- A block beside it is written. -/
theorem KdAt.beside {R i : Nat} {v : Value} (h : KdAt K k T M W) (hR : ¬ M R) (hlow : 0 < R) : KdAt K k T M (W.setCell ⟨R, i, none⟩ v) := by
  cases k with
  | fix n c =>
    obtain ⟨h1, rfl, h3, h4⟩ := h
    exact ⟨h1, rfl, (Below.heap_setCell _ _ _ _ (fun e => hR e.symm)).trans h3, h4⟩
  | unt b c =>
    obtain ⟨h1, rfl, h3⟩ := h
    exact ⟨h1, rfl, (Below.heap_setCell _ _ _ _ (fun e => hR e.symm)).trans h3⟩
  | dec l x =>
    refine ⟨h.1, h.2.1.moved (fun g hg => Below.heap_setCell _ _ _ _ (fun (e : g = R) => hR (by rw [← e]; exact hg))) (h.2.1.spans.set hlow), h.2.2⟩

/-- What a piece leaves. -/
def KdQ (K : Nat) (k : Kd) (T : TypeId) (M : Nat → Prop) (b : List UInt8) (w : World) (e : Ending) (w' : World) : Prop :=
  ∃ (M1 : Nat → Prop) (p : Option Addr) (c : Nat), e = .returned (.tuple #[.slice p (dataK k b).length c, .int .i64 (numK k b : Int), .int .i64 (errK k b : Int)]) ∧ KdAt K (nextK k b) T M1 w' ∧ Moves M M1 w w' ∧
    RD w' (.slice p (dataK k b).length c) (dataK k b) ∧ (∀ g, (Value.slice p (dataK k b).length c).ownBlock = some g → w.heap.size ≤ g ∧ g < w'.heap.size ∧ ¬ M1 g)
end

section
variable {K n c : Nat} {w : World}
set_option maxHeartbeats 1000000 in
theorem take12_any (cs : Array Value) (ty : TypeId) (xs : List UInt8) (p : Option Addr) (k : Nat) (hK : w.heap[K]? = some (.cells cs ty (0, 0))) (hc : cs[0]? = some (.int .i64 (c : Int))) (hx : RD w (.slice p xs.length k) xs)
    (hp : xs ≠ [] → ∀ g, (Value.slice p xs.length k).ownBlock = some g → g ≠ K) (hl : xs.length ≤ 100000) (hb : c + xs.length ≤ 9223372036854775807) :
    Calls Tryd.prog 101 #[.pointer (some ⟨K, 0, none⟩), .slice p xs.length k] w fun e w' => ∃ v, e = .returned (.tuple #[v, .int .i64 (xs.length : Int), .int .i64 0]) ∧ Own10 (w.setCell ⟨K, 0, none⟩ (.int .i64 ((c + xs.length : Nat) : Int))) w' v xs := by
  have c0 : w.cell? ⟨K, 0, none⟩ = some (.int .i64 (c : Int)) := by simp [World.cell?, hK, hc]
  have f0 : w.frozen? ⟨K, 0, none⟩ = false := by simp [World.frozen?, hK]
  have hw : IntKind.i64.wrap ((c : Int) + (xs.length : Int)) = ((c + xs.length : Nat) : Int) := by rw [IntWalk.i64_in _ (by omega)]; omega
  have x2 : RD (w.setCell ⟨K, 0, none⟩ (.int .i64 ((c + xs.length : Nat) : Int))) (.slice p xs.length k) xs := hx.keep fun hne g hg => Below.heap_setCell _ _ _ _ (hp hne g hg)
  have HC := Lib.hid (clone10_any xs p k _ x2 hl)
  clear hK hc hx hp hb x2 hl
  generalize c + xs.length = s at *
  generalize xs.length = q at *
  go_enter Tryd.func101, Tryd.ntmps101
  go_wp2_with fail
  refine HC.out.mono ?_
  rintro e w3 ⟨v, rfl, hO⟩
  have HQ := Lib.hid hO
  clear hO HC
  go_wp2_with fail
  go_ret3
  exact ⟨_, rfl, HQ.out⟩

set_option maxHeartbeats 2000000 in
theorem fput12_any {T : TypeId} {M : Nat → Prop} (b : List UInt8) (p : Option Addr) (k : Nat) (h : KdAt K (.fix n c) T M w) (hx : RD w (.slice p b.length k) b) (hp : b ≠ [] → ∀ g, (Value.slice p b.length k).ownBlock = some g → ¬ M g) (hl : b.length ≤ 100000) (hc : c ≤ 1000000) :
    Calls Tryd.prog 104 #[.pointer (some ⟨K, 0, none⟩), .slice p b.length k] w fun e w' => KdQ K (.fix n c) T M b w e w' := by
  obtain ⟨h1, rfl, hK, hn⟩ := h
  obtain ⟨m, hm⟩ : ∃ m, min n b.length = m := ⟨_, rfl⟩
  obtain ⟨q, hq⟩ : ∃ q, n - m = q := ⟨_, rfl⟩
  have c1 : w.cell? ⟨K, 1, none⟩ = some (.int .u64 (n : Int)) := by simp [World.cell?, hK]
  have f1 : w.frozen? ⟨K, 1, none⟩ = false := by simp [World.frozen?, hK]
  have hmin : min (n : Int) (b.length : Int) = (m : Int) := by omega
  have hw1 : IntKind.u64.wrap (b.length : Int) = (b.length : Int) := IntWalk.u64_in _ (by omega)
  have hw3 : IntKind.u64.wrap (m : Int) = (m : Int) := IntWalk.u64_in _ (by omega)
  have hw2 : IntKind.u64.wrap ((n : Int) - (m : Int)) = (q : Int) := by rw [IntWalk.u64_in _ (by omega)]; omega
  have hbk : b.length ≤ k := by obtain ⟨_, _, e, h1, _⟩ := hx; cases e; exact h1
  have hml : (b.take m).length = m := by simp; omega
  obtain ⟨uv, huv⟩ : ∃ uv, sliced p 0 m k 1 = uv := ⟨_, rfl⟩
  have hcut : ∀ W, (Instr.slice 25 (.slice p b.length k) none (some (.int .u64 (m : Int))) none).run Tryd.prog W = .ok uv W := fun W => huv ▸ by
    rw [run_slice_h W 25 _ _ _ Tryd.underlying25 .u64 m (by omega) (by omega), byte_size]
    simp [Result.andThen]
  have hu := hx.part (i := 0) (j := m) (m := k) (by omega) (by omega) (by omega) (Nat.le_refl _)
  rw [huv, List.drop_zero] at hu
  have hup : b.take m ≠ [] → ∀ g, uv.ownBlock = some g → g ≠ K := fun hne g hg => by
    rw [← huv] at hg
    obtain ⟨ad, rfl, hg2⟩ := sliced_ownBlock hg
    exact hp (fun h0 => hne (by rw [h0, List.take_nil])) g (by simp [Value.ownBlock, hg2])
  have hK2 := heap_set (i := 1) (.int .u64 (q : Int)) hK
  have hu2 : RD (w.setCell ⟨K, 1, none⟩ (.int .u64 (q : Int))) uv (b.take m) := hu.keep fun hne g hg => Below.heap_setCell _ _ _ _ (hup hne g hg)
  obtain ⟨p2, k2, huu, -⟩ := id hu
  subst huu
  have HT := Lib.hid (take12_any (c := c) _ _ (b.take m) p2 k2 hK2 rfl hu2 hup (by omega) (by omega))
  rw [hml] at HT
  have hK3 := heap_set (i := 0) (.int .i64 ((c + m : Nat) : Int)) hK2
  have HQ : Hid (∀ v w', Own10 ((w.setCell ⟨K, 1, none⟩ (.int .u64 (q : Int))).setCell ⟨K, 0, none⟩ (.int .i64 ((c + m : Nat) : Int))) w' v (b.take m) → KdQ K (.fix n c) T (fun g => g = K) b w (.returned (.tuple #[v, .int .i64 (m : Int), .int .i64 0])) w') := Lib.hid fun v w' hO => by
    have ht : List.take n b = List.take m b := by
      rw [← hm]
      rcases Nat.le_total n b.length with hle | hle
      · rw [Nat.min_eq_left hle]
      · rw [Nat.min_eq_right hle, List.take_length, List.take_of_length_le hle]
    obtain ⟨pv, kv, rfl⟩ := hO.slice
    have e1 : dataK (.fix n c) b = b.take m := ht
    have e2 : numK (.fix n c) b = m := hm
    have e3 : nextK (.fix n c) b = .fix q (c + m) := by show Kd.fix (n - b.length) (c + min n b.length) = _; rw [hm]; congr 1; omega
    unfold KdQ
    rw [e1, e2, e3]
    have hb := hO.below
    have hlt := (Array.getElem?_eq_some_iff.1 hK).1
    refine ⟨_, pv, kv, rfl, ⟨h1, rfl, (hb.block K (by simpa [World.setCell] using hlt)).trans hK3, by omega⟩, ?_, hO.rd, fun g hg => ?_⟩
    · have m1 : Moves (fun g => g = K) (fun g => g = K) w ((w.setCell ⟨K, 1, none⟩ (.int .u64 (q : Int))).setCell ⟨K, 0, none⟩ (.int .i64 ((c + m : Nat) : Int))) :=
        ⟨rfl, rfl, rfl, by simp [World.setCell], fun g hg hne => (Below.heap_setCell _ _ _ _ hne).trans (Below.heap_setCell _ _ _ _ hne), fun _ h => .inl h⟩
      exact m1.trans (Moves.of_below hb)
    · have := hO.own g hg
      have hz : ((w.setCell ⟨K, 1, none⟩ (.int .u64 (q : Int))).setCell ⟨K, 0, none⟩ (.int .i64 ((c + m : Nat) : Int))).heap.size = w.heap.size := by simp [World.setCell]
      rw [hz] at this
      exact ⟨this.1, this.2, by omega⟩
  rw [hml] at hcut
  clear hK hK2 hK3 hu hu2 hup hp hx hm hq huv hml hbk hc
  go_enter Tryd.func104, Tryd.ntmps104
  go_wp2_with fail
  refine HT.out.mono ?_
  rintro e w3 ⟨v, rfl, hO⟩
  have HQ2 := Lib.hid (HQ.out _ _ hO)
  clear hO HT HQ
  go_wp2_with fail
  go_ret3
  exact HQ2.out

set_option maxHeartbeats 2000000 in
theorem uput12_any {T : TypeId} {M : Nat → Prop} (cl : Bool) (b : List UInt8) (p : Option Addr) (k : Nat) (h : KdAt K (.unt cl c) T M w) (hx : RD w (.slice p b.length k) b) (hp : b ≠ [] → ∀ g, (Value.slice p b.length k).ownBlock = some g → ¬ M g) (hl : b.length ≤ 100000) (hc : c ≤ 1000000) :
    Calls Tryd.prog 99 #[.pointer (some ⟨K, 0, none⟩), .slice p b.length k] w fun e w' => KdQ K (.unt cl c) T M b w e w' := by
  have H := Lib.hid h
  obtain ⟨h1, rfl, hK⟩ := h
  have c1 : w.cell? ⟨K, 1, none⟩ = some (.bool cl) := by simp [World.cell?, hK]
  cases cl with
  | true =>
    have HQ : Hid (KdQ K (.unt true c) T (fun g => g = K) b w (.returned (.tuple #[.slice none 0 0, .int .i64 0, .int .i64 0])) w) := Lib.hid
      ⟨_, none, 0, rfl, H.out, Moves.refl _ _, RD.nil w, fun g hg => by simp [Value.ownBlock] at hg⟩
    clear hK hx hp H
    go_enter Tryd.func99, Tryd.ntmps99
    go_wp2_with fail
    go_ret3
    exact HQ.out
  | false =>
    have HT := Lib.hid (take12_any (c := c) _ _ b p k hK rfl hx (fun hne g hg e => hp hne g hg e) hl (by omega))
    have hK3 := heap_set (i := 0) (.int .i64 ((c + b.length : Nat) : Int)) hK
    have HQ : Hid (∀ v w', Own10 (w.setCell ⟨K, 0, none⟩ (.int .i64 ((c + b.length : Nat) : Int))) w' v b → KdQ K (.unt false c) T (fun g => g = K) b w (.returned (.tuple #[v, .int .i64 (b.length : Int), .int .i64 0])) w') := Lib.hid fun v w' hO => by
      obtain ⟨pv, kv, rfl⟩ := hO.slice
      have hb := hO.below
      have hlt := (Array.getElem?_eq_some_iff.1 hK).1
      refine ⟨_, pv, kv, rfl, ⟨h1, rfl, (hb.block K (by simpa [World.setCell] using hlt)).trans hK3⟩, ?_, hO.rd, fun g hg => ?_⟩
      · have m1 : Moves (fun g => g = K) (fun g => g = K) w (w.setCell ⟨K, 0, none⟩ (.int .i64 ((c + b.length : Nat) : Int))) :=
          ⟨rfl, rfl, rfl, by simp [World.setCell], fun g hg hne => Below.heap_setCell _ _ _ _ hne, fun _ h => .inl h⟩
        exact m1.trans (Moves.of_below hb)
      · have := hO.own g hg
        have hz : (w.setCell ⟨K, 0, none⟩ (.int .i64 ((c + b.length : Nat) : Int))).heap.size = w.heap.size := by simp [World.setCell]
        rw [hz] at this
        exact ⟨this.1, this.2, by omega⟩
    clear hK hK3 hx hp H hc
    generalize b.length = L at *
    go_enter Tryd.func99, Tryd.ntmps99
    go_wp2_with fail
    refine HT.out.mono ?_
    rintro e w3 ⟨v, rfl, hO⟩
    have HQ2 := Lib.hid (HQ.out _ _ hO)
    clear hO HT HQ
    go_wp2_with fail
    go_ret3
    exact HQ2.out
theorem dput12_any {T : TypeId} {M : Nat → Prop} {l : Lim} {x : St × Nat × Nat} (b : List UInt8) (p : Option Addr) (k : Nat) (h : KdAt K (.dec l x) T M w) (hx : RD w (.slice p b.length k) b) (hp : b ≠ [] → ∀ g, (Value.slice p b.length k).ownBlock = some g → ¬ M g) (hl : b.length ≤ 100000) (hc : x.2.1 ≤ 1000000) :
    Calls Tryd.prog 94 #[.pointer (some ⟨K, 0, none⟩), .slice p b.length k] w fun e w' => KdQ K (.dec l x) T M b w e w' := by
  obtain ⟨h1, h2, h3⟩ := h
  refine (putXw w h2 hx hp (by omega) hc h3).mono ?_
  rintro e w' ⟨M', q, cap, D, m, rfl, hd, mv, hat, hn, hdat, hrd, hown⟩
  have e1 : dataK (.dec l x) b = D := by show (cont l x b).1.data.drop x.1.data.length = D; rw [hdat, List.drop_left]
  have e2 : numK (.dec l x) b = m := by show (cont l x b).2.1 - x.2.1 = m; omega
  unfold KdQ
  rw [e1, e2]
  exact ⟨M', q, cap, rfl, ⟨h1, hd, h3⟩, mv, hrd, hown⟩
end

end Go.Proofs.YtjkccacpffikbaaDoor
