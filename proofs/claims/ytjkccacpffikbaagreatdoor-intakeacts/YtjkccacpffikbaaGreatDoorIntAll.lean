/- IntAll: IntKinds, IntAt, IntPut, IntNew, IntWake, DecWake, DecStays, IntWants in one. -/
import Derived.Test.YtjkccacpffikbaaGreatDoorIntMath
import Derived.Test.YtjkccacpffikbaaGreatDoorDecAt
import Derived.Test.YtjkccacpffikbaaGreatDoorCloneMem
import Derived.Test.YtjkccacpffikbaaGreatDoorByteSame
import Derived.Lib.SlBytesConst
import Derived.Test.YtjkccacpffikbaaGreatDoorBytesOpen
/- What takes the bytes of one framing of an intake, in memory; what its methods answer. -/
namespace Go.Proofs.YtjkccacpffikbaaGreatDoor
open Go.ChangeShapes Go.WideShapes Go.ChangeAt Go.RowKit
open Oc Fl Bk Bd Dk Ik
set_option linter.unusedVariables false
set_option maxRecDepth 100000

/-- k lies at the block K, is of the type T; its blocks are M's. -/
def KdAt (K : Nat) (k : Kd) (T : TypeId) (M : Nat → Prop) (W : World) : Prop :=
  match k with
  | .fix n c => T = 69 ∧ (M = fun g => g = K) ∧ W.heap[K]? = some (.cells #[.int .i64 (c : Int), .int .u64 (n : Int)] 71 (0, 0)) ∧ n ≤ 4611686018427387903
  | .unt b c => T = 64 ∧ (M = fun g => g = K) ∧ W.heap[K]? = some (.cells #[.int .i64 (c : Int), .bool b] 68 (0, 0))
  | .dec l x => T = 57 ∧ DecAt K l x M W ∧ l.ext ≤ 65536 ∧ l.fields ≤ 65536 ∧ l.bytes ≤ 65536

section
variable {K : Nat} {k : Kd} {T : TypeId} {M : Nat → Prop} {W W' : World}
theorem KdAt.lt (h : KdAt K k T M W) {g : Nat} (hg : M g) : g < W.heap.size := by
  cases k with
  | fix n c =>
    obtain ⟨-, rfl, h3, -⟩ := h
    obtain rfl := hg
    exact (Array.getElem?_eq_some_iff.1 h3).1
  | unt b c =>
    obtain ⟨-, rfl, h3⟩ := h
    obtain rfl := hg
    exact (Array.getElem?_eq_some_iff.1 h3).1
  | dec l x => exact (h.2.1.lt hg).2
theorem KdAt.below (h : KdAt K k T M W) (hb : Below W.heap.size W W') : KdAt K k T M W' := by
  cases k with
  | fix n c =>
    obtain ⟨h1, h2, h3, h4⟩ := h
    exact ⟨h1, h2, (hb.block K (Array.getElem?_eq_some_iff.1 h3).1).trans h3, h4⟩
  | unt b c =>
    obtain ⟨h1, h2, h3⟩ := h
    exact ⟨h1, h2, (hb.block K (Array.getElem?_eq_some_iff.1 h3).1).trans h3⟩
  | dec l x => exact ⟨h.1, h.2.1.below hb, h.2.2⟩
/-- A block beside it is written. -/
theorem KdAt.beside {R i : Nat} {v : Value} (h : KdAt K k T M W) (hR : ¬ M R) (hlow : 0 < R) : KdAt K k T M (W.setCell ⟨R, i, none⟩ v) := by
  cases k with
  | fix n c =>
    obtain ⟨h1, rfl, h3, h4⟩ := h
    exact ⟨h1, rfl, (Below.heap_setCell _ _ _ _ (fun e => hR e.symm)).trans h3, h4⟩
  | unt b c =>
    obtain ⟨h1, rfl, h3⟩ := h
    exact ⟨h1, rfl, (Below.heap_setCell _ _ _ _ (fun e => hR e.symm)).trans h3⟩
  | dec l x =>
    refine ⟨h.1, h.2.1.moved (fun g hg => Below.heap_setCell _ _ _ _ (fun (e : g = R) => hR (by rw [← e]; exact hg))) (h.2.1.spans.set hlow), h.2.2⟩

/-- What a piece leaves. -/
def KdQ (K : Nat) (k : Kd) (T : TypeId) (M : Nat → Prop) (b : List UInt8) (w : World) (e : Ending) (w' : World) : Prop :=
  ∃ (M1 : Nat → Prop) (p : Option Addr) (c : Nat), e = .returned (.tuple #[.slice p (dataK k b).length c, .int .i64 (numK k b : Int), .int .i64 (errK k b : Int)]) ∧ KdAt K (nextK k b) T M1 w' ∧ Moves M M1 w w' ∧
    RD w' (.slice p (dataK k b).length c) (dataK k b) ∧ (∀ g, (Value.slice p (dataK k b).length c).ownBlock = some g → w.heap.size ≤ g ∧ g < w'.heap.size ∧ ¬ M1 g)
end

section
variable {K n c : Nat} {w : World}
set_option maxHeartbeats 1000000 in
theorem take12_any (cs : Array Value) (ty : TypeId) (xs : List UInt8) (p : Option Addr) (k : Nat) (hK : w.heap[K]? = some (.cells cs ty (0, 0))) (hc : cs[0]? = some (.int .i64 (c : Int))) (hx : RD w (.slice p xs.length k) xs)
    (hp : xs ≠ [] → ∀ g, (Value.slice p xs.length k).ownBlock = some g → g ≠ K) (hl : xs.length ≤ 100000) (hb : c + xs.length ≤ 9223372036854775807) :
    Calls Tryz.prog 117 #[.pointer (some ⟨K, 0, none⟩), .slice p xs.length k] w fun e w' => ∃ v, e = .returned (.tuple #[v, .int .i64 (xs.length : Int), .int .i64 0]) ∧ Own10 (w.setCell ⟨K, 0, none⟩ (.int .i64 ((c + xs.length : Nat) : Int))) w' v xs := by
  have c0 : w.cell? ⟨K, 0, none⟩ = some (.int .i64 (c : Int)) := by simp [World.cell?, hK, hc]
  have f0 : w.frozen? ⟨K, 0, none⟩ = false := by simp [World.frozen?, hK]
  have hw : IntKind.i64.wrap ((c : Int) + (xs.length : Int)) = ((c + xs.length : Nat) : Int) := by rw [IntWalk.i64_in _ (by omega)]; omega
  have x2 : RD (w.setCell ⟨K, 0, none⟩ (.int .i64 ((c + xs.length : Nat) : Int))) (.slice p xs.length k) xs := hx.keep fun hne g hg => Below.heap_setCell _ _ _ _ (hp hne g hg)
  have HC := Lib.hid (clone10_any xs p k _ x2 hl)
  clear hK hc hx hp hb x2 hl
  generalize c + xs.length = s at *
  generalize xs.length = q at *
  go_enter Tryz.func117, Tryz.ntmps117
  go_wp2_with fail
  refine HC.out.mono ?_
  rintro e w3 ⟨v, rfl, hO⟩
  have HQ := Lib.hid hO
  clear hO HC
  go_wp2_with fail
  go_ret3
  exact ⟨_, rfl, HQ.out⟩

set_option maxHeartbeats 2000000 in
theorem fput12_any {T : TypeId} {M : Nat → Prop} (b : List UInt8) (p : Option Addr) (k : Nat) (h : KdAt K (.fix n c) T M w) (hx : RD w (.slice p b.length k) b) (hp : b ≠ [] → ∀ g, (Value.slice p b.length k).ownBlock = some g → ¬ M g) (hl : b.length ≤ 100000) (hc : c ≤ 1000000) :
    Calls Tryz.prog 120 #[.pointer (some ⟨K, 0, none⟩), .slice p b.length k] w fun e w' => KdQ K (.fix n c) T M b w e w' := by
  obtain ⟨h1, rfl, hK, hn⟩ := h
  obtain ⟨m, hm⟩ : ∃ m, min n b.length = m := ⟨_, rfl⟩
  obtain ⟨q, hq⟩ : ∃ q, n - m = q := ⟨_, rfl⟩
  have c1 : w.cell? ⟨K, 1, none⟩ = some (.int .u64 (n : Int)) := by simp [World.cell?, hK]
  have f1 : w.frozen? ⟨K, 1, none⟩ = false := by simp [World.frozen?, hK]
  have hmin : min (n : Int) (b.length : Int) = (m : Int) := by omega
  have hw1 : IntKind.u64.wrap (b.length : Int) = (b.length : Int) := IntWalk.u64_in _ (by omega)
  have hw3 : IntKind.u64.wrap (m : Int) = (m : Int) := IntWalk.u64_in _ (by omega)
  have hw2 : IntKind.u64.wrap ((n : Int) - (m : Int)) = (q : Int) := by rw [IntWalk.u64_in _ (by omega)]; omega
  have hbk : b.length ≤ k := by obtain ⟨_, _, e, h1, _⟩ := hx; cases e; exact h1
  have hml : (b.take m).length = m := by simp; omega
  obtain ⟨uv, huv⟩ : ∃ uv, sliced p 0 m k 1 = uv := ⟨_, rfl⟩
  have hcut : ∀ W, (Instr.slice 29 (.slice p b.length k) none (some (.int .u64 (m : Int))) none).run Tryz.prog W = .ok uv W := fun W => huv ▸ by
    rw [run_slice_h W 29 _ _ _ Tryz.underlying29 .u64 m (by omega) (by omega), byte_size]
    simp [Result.andThen]
  have hu := hx.part (i := 0) (j := m) (m := k) (by omega) (by omega) (by omega) (Nat.le_refl _)
  rw [huv, List.drop_zero] at hu
  have hup : b.take m ≠ [] → ∀ g, uv.ownBlock = some g → g ≠ K := fun hne g hg => by
    rw [← huv] at hg
    obtain ⟨ad, rfl, hg2⟩ := sliced_ownBlock hg
    exact hp (fun h0 => hne (by rw [h0, List.take_nil])) g (by simp [Value.ownBlock, hg2])
  have hK2 := heap_set (i := 1) (.int .u64 (q : Int)) hK
  have hu2 : RD (w.setCell ⟨K, 1, none⟩ (.int .u64 (q : Int))) uv (b.take m) := hu.keep fun hne g hg => Below.heap_setCell _ _ _ _ (hup hne g hg)
  obtain ⟨p2, k2, huu, -⟩ := id hu
  subst huu
  have HT := Lib.hid (take12_any (c := c) _ _ (b.take m) p2 k2 hK2 rfl hu2 hup (by omega) (by omega))
  rw [hml] at HT
  have hK3 := heap_set (i := 0) (.int .i64 ((c + m : Nat) : Int)) hK2
  have HQ : Hid (∀ v w', Own10 ((w.setCell ⟨K, 1, none⟩ (.int .u64 (q : Int))).setCell ⟨K, 0, none⟩ (.int .i64 ((c + m : Nat) : Int))) w' v (b.take m) → KdQ K (.fix n c) T (fun g => g = K) b w (.returned (.tuple #[v, .int .i64 (m : Int), .int .i64 0])) w') := Lib.hid fun v w' hO => by
    have ht : List.take n b = List.take m b := by
      rw [← hm]
      rcases Nat.le_total n b.length with hle | hle
      · rw [Nat.min_eq_left hle]
      · rw [Nat.min_eq_right hle, List.take_length, List.take_of_length_le hle]
    obtain ⟨pv, kv, rfl⟩ := hO.slice
    have e1 : dataK (.fix n c) b = b.take m := ht
    have e2 : numK (.fix n c) b = m := hm
    have e3 : nextK (.fix n c) b = .fix q (c + m) := by show Kd.fix (n - b.length) (c + min n b.length) = _; rw [hm]; congr 1; omega
    unfold KdQ
    rw [e1, e2, e3]
    have hb := hO.below
    have hlt := (Array.getElem?_eq_some_iff.1 hK).1
    refine ⟨_, pv, kv, rfl, ⟨h1, rfl, (hb.block K (by simpa [World.setCell] using hlt)).trans hK3, by omega⟩, ?_, hO.rd, fun g hg => ?_⟩
    · have m1 : Moves (fun g => g = K) (fun g => g = K) w ((w.setCell ⟨K, 1, none⟩ (.int .u64 (q : Int))).setCell ⟨K, 0, none⟩ (.int .i64 ((c + m : Nat) : Int))) :=
        ⟨rfl, rfl, rfl, by simp [World.setCell], fun g hg hne => (Below.heap_setCell _ _ _ _ hne).trans (Below.heap_setCell _ _ _ _ hne), fun _ h => .inl h⟩
      exact m1.trans (Moves.of_below hb)
    · have := hO.own g hg
      have hz : ((w.setCell ⟨K, 1, none⟩ (.int .u64 (q : Int))).setCell ⟨K, 0, none⟩ (.int .i64 ((c + m : Nat) : Int))).heap.size = w.heap.size := by simp [World.setCell]
      rw [hz] at this
      exact ⟨this.1, this.2, by omega⟩
  rw [hml] at hcut
  clear hK hK2 hK3 hu hu2 hup hp hx hm hq huv hml hbk hc
  go_enter Tryz.func120, Tryz.ntmps120
  go_wp2_with fail
  refine HT.out.mono ?_
  rintro e w3 ⟨v, rfl, hO⟩
  have HQ2 := Lib.hid (HQ.out _ _ hO)
  clear hO HT HQ
  go_wp2_with fail
  go_ret3
  exact HQ2.out

set_option maxHeartbeats 2000000 in
theorem uput12_any {T : TypeId} {M : Nat → Prop} (cl : Bool) (b : List UInt8) (p : Option Addr) (k : Nat) (h : KdAt K (.unt cl c) T M w) (hx : RD w (.slice p b.length k) b) (hp : b ≠ [] → ∀ g, (Value.slice p b.length k).ownBlock = some g → ¬ M g) (hl : b.length ≤ 100000) (hc : c ≤ 1000000) :
    Calls Tryz.prog 115 #[.pointer (some ⟨K, 0, none⟩), .slice p b.length k] w fun e w' => KdQ K (.unt cl c) T M b w e w' := by
  have H := Lib.hid h
  obtain ⟨h1, rfl, hK⟩ := h
  have c1 : w.cell? ⟨K, 1, none⟩ = some (.bool cl) := by simp [World.cell?, hK]
  cases cl with
  | true =>
    have HQ : Hid (KdQ K (.unt true c) T (fun g => g = K) b w (.returned (.tuple #[.slice none 0 0, .int .i64 0, .int .i64 0])) w) := Lib.hid
      ⟨_, none, 0, rfl, H.out, Moves.refl _ _, RD.nil w, fun g hg => by simp [Value.ownBlock] at hg⟩
    clear hK hx hp H
    go_enter Tryz.func115, Tryz.ntmps115
    go_wp2_with fail
    go_ret3
    exact HQ.out
  | false =>
    have HT := Lib.hid (take12_any (c := c) _ _ b p k hK rfl hx (fun hne g hg e => hp hne g hg e) hl (by omega))
    have hK3 := heap_set (i := 0) (.int .i64 ((c + b.length : Nat) : Int)) hK
    have HQ : Hid (∀ v w', Own10 (w.setCell ⟨K, 0, none⟩ (.int .i64 ((c + b.length : Nat) : Int))) w' v b → KdQ K (.unt false c) T (fun g => g = K) b w (.returned (.tuple #[v, .int .i64 (b.length : Int), .int .i64 0])) w') := Lib.hid fun v w' hO => by
      obtain ⟨pv, kv, rfl⟩ := hO.slice
      have hb := hO.below
      have hlt := (Array.getElem?_eq_some_iff.1 hK).1
      refine ⟨_, pv, kv, rfl, ⟨h1, rfl, (hb.block K (by simpa [World.setCell] using hlt)).trans hK3⟩, ?_, hO.rd, fun g hg => ?_⟩
      · have m1 : Moves (fun g => g = K) (fun g => g = K) w (w.setCell ⟨K, 0, none⟩ (.int .i64 ((c + b.length : Nat) : Int))) :=
          ⟨rfl, rfl, rfl, by simp [World.setCell], fun g hg hne => Below.heap_setCell _ _ _ _ hne, fun _ h => .inl h⟩
        exact m1.trans (Moves.of_below hb)
      · have := hO.own g hg
        have hz : (w.setCell ⟨K, 0, none⟩ (.int .i64 ((c + b.length : Nat) : Int))).heap.size = w.heap.size := by simp [World.setCell]
        rw [hz] at this
        exact ⟨this.1, this.2, by omega⟩
    clear hK hK3 hx hp H hc
    generalize b.length = L at *
    go_enter Tryz.func115, Tryz.ntmps115
    go_wp2_with fail
    refine HT.out.mono ?_
    rintro e w3 ⟨v, rfl, hO⟩
    have HQ2 := Lib.hid (HQ.out _ _ hO)
    clear hO HT HQ
    go_wp2_with fail
    go_ret3
    exact HQ2.out
theorem dput12_any {T : TypeId} {M : Nat → Prop} {l : Lim} {x : St × Nat × Nat} (b : List UInt8) (p : Option Addr) (k : Nat) (h : KdAt K (.dec l x) T M w) (hx : RD w (.slice p b.length k) b) (hp : b ≠ [] → ∀ g, (Value.slice p b.length k).ownBlock = some g → ¬ M g) (hl : b.length ≤ 100000) (hc : x.2.1 ≤ 1000000) :
    Calls Tryz.prog 110 #[.pointer (some ⟨K, 0, none⟩), .slice p b.length k] w fun e w' => KdQ K (.dec l x) T M b w e w' := by
  obtain ⟨h1, h2, h3⟩ := h
  refine (putXw w h2 hx hp (by omega) hc h3).mono ?_
  rintro e w' ⟨M', q, cap, D, m, rfl, hd, mv, hat, hn, hdat, hrd, hown⟩
  have e1 : dataK (.dec l x) b = D := by show (cont l x b).1.data.drop x.1.data.length = D; rw [hdat, List.drop_left]
  have e2 : numK (.dec l x) b = m := by show (cont l x b).2.1 - x.2.1 = m; omega
  unfold KdQ
  rw [e1, e2]
  exact ⟨M', q, cap, rfl, ⟨h1, hd, h3⟩, mv, hrd, hown⟩
end

end Go.Proofs.YtjkccacpffikbaaGreatDoor

/- An intake as those who call it see it. -/
namespace Go.Proofs.YtjkccacpffikbaaGreatDoor
open Go.ChangeShapes Go.WideShapes Go.ChangeAt Go.RowKit
open Oc Fl Bk Bd Dk Ik
set_option linter.unusedVariables false
set_option maxRecDepth 100000

theorem KdAt.moved {K : Nat} {k : Kd} {T : TypeId} {M : Nat → Prop} {W W' : World} (h : KdAt K k T M W) (hm : ∀ g, M g → W'.heap[g]? = W.heap[g]?) (hs : Spans W') : KdAt K k T M W' := by
  cases k with
  | fix n c =>
    obtain ⟨h1, rfl, h3, h4⟩ := h
    exact ⟨h1, rfl, (hm K rfl).trans h3, h4⟩
  | unt b c =>
    obtain ⟨h1, rfl, h3⟩ := h
    exact ⟨h1, rfl, (hm K rfl).trans h3⟩
  | dec l x => exact ⟨h.1, h.2.1.moved hm hs, h.2.2⟩

/-- An intake at the block R: k takes its bytes, it failed with e; its blocks are M's. -/
def InAt (R : Nat) (k : Kd) (e : Nat) (M : Nat → Prop) (W : World) : Prop :=
  ∃ (T : TypeId) (K : Nat) (M0 : Nat → Prop), W.heap[R]? = some (.cells #[.iface T (.pointer (some ⟨K, 0, none⟩)), .int .i64 (e : Int)] 63 (0, 0)) ∧ KdAt K k T M0 W ∧ ¬ M0 R ∧ 0 < R ∧ M = fun g => g = R ∨ M0 g

section
variable {R : Nat} {k : Kd} {e : Nat} {M : Nat → Prop} {W W' : World}
theorem InAt.lt (h : InAt R k e M W) {g : Nat} (hg : M g) : g < W.heap.size := by
  obtain ⟨T, K, M0, h1, h2, h3, h4, rfl⟩ := h
  rcases hg with rfl | hg
  · exact (Array.getElem?_eq_some_iff.1 h1).1
  · exact h2.lt hg
theorem InAt.below (h : InAt R k e M W) (hb : Below W.heap.size W W') : InAt R k e M W' := by
  obtain ⟨T, K, M0, h1, h2, h3, h4, rfl⟩ := h
  exact ⟨T, K, M0, two_below h1 hb, h2.below hb, h3, h4, rfl⟩
theorem InAt.moved (h : InAt R k e M W) (hm : ∀ g, M g → W'.heap[g]? = W.heap[g]?) (hs : Spans W') : InAt R k e M W' := by
  obtain ⟨T, K, M0, h1, h2, h3, h4, rfl⟩ := h
  exact ⟨T, K, M0, (hm R (.inl rfl)).trans h1, h2.moved (fun g hg => hm g (.inr hg)) hs, h3, h4, rfl⟩
theorem InAt.own (h : InAt R k e M W) : M R := by
  obtain ⟨T, K, M0, h1, h2, h3, h4, rfl⟩ := h
  exact .inl rfl
end

section
variable {R : Nat} {k : Kd} {e : Nat} {M : Nat → Prop} {w : World}
set_option maxHeartbeats 1000000 in
theorem errI (h : InAt R k e M w) : Calls Tryz.prog 16 #[.pointer (some ⟨R, 0, none⟩)] w fun x w' => x = .returned (.int .i64 (e : Int)) ∧ w = w' := by
  obtain ⟨T, K, M0, h1, -⟩ := h
  have c1 : w.cell? ⟨R, 1, none⟩ = some (.int .i64 (e : Int)) := by simp [World.cell?, h1]
  clear h1
  go_enter Tryz.func16, Tryz.ntmps16
  go_wp2_with fail
  go_ret
  exact ⟨rfl, rfl⟩
set_option maxHeartbeats 1000000 in
theorem fdone12_any (K n c : Nat) (hK : w.heap[K]? = some (.cells #[.int .i64 (c : Int), .int .u64 (n : Int)] 71 (0, 0))) :
    Calls Tryz.prog 119 #[.pointer (some ⟨K, 0, none⟩)] w fun x w' => x = .returned (.bool (decide (n = 0))) ∧ w = w' := by
  have c1 : w.cell? ⟨K, 1, none⟩ = some (.int .u64 (n : Int)) := by simp [World.cell?, hK]
  clear hK
  go_enter Tryz.func119, Tryz.ntmps119
  go_wp2_with fail
  go_ret
  exact ⟨ret_bool (by rw [Bool.eq_iff_iff]; simp), rfl⟩
set_option maxHeartbeats 1000000 in
theorem udone12_any (K c : Nat) (b : Bool) (hK : w.heap[K]? = some (.cells #[.int .i64 (c : Int), .bool b] 68 (0, 0))) :
    Calls Tryz.prog 113 #[.pointer (some ⟨K, 0, none⟩)] w fun x w' => x = .returned (.bool b) ∧ w = w' := by
  have c1 : w.cell? ⟨K, 1, none⟩ = some (.bool b) := by simp [World.cell?, hK]
  clear hK
  go_enter Tryz.func113, Tryz.ntmps113
  go_wp2_with fail
  go_ret
  exact ⟨rfl, rfl⟩
set_option maxHeartbeats 1000000 in
theorem ptaken12_any (K c : Nat) (cs : Array Value) (ty : TypeId) (hK : w.heap[K]? = some (.cells cs ty (0, 0))) (hc : cs[0]? = some (.int .i64 (c : Int))) :
    Calls Tryz.prog 116 #[.pointer (some ⟨K, 0, none⟩)] w fun x w' => x = .returned (.int .i64 (c : Int)) ∧ w = w' := by
  have c0 : w.cell? ⟨K, 0, none⟩ = some (.int .i64 (c : Int)) := by simp [World.cell?, hK, hc]
  clear hK hc
  go_enter Tryz.func116, Tryz.ntmps116
  go_wp2_with fail
  go_ret
  exact ⟨rfl, rfl⟩
set_option maxHeartbeats 1000000 in
theorem pgiven12_any (K c : Nat) (cs : Array Value) (ty : TypeId) (hK : w.heap[K]? = some (.cells cs ty (0, 0))) (hc : cs[0]? = some (.int .i64 (c : Int))) :
    Calls Tryz.prog 114 #[.pointer (some ⟨K, 0, none⟩)] w fun x w' => x = .returned (.int .i64 (c : Int)) ∧ w = w' := by
  have c0 : w.cell? ⟨K, 0, none⟩ = some (.int .i64 (c : Int)) := by simp [World.cell?, hK, hc]
  clear hK hc
  go_enter Tryz.func114, Tryz.ntmps114
  go_wp2_with fail
  go_ret
  exact ⟨rfl, rfl⟩

set_option maxHeartbeats 2000000 in
theorem doneI (h : InAt R k e M w) : Calls Tryz.prog 14 #[.pointer (some ⟨R, 0, none⟩)] w fun x w' => x = .returned (.bool (doneK k)) ∧ w = w' := by
  obtain ⟨T, K, M0, h1, h2, h3, h4, -⟩ := h
  have c0 : w.cell? ⟨R, 0, none⟩ = some (.iface T (.pointer (some ⟨K, 0, none⟩))) := by simp [World.cell?, h1]
  cases k with
  | fix n c =>
    obtain ⟨rfl, -, hK, -⟩ := h2
    have HD := Lib.hid (fdone12_any K n c hK)
    show Calls _ _ _ _ fun x w' => x = .returned (.bool (decide (n = 0))) ∧ w = w'
    generalize decide (n = 0) = d at *
    clear h1 h3 h4 hK
    go_enter Tryz.func14, Tryz.ntmps14
    go_wp2_with fail
    refine HD.out.mono ?_
    rintro x w' ⟨rfl, rfl⟩
    go_wp2_with fail
    go_ret
    exact ⟨rfl, rfl⟩
  | unt b c =>
    obtain ⟨rfl, -, hK⟩ := h2
    have HD := Lib.hid (udone12_any K c b hK)
    show Calls _ _ _ _ fun x w' => x = .returned (.bool b) ∧ w = w'
    clear h1 h3 h4 hK
    go_enter Tryz.func14, Tryz.ntmps14
    go_wp2_with fail
    refine HD.out.mono ?_
    rintro x w' ⟨rfl, rfl⟩
    go_wp2_with fail
    go_ret
    exact ⟨rfl, rfl⟩
  | dec l y =>
    obtain ⟨rfl, hK, -⟩ := h2
    have HD := Lib.hid (doneX w hK)
    show Calls _ _ _ _ fun x w' => x = .returned (.bool (decide (y.2.2 = 0))) ∧ w = w'
    generalize decide (y.2.2 = 0) = d at *
    clear h1 h3 h4 hK
    go_enter Tryz.func14, Tryz.ntmps14
    go_wp2_with fail
    refine HD.out.mono ?_
    rintro x w' ⟨rfl, rfl⟩
    go_wp2_with fail
    go_ret
    exact ⟨rfl, rfl⟩

set_option maxHeartbeats 2000000 in
theorem takenI (h : InAt R k e M w) : Calls Tryz.prog 17 #[.pointer (some ⟨R, 0, none⟩)] w fun x w' => x = .returned (.int .i64 (takenK k : Int)) ∧ w = w' := by
  obtain ⟨T, K, M0, h1, h2, h3, h4, -⟩ := h
  have c0 : w.cell? ⟨R, 0, none⟩ = some (.iface T (.pointer (some ⟨K, 0, none⟩))) := by simp [World.cell?, h1]
  cases k with
  | fix n c =>
    obtain ⟨rfl, -, hK, -⟩ := h2
    have HD := Lib.hid (ptaken12_any K c _ _ hK rfl)
    show Calls _ _ _ _ fun x w' => x = .returned (.int .i64 (c : Int)) ∧ w = w'
    clear h1 h3 h4 hK
    go_enter Tryz.func17, Tryz.ntmps17
    go_wp2_with fail
    refine HD.out.mono ?_
    rintro x w' ⟨rfl, rfl⟩
    go_wp2_with fail
    go_ret
    exact ⟨rfl, rfl⟩
  | unt b c =>
    obtain ⟨rfl, -, hK⟩ := h2
    have HD := Lib.hid (ptaken12_any K c _ _ hK rfl)
    show Calls _ _ _ _ fun x w' => x = .returned (.int .i64 (c : Int)) ∧ w = w'
    clear h1 h3 h4 hK
    go_enter Tryz.func17, Tryz.ntmps17
    go_wp2_with fail
    refine HD.out.mono ?_
    rintro x w' ⟨rfl, rfl⟩
    go_wp2_with fail
    go_ret
    exact ⟨rfl, rfl⟩
  | dec l y =>
    obtain ⟨rfl, hK, -⟩ := h2
    have HD := Lib.hid (takenX w hK)
    show Calls _ _ _ _ fun x w' => x = .returned (.int .i64 (y.2.1 : Int)) ∧ w = w'
    generalize y.2.1 = d at *
    clear h1 h3 h4 hK
    go_enter Tryz.func17, Tryz.ntmps17
    go_wp2_with fail
    refine HD.out.mono ?_
    rintro x w' ⟨rfl, rfl⟩
    go_wp2_with fail
    go_ret
    exact ⟨rfl, rfl⟩

set_option maxHeartbeats 2000000 in
theorem givenI (h : InAt R k e M w) : Calls Tryz.prog 18 #[.pointer (some ⟨R, 0, none⟩)] w fun x w' => x = .returned (.int .i64 (givenK k : Int)) ∧ w = w' := by
  obtain ⟨T, K, M0, h1, h2, h3, h4, -⟩ := h
  have c0 : w.cell? ⟨R, 0, none⟩ = some (.iface T (.pointer (some ⟨K, 0, none⟩))) := by simp [World.cell?, h1]
  cases k with
  | fix n c =>
    obtain ⟨rfl, -, hK, -⟩ := h2
    have HD := Lib.hid (pgiven12_any K c _ _ hK rfl)
    show Calls _ _ _ _ fun x w' => x = .returned (.int .i64 (c : Int)) ∧ w = w'
    clear h1 h3 h4 hK
    go_enter Tryz.func18, Tryz.ntmps18
    go_wp2_with fail
    refine HD.out.mono ?_
    rintro x w' ⟨rfl, rfl⟩
    go_wp2_with fail
    go_ret
    exact ⟨rfl, rfl⟩
  | unt b c =>
    obtain ⟨rfl, -, hK⟩ := h2
    have HD := Lib.hid (pgiven12_any K c _ _ hK rfl)
    show Calls _ _ _ _ fun x w' => x = .returned (.int .i64 (c : Int)) ∧ w = w'
    clear h1 h3 h4 hK
    go_enter Tryz.func18, Tryz.ntmps18
    go_wp2_with fail
    refine HD.out.mono ?_
    rintro x w' ⟨rfl, rfl⟩
    go_wp2_with fail
    go_ret
    exact ⟨rfl, rfl⟩
  | dec l y =>
    obtain ⟨rfl, hK, -⟩ := h2
    have HD := Lib.hid (givenX w hK)
    show Calls _ _ _ _ fun x w' => x = .returned (.int .i64 (y.1.data.length : Int)) ∧ w = w'
    generalize y.1.data.length = d at *
    clear h1 h3 h4 hK
    go_enter Tryz.func18, Tryz.ntmps18
    go_wp2_with fail
    refine HD.out.mono ?_
    rintro x w' ⟨rfl, rfl⟩
    go_wp2_with fail
    go_ret
    exact ⟨rfl, rfl⟩

/-- What a type switch on an intake's input finds. -/
theorem asF (K : Nat) (W : World) : (Instr.typeAssert (.iface 69 (.pointer (some ⟨K, 0, none⟩))) 61 69 true).run Tryz.prog W = .ok (.tuple #[.pointer (some ⟨K, 0, none⟩), .bool true]) W ∧
    (Instr.typeAssert (.iface 64 (.pointer (some ⟨K, 0, none⟩))) 61 69 true).run Tryz.prog W = .ok (.tuple #[.pointer none, .bool false]) W ∧
    (Instr.typeAssert (.iface 57 (.pointer (some ⟨K, 0, none⟩))) 61 69 true).run Tryz.prog W = .ok (.tuple #[.pointer none, .bool false]) W := ⟨by kernel_rfl, by kernel_rfl, by kernel_rfl⟩
theorem asU (K : Nat) (W : World) : (Instr.typeAssert (.iface 69 (.pointer (some ⟨K, 0, none⟩))) 61 64 true).run Tryz.prog W = .ok (.tuple #[.pointer none, .bool false]) W ∧
    (Instr.typeAssert (.iface 64 (.pointer (some ⟨K, 0, none⟩))) 61 64 true).run Tryz.prog W = .ok (.tuple #[.pointer (some ⟨K, 0, none⟩), .bool true]) W ∧
    (Instr.typeAssert (.iface 57 (.pointer (some ⟨K, 0, none⟩))) 61 64 true).run Tryz.prog W = .ok (.tuple #[.pointer none, .bool false]) W := ⟨by kernel_rfl, by kernel_rfl, by kernel_rfl⟩
theorem asD (K : Nat) (W : World) : (Instr.typeAssert (.iface 69 (.pointer (some ⟨K, 0, none⟩))) 61 57 true).run Tryz.prog W = .ok (.tuple #[.pointer none, .bool false]) W ∧
    (Instr.typeAssert (.iface 64 (.pointer (some ⟨K, 0, none⟩))) 61 57 true).run Tryz.prog W = .ok (.tuple #[.pointer none, .bool false]) W ∧
    (Instr.typeAssert (.iface 57 (.pointer (some ⟨K, 0, none⟩))) 61 57 true).run Tryz.prog W = .ok (.tuple #[.pointer (some ⟨K, 0, none⟩), .bool true]) W := ⟨by kernel_rfl, by kernel_rfl, by kernel_rfl⟩

set_option maxHeartbeats 4000000 in
theorem wantsI (h : InAt R k e M w) : Calls Tryz.prog 19 #[.pointer (some ⟨R, 0, none⟩)] w fun x w' => x = .returned (.int .u64 (wantsK k e : Int)) ∧ w = w' := by
  have HD := Lib.hid (doneI h)
  obtain ⟨T, K, M0, h1, h2, h3, h4, -⟩ := h
  have c0 : w.cell? ⟨R, 0, none⟩ = some (.iface T (.pointer (some ⟨K, 0, none⟩))) := by simp [World.cell?, h1]
  have c1 : w.cell? ⟨R, 1, none⟩ = some (.int .i64 (e : Int)) := by simp [World.cell?, h1]
  by_cases he : e = 0
  case neg =>
    have hb : ((e : Int) != 0) = true := by unfold bne; rw [beq_eq_false_iff_ne.2 (by omega)]; rfl
    rw [show wantsK k e = 0 from if_pos (.inl he)]
    clear h1 h2 h3 h4 he HD
    go_enter Tryz.func19, Tryz.ntmps19
    go_wp2_with fail
    go_ret
    exact ⟨rfl, rfl⟩
  subst he
  cases hd : doneK k with
  | true =>
    rw [show wantsK k 0 = 0 from if_pos (.inr hd)]
    rw [hd] at HD
    clear h1 h2 h3 h4 hd
    go_enter Tryz.func19, Tryz.ntmps19
    go_wp2_with fail
    refine HD.out.mono ?_
    rintro x w' ⟨rfl, rfl⟩
    go_wp2_with fail
    go_ret
    exact ⟨rfl, rfl⟩
  | false =>
    rw [show wantsK k 0 = leftK k from if_neg (by rw [hd]; decide)]
    rw [hd] at HD
    clear hd
    cases k with
    | fix n c =>
      obtain ⟨rfl, -, hK, -⟩ := h2
      have hta := fun W => (asF K W).1
      have c2 : w.cell? ⟨K, 1, none⟩ = some (.int .u64 (n : Int)) := by simp [World.cell?, hK]
      show Calls _ _ _ _ fun x w' => x = .returned (.int .u64 (n : Int)) ∧ w = w'
      clear h1 h3 h4 hK
      go_enter Tryz.func19, Tryz.ntmps19
      go_wp2_with fail
      refine HD.out.mono ?_
      rintro x w' ⟨rfl, rfl⟩
      go_wp2_with fail
      go_ret
      exact ⟨rfl, rfl⟩
    | unt b c =>
      obtain ⟨rfl, -, hK⟩ := h2
      have hta := fun W => (asF K W).2.1
      show Calls _ _ _ _ fun x w' => x = .returned (.int .u64 4611686018427387903) ∧ w = w'
      clear h1 h3 h4 hK
      go_enter Tryz.func19, Tryz.ntmps19
      go_wp2_with fail
      refine HD.out.mono ?_
      rintro x w' ⟨rfl, rfl⟩
      go_wp2_with fail
      go_ret
      exact ⟨rfl, rfl⟩
    | dec l y =>
      obtain ⟨rfl, hK, -⟩ := h2
      have hta := fun W => (asF K W).2.2
      show Calls _ _ _ _ fun x w' => x = .returned (.int .u64 4611686018427387903) ∧ w = w'
      clear h1 h3 h4 hK
      go_enter Tryz.func19, Tryz.ntmps19
      go_wp2_with fail
      refine HD.out.mono ?_
      rintro x w' ⟨rfl, rfl⟩
      go_wp2_with fail
      go_ret
      exact ⟨rfl, rfl⟩

set_option maxHeartbeats 2000000 in
theorem fieldsI (h : InAt R k e M w) : Calls Tryz.prog 22 #[.pointer (some ⟨R, 0, none⟩)] w fun x w' => ∃ u, x = .returned u ∧ FS w' u (fieldsK k) ∧ Below w.heap.size w w' := by
  obtain ⟨T, K, M0, h1, h2, h3, h4, -⟩ := h
  have c0 : w.cell? ⟨R, 0, none⟩ = some (.iface T (.pointer (some ⟨K, 0, none⟩))) := by simp [World.cell?, h1]
  cases k with
  | fix n c =>
    obtain ⟨rfl, -, hK, -⟩ := h2
    have hta := fun W => (asD K W).1
    clear h1 h3 h4 hK
    go_enter Tryz.func22, Tryz.ntmps22
    go_wp2_with fail
    go_ret
    exact ⟨_, rfl, RS.nil _ _, Below.refl _ _⟩
  | unt b c =>
    obtain ⟨rfl, -, hK⟩ := h2
    have hta := fun W => (asD K W).2.1
    clear h1 h3 h4 hK
    go_enter Tryz.func22, Tryz.ntmps22
    go_wp2_with fail
    go_ret
    exact ⟨_, rfl, RS.nil _ _, Below.refl _ _⟩
  | dec l y =>
    obtain ⟨rfl, hK, hl⟩ := h2
    have hta := fun W => (asD K W).2.2
    have HD := Lib.hid (fieldsXA w hK hl.2.1)
    show Calls _ _ _ _ fun x w' => ∃ u, x = .returned u ∧ FS w' u (fieldsX y) ∧ Below w.heap.size w w'
    generalize fieldsX y = fx at *
    clear h1 h3 h4 hK hl
    go_enter Tryz.func22, Tryz.ntmps22
    go_wp2_with fail
    refine HD.out.mono ?_
    rintro x w' ⟨u, rfl, hu, hb⟩
    have HU := Lib.hid hu
    have HB := Lib.hid hb
    obtain ⟨q, c, rfl, -⟩ := RS.slice hu
    clear hu hb HD
    go_wp2_with fail
    go_ret
    exact ⟨_, rfl, HU.out, HB.out⟩
theorem InAt.fields_le (h : InAt R k e M w) : (fieldsK k).length ≤ 65536 := by
  obtain ⟨T, K, M0, h1, h2, h3, h4, -⟩ := h
  cases k with
  | fix n c => exact Nat.zero_le _
  | unt b c => exact Nat.zero_le _
  | dec l y => exact Nat.le_trans h2.2.1.fields_le h2.2.2.2.1
end

end Go.Proofs.YtjkccacpffikbaaGreatDoor

/- An intake is given a piece, is closed, is made. -/
namespace Go.Proofs.YtjkccacpffikbaaGreatDoor
open Go.ChangeShapes Go.WideShapes Go.ChangeAt Go.RowKit
open Oc Fl Bk Bd Dk Ik
set_option linter.unusedVariables false
set_option maxRecDepth 100000

/-- A piece, where it failed with e. -/
def nextP (k : Kd) (e : Nat) (b : List UInt8) : Kd := if e = 0 then nextK k b else k
def dataP (k : Kd) (e : Nat) (b : List UInt8) : List UInt8 := if e = 0 then dataK k b else []
def numP (k : Kd) (e : Nat) (b : List UInt8) : Nat := if e = 0 then numK k b else 0
def errP (k : Kd) (e : Nat) (b : List UInt8) : Nat := if e = 0 then errK k b else e

/-- What a piece leaves. -/
def PutI (R : Nat) (k : Kd) (e : Nat) (M : Nat → Prop) (b : List UInt8) (w : World) (x : Ending) (w' : World) : Prop :=
  ∃ (M1 : Nat → Prop) (p : Option Addr) (c : Nat), x = .returned (.tuple #[.slice p (dataP k e b).length c, .int .i64 (numP k e b : Int), .int .i64 (errP k e b : Int)]) ∧ InAt R (nextP k e b) (errP k e b) M1 w' ∧ Moves M M1 w w' ∧
    RD w' (.slice p (dataP k e b).length c) (dataP k e b) ∧ (∀ g, (Value.slice p (dataP k e b).length c).ownBlock = some g → w.heap.size ≤ g ∧ g < w'.heap.size ∧ ¬ M1 g)

section
variable {R K : Nat} {k : Kd} {e : Nat} {M M0 : Nat → Prop} {T : TypeId} {w w1 : World} {b : List UInt8} {x : Ending}
theorem KdQ.into (h1 : w.heap[R]? = some (.cells #[.iface T (.pointer (some ⟨K, 0, none⟩)), .int .i64 0] 63 (0, 0))) (h3 : ¬ M0 R) (h4 : 0 < R) (q : KdQ K k T M0 b w x w1) :
    ∃ (p : Option Addr) (n c : Nat), x = .returned (.tuple #[.slice p n c, .int .i64 (numK k b : Int), .int .i64 (errK k b : Int)]) ∧ w1.heap[R]? = some (.cells #[.iface T (.pointer (some ⟨K, 0, none⟩)), .int .i64 0] 63 (0, 0)) ∧
      ∀ m, PutI R k 0 (fun g => g = R ∨ M0 g) b w (.returned (.tuple #[.slice p n c, .int .i64 (numK k b : Int), .int .i64 (errK k b : Int)])) ((w1.setCell ⟨R, 1, none⟩ (.int .i64 (errK k b : Int))).drewN m) := by
  obtain ⟨M1, p, c, rfl, hk, mv, hrd, hown⟩ := q
  have hlt := (Array.getElem?_eq_some_iff.1 h1).1
  have hR1 := (mv.block R hlt h3).trans h1
  have hn1 : ¬ M1 R := fun hm => by
    rcases mv.own R hm with h' | h'
    · exact h3 h'
    · omega
  refine ⟨p, _, c, rfl, hR1, fun m => ⟨fun g => g = R ∨ M1 g, p, c, rfl, ⟨T, K, M1, heap_set _ hR1, (hk.beside hn1 h4).below (drewN_below8 _ m), hn1, h4, rfl⟩, ?_, ?_, fun g hg => ?_⟩⟩
  · refine ⟨mv.os, mv.tape, mv.output, by simpa [World.setCell] using mv.size, fun g hg hn => ?_, fun g hg => ?_⟩
    · exact (Below.heap_setCell _ _ _ _ (fun (e : g = R) => hn (.inl e))).trans (mv.block g hg (fun h => hn (.inr h)))
    · rcases hg with hg | hg
      · exact .inl (.inl hg)
      · exact (mv.own g hg).imp .inr id
  · exact rd_drewN (hrd.keep fun _ g hg => Below.heap_setCell _ _ _ _ (fun (e : g = R) => by have := (hown g hg).1; omega)) m
  · obtain ⟨a1, a2, a3⟩ := hown g hg
    exact ⟨a1, by simpa [World.setCell] using a2, fun hg' => by
      rcases hg' with hg' | hg'
      · omega
      · exact a3 hg'⟩

set_option maxHeartbeats 4000000 in
theorem putI (p : Option Addr) (c : Nat) (h : InAt R k e M w) (hb : RD w (.slice p b.length c) b) (hp : b ≠ [] → ∀ g, (Value.slice p b.length c).ownBlock = some g → ¬ M g) (hl : b.length ≤ 100000) (hc : takenK k ≤ 1000000) :
    Calls Tryz.prog 11 #[.pointer (some ⟨R, 0, none⟩), .slice p b.length c] w fun x w' => PutI R k e M b w x w' := by
  by_cases he : e = 0
  case neg =>
    have HQ : Hid (∀ m, PutI R k e M b w (.returned (.tuple #[.slice none 0 0, .int .i64 0, .int .i64 (e : Int)])) (w.drewN m)) := Lib.hid fun m => by
      have e1 : nextP k e b = k := if_neg he
      have e2 : dataP k e b = [] := if_neg he
      have e3 : numP k e b = 0 := if_neg he
      have e4 : errP k e b = e := if_neg he
      unfold PutI
      rw [e1, e2, e3, e4]
      exact ⟨M, none, 0, rfl, h.below (drewN_below8 _ m), Moves.of_below (drewN_below8 _ m), RD.nil _, fun g hg => by simp [Value.ownBlock] at hg⟩
    have hne : ((e : Int) != 0) = true := by unfold bne; rw [beq_eq_false_iff_ne.2 (by omega)]; rfl
    obtain ⟨T, K, M0, h1, -⟩ := h
    have c1 : w.cell? ⟨R, 1, none⟩ = some (.int .i64 (e : Int)) := by simp [World.cell?, h1]
    clear h1 hb hp hl hc he
    generalize b.length = L at *
    go_enter Tryz.func11, Tryz.ntmps11
    go_wp2_with fail
    go_quiet (fail)
    go_wp2_with fail
    go_ret3
    exact HQ.out _
  subst he
  obtain ⟨T, K, M0, h1, h2, h3, h4, rfl⟩ := h
  have c0 : w.cell? ⟨R, 0, none⟩ = some (.iface T (.pointer (some ⟨K, 0, none⟩))) := by simp [World.cell?, h1]
  have c1 : w.cell? ⟨R, 1, none⟩ = some (.int .i64 0) := by simp [World.cell?, h1]
  have HI : Hid (∀ x w1, KdQ K k T M0 b w x w1 → _) := Lib.hid fun x w1 q => KdQ.into h1 h3 h4 q
  have hp0 : b ≠ [] → ∀ g, (Value.slice p b.length c).ownBlock = some g → ¬ M0 g := fun hne g hg hm => hp hne g hg (.inr hm)
  cases k with
  | fix n q =>
    have HP := Lib.hid (fput12_any b p c h2 hb hp0 hl hc)
    obtain ⟨rfl, -⟩ := h2
    clear h1 hb hp hp0 hl hc h3 h4
    go_enter Tryz.func11, Tryz.ntmps11
    go_wp2_with fail
    refine HP.out.mono ?_
    intro x w1 hq
    obtain ⟨pv, nv, cv, rfl, hR1, hQ⟩ := HI.out _ _ hq
    have HQ := Lib.hid hQ
    have f1 : w1.frozen? ⟨R, 1, none⟩ = false := by simp [World.frozen?, hR1]
    have g1 : w1.cell? ⟨R, 1, none⟩ = some (.int .i64 0) := by simp [World.cell?, hR1]
    have g2 : (w1.setCell ⟨R, 1, none⟩ (.int .i64 (errK (.fix n q) b : Int))).cell? ⟨R, 1, none⟩ = some (.int .i64 (errK (.fix n q) b : Int)) := by have := heap_set (i := 1) (.int .i64 (errK (.fix n q) b : Int)) hR1; simp [World.cell?, this]
    clear hq hQ hR1 HI HP c0 c1
    generalize errK (.fix n q) b = er at *
    generalize numK (.fix n q) b = nu at *
    go_wp2_with fail
    go_quiet (fail)
    go_wp2_with fail
    go_ret3
    exact HQ.out _
  | unt cl q =>
    have HP := Lib.hid (uput12_any cl b p c h2 hb hp0 hl hc)
    obtain ⟨rfl, -⟩ := h2
    clear h1 hb hp hp0 hl hc h3 h4
    go_enter Tryz.func11, Tryz.ntmps11
    go_wp2_with fail
    refine HP.out.mono ?_
    intro x w1 hq
    obtain ⟨pv, nv, cv, rfl, hR1, hQ⟩ := HI.out _ _ hq
    have HQ := Lib.hid hQ
    have f1 : w1.frozen? ⟨R, 1, none⟩ = false := by simp [World.frozen?, hR1]
    have g1 : w1.cell? ⟨R, 1, none⟩ = some (.int .i64 0) := by simp [World.cell?, hR1]
    have g2 : (w1.setCell ⟨R, 1, none⟩ (.int .i64 (errK (.unt cl q) b : Int))).cell? ⟨R, 1, none⟩ = some (.int .i64 (errK (.unt cl q) b : Int)) := by have := heap_set (i := 1) (.int .i64 (errK (.unt cl q) b : Int)) hR1; simp [World.cell?, this]
    clear hq hQ hR1 HI HP c0 c1
    generalize errK (.unt cl q) b = er at *
    generalize numK (.unt cl q) b = nu at *
    go_wp2_with fail
    go_quiet (fail)
    go_wp2_with fail
    go_ret3
    exact HQ.out _
  | dec l y =>
    have HP := Lib.hid (dput12_any b p c h2 hb hp0 hl hc)
    obtain ⟨rfl, -⟩ := h2
    clear h1 hb hp hp0 hl hc h3 h4
    go_enter Tryz.func11, Tryz.ntmps11
    go_wp2_with fail
    refine HP.out.mono ?_
    intro x w1 hq
    obtain ⟨pv, nv, cv, rfl, hR1, hQ⟩ := HI.out _ _ hq
    have HQ := Lib.hid hQ
    have f1 : w1.frozen? ⟨R, 1, none⟩ = false := by simp [World.frozen?, hR1]
    have g1 : w1.cell? ⟨R, 1, none⟩ = some (.int .i64 0) := by simp [World.cell?, hR1]
    have g2 : (w1.setCell ⟨R, 1, none⟩ (.int .i64 (errK (.dec l y) b : Int))).cell? ⟨R, 1, none⟩ = some (.int .i64 (errK (.dec l y) b : Int)) := by have := heap_set (i := 1) (.int .i64 (errK (.dec l y) b : Int)) hR1; simp [World.cell?, this]
    clear hq hQ hR1 HI HP c0 c1
    generalize errK (.dec l y) b = er at *
    generalize numK (.dec l y) b = nu at *
    go_wp2_with fail
    go_quiet (fail)
    go_wp2_with fail
    go_ret3
    exact HQ.out _
end

section
variable {R : Nat} {k : Kd} {e : Nat} {M : Nat → Prop} {w : World}
/-- What Close leaves. -/
def ShutI (R : Nat) (k : Kd) (e : Nat) (M : Nat → Prop) (w : World) (x : Ending) (w' : World) : Prop :=
  x = .returned (.int .i64 (shutE k e : Int)) ∧ InAt R (shutK k) (shutE k e) M w' ∧ Moves M M w w'
theorem Moves.one {M : Nat → Prop} {g i : Nat} {v : Value} (h : M g) : Moves M M w (w.setCell ⟨g, i, none⟩ v) :=
  ⟨rfl, rfl, rfl, by simp [World.setCell], fun j _ hj => Below.heap_setCell _ _ _ _ (fun (e : j = g) => hj (e ▸ h)), fun _ h => .inl h⟩
theorem InAt.fail {T : TypeId} {K : Nat} {M0 : Nat → Prop} (h1 : w.heap[R]? = some (.cells #[.iface T (.pointer (some ⟨K, 0, none⟩)), .int .i64 (e : Int)] 63 (0, 0))) (h2 : KdAt K k T M0 w) (h3 : ¬ M0 R) (h4 : 0 < R) (f : Nat) :
    InAt R k f (fun g => g = R ∨ M0 g) (w.setCell ⟨R, 1, none⟩ (.int .i64 (f : Int))) := ⟨T, K, M0, heap_set _ h1, h2.beside h3 h4, h3, h4, rfl⟩

set_option maxHeartbeats 4000000 in
theorem closeI (h : InAt R k e M w) : Calls Tryz.prog 10 #[.pointer (some ⟨R, 0, none⟩)] w fun x w' => ShutI R k e M w x w' := by
  have H := Lib.hid h
  obtain ⟨T, K, M0, h1, h2, h3, h4, rfl⟩ := h
  have c0 : w.cell? ⟨R, 0, none⟩ = some (.iface T (.pointer (some ⟨K, 0, none⟩))) := by simp [World.cell?, h1]
  have c1 : w.cell? ⟨R, 1, none⟩ = some (.int .i64 (e : Int)) := by simp [World.cell?, h1]
  have f1 : w.frozen? ⟨R, 1, none⟩ = false := by simp [World.frozen?, h1]
  cases k with
  | unt cl q =>
    obtain ⟨rfl, rfl, hK⟩ := h2
    have hne : R ≠ K := h3
    have fK : w.frozen? ⟨K, 1, none⟩ = false := by simp [World.frozen?, hK]
    have cK : w.cell? ⟨K, 1, none⟩ = some (.bool cl) := by simp [World.cell?, hK]
    have g1 : (w.setCell ⟨K, 1, none⟩ (.bool true)).cell? ⟨R, 1, none⟩ = some (.int .i64 (e : Int)) := by
      rw [World.cell?_of_block (Below.heap_setCell _ _ _ _ hne)]; exact c1
    have hta := fun W => (asU K W).2.1
    have HQ : Hid (ShutI R (.unt cl q) e (fun g => g = R ∨ g = K) w (.returned (.int .i64 (e : Int))) (w.setCell ⟨K, 1, none⟩ (.bool true))) := Lib.hid
      ⟨rfl, ⟨_, K, _, (Below.heap_setCell _ _ _ _ hne).trans h1, ⟨rfl, rfl, heap_set _ hK⟩, h3, h4, rfl⟩, Moves.one (.inr rfl)⟩
    clear h1 h3 h4 hK H
    go_enter Tryz.func10, Tryz.ntmps10
    go_wp2_with fail
    go_ret
    exact HQ.out
  | fix n q =>
    have HD := Lib.hid (fdone12_any K n q h2.2.2.1)
    have HF := Lib.hid (InAt.fail h1 h2 h3 h4 4)
    obtain ⟨rfl, -, hK, -⟩ := h2
    have hta := fun W => (asU K W).1
    have hE : shutE (.fix n q) e = if e = 0 ∧ decide (n = 0) = false then 4 else e := rfl
    unfold ShutI
    rw [hE, show shutK (.fix n q) = .fix n q from rfl]
    by_cases he : e = 0
    case neg =>
      rw [if_neg (fun h => he h.1)]
      have hb : ((e : Int) == 0) = false := beq_eq_false_iff_ne.2 (by omega)
      clear h1 h3 h4 hK HD HF he hE
      go_enter Tryz.func10, Tryz.ntmps10
      go_wp2_with fail
      go_ret
      exact ⟨rfl, H.out, Moves.refl _ _⟩
    subst he
    cases hd : decide (n = 0) with
    | true =>
      rw [hd] at HD
      rw [if_neg (by decide)]
      clear h1 h3 h4 hK HF hE hd
      go_enter Tryz.func10, Tryz.ntmps10
      go_wp2_with fail
      refine HD.out.mono ?_
      rintro x w' ⟨rfl, rfl⟩
      go_wp2_with fail
      go_ret
      exact ⟨rfl, H.out, Moves.refl _ _⟩
    | false =>
      rw [hd] at HD
      rw [if_pos (by decide)]
      have HM := Lib.hid (Moves.one (w := w) (M := fun g => g = R ∨ M0 g) (i := 1) (v := .int .i64 4) (.inl rfl))
      clear h1 h3 h4 hK H hE hd
      go_enter Tryz.func10, Tryz.ntmps10
      go_wp2_with fail
      refine HD.out.mono ?_
      rintro x w' ⟨rfl, rfl⟩
      go_wp2_with fail
      go_ret
      exact ⟨rfl, HF.out, HM.out⟩
  | dec l y =>
    have HD := Lib.hid (doneX w h2.2.1)
    have HF := Lib.hid (InAt.fail h1 h2 h3 h4 4)
    obtain ⟨rfl, hK, -⟩ := h2
    have hta := fun W => (asU K W).2.2
    have hE : shutE (.dec l y) e = if e = 0 ∧ decide (y.2.2 = 0) = false then 4 else e := rfl
    unfold ShutI
    rw [hE, show shutK (.dec l y) = .dec l y from rfl]
    by_cases he : e = 0
    case neg =>
      rw [if_neg (fun h => he h.1)]
      have hb : ((e : Int) == 0) = false := beq_eq_false_iff_ne.2 (by omega)
      clear h1 h3 h4 hK HD HF he hE
      go_enter Tryz.func10, Tryz.ntmps10
      go_wp2_with fail
      go_ret
      exact ⟨rfl, H.out, Moves.refl _ _⟩
    subst he
    cases hd : decide (y.2.2 = 0) with
    | true =>
      rw [hd] at HD
      rw [if_neg (by decide)]
      clear h1 h3 h4 hK HF hE hd
      go_enter Tryz.func10, Tryz.ntmps10
      go_wp2_with fail
      refine HD.out.mono ?_
      rintro x w' ⟨rfl, rfl⟩
      go_wp2_with fail
      go_ret
      exact ⟨rfl, H.out, Moves.refl _ _⟩
    | false =>
      rw [hd] at HD
      rw [if_pos (by decide)]
      have HM := Lib.hid (Moves.one (w := w) (M := fun g => g = R ∨ M0 g) (i := 1) (v := .int .i64 4) (.inl rfl))
      clear h1 h3 h4 hK H hE hd
      go_enter Tryz.func10, Tryz.ntmps10
      go_wp2_with fail
      refine HD.out.mono ?_
      rintro x w' ⟨rfl, rfl⟩
      go_wp2_with fail
      go_ret
      exact ⟨rfl, HF.out, HM.out⟩
end

end Go.Proofs.YtjkccacpffikbaaGreatDoor

/- An intake is made. -/
namespace Go.Proofs.YtjkccacpffikbaaGreatDoor
open Go.ChangeShapes Go.WideShapes Go.ChangeAt Go.RowKit
open Oc Fl Bk Bd Dk Ik
set_option linter.unusedVariables false
set_option maxRecDepth 100000

/-- A framing as a value. -/
abbrev fr12 (k s : Int) : Value := .agg #[.int .i64 k, .int .u64 s]
theorem rightF_no {k s : Int} (h0 : k ≠ 0) (h1 : k ≠ 1) (h2 : k ≠ 2) (h3 : k ≠ 3) : rightF k s = false := by unfold rightF; simp [h0, h1, h2, h3]
set_option maxHeartbeats 2000000 in
theorem right12_any (k s : Int) (w : World) : Calls Tryz.prog 6 #[fr12 k s] w fun x w' => x = .returned (.bool (rightF k s)) ∧ Below w.heap.size w w' := by
  have HB := Lib.hid (below_box w (.cells #[.int .i64 k, .int .u64 s] 24))
  unfold fr12
  by_cases h0 : k = 0
  · subst h0
    go_enter Tryz.func6, Tryz.ntmps6
    go_wp2_with fail
    go_ret
    exact ⟨ret_bool (by unfold rightF; rw [Bool.eq_iff_iff]; simp), HB.out⟩
  by_cases h1 : k = 1
  · subst h1
    go_enter Tryz.func6, Tryz.ntmps6
    go_wp2_with fail
    go_ret
    exact ⟨ret_bool (by unfold rightF; rw [Bool.eq_iff_iff]; simp), HB.out⟩
  by_cases h2 : k = 2
  · subst h2
    go_enter Tryz.func6, Tryz.ntmps6
    go_wp2_with fail
    go_ret
    exact ⟨ret_bool (by unfold rightF; rw [Bool.eq_iff_iff]; simp), HB.out⟩
  by_cases h3 : k = 3
  · subst h3
    go_enter Tryz.func6, Tryz.ntmps6
    go_wp2_with fail
    go_ret
    exact ⟨ret_bool (by unfold rightF; rw [Bool.eq_iff_iff]; simp), HB.out⟩
  rw [rightF_no h0 h1 h2 h3]
  have e0 : (k == 0) = false := beq_eq_false_iff_ne.2 h0
  have e1 : (k == 1) = false := beq_eq_false_iff_ne.2 h1
  have e2 : (k == 2) = false := beq_eq_false_iff_ne.2 h2
  have e3 : (k == 3) = false := beq_eq_false_iff_ne.2 h3
  clear h0 h1 h2 h3
  go_enter Tryz.func6, Tryz.ntmps6
  go_wp2_with fail
  go_ret
  exact ⟨rfl, HB.out⟩
set_option maxHeartbeats 2000000 in
theorem rright12_any (k s : Int) (w : World) : Calls Tryz.prog 7 #[fr12 k s] w fun x w' => x = .returned (.bool (rightF k s)) ∧ Below w.heap.size w w' := by
  have HB := Lib.hid (below_box w (.cells #[.int .i64 k, .int .u64 s] 24))
  unfold fr12
  by_cases hs : 4611686018427387903 < s
  · have hF : rightF k s = false := by unfold rightF; simp; omega
    rw [hF]
    clear hF
    by_cases hk0 : k < 0
    · go_enter Tryz.func7, Tryz.ntmps7
      go_wp2_with fail
      go_ret
      exact ⟨rfl, HB.out⟩
    by_cases hk3 : 3 < k
    · go_enter Tryz.func7, Tryz.ntmps7
      go_wp2_with fail
      go_ret
      exact ⟨rfl, HB.out⟩
    go_enter Tryz.func7, Tryz.ntmps7
    go_wp2_with fail
    go_ret
    exact ⟨rfl, HB.out⟩
  by_cases hk0 : k < 0
  · rw [rightF_no (by omega) (by omega) (by omega) (by omega)]
    go_enter Tryz.func7, Tryz.ntmps7
    go_wp2_with fail
    go_ret
    exact ⟨rfl, HB.out⟩
  by_cases hk3 : 3 < k
  · rw [rightF_no (by omega) (by omega) (by omega) (by omega)]
    go_enter Tryz.func7, Tryz.ntmps7
    go_wp2_with fail
    go_ret
    exact ⟨rfl, HB.out⟩
  by_cases h1 : k = 1
  · subst h1
    have hF : rightF 1 s = true := by unfold rightF; simp; omega
    rw [hF]
    clear hF
    go_enter Tryz.func7, Tryz.ntmps7
    go_wp2_with fail
    go_ret
    exact ⟨rfl, HB.out⟩
  have e1 : (k == 1) = false := beq_eq_false_iff_ne.2 h1
  have hF : rightF k s = (s == 0) := by unfold rightF; rw [Bool.eq_iff_iff]; simp; omega
  rw [hF]
  clear hF h1
  go_enter Tryz.func7, Tryz.ntmps7
  go_wp2_with fail
  go_ret
  exact ⟨rfl, HB.out⟩

/-- Both boxes that New begins with. -/
theorem boxes12 (w : World) (k s a b c : Int) : ∃ w0, (w.alloc (.cells #[.int .i64 k, .int .u64 s] 24)).alloc (.cells #[.int .i64 a, .int .i64 b, .int .i64 c] 26) = w0 ∧ Below w.heap.size w w0 ∧ w0.heap.size = w.heap.size + 2 ∧
    w0.heap[w.heap.size]? = some (.cells #[.int .i64 k, .int .u64 s] 24 (0, 0)) ∧ w0.heap[w.heap.size + 1]? = some (.cells #[.int .i64 a, .int .i64 b, .int .i64 c] 26 (0, 0)) := by
  refine ⟨_, rfl, ahead (below_box _ _) (below_box _ _), by simp, ?_, ?_⟩
  · rw [Below.heap_alloc _ _ _ (by simp)]; exact World.alloc_heap_new w _
  · exact heap_alloc2_new w _ _
theorem two_cells12 {A : World} {R : Nat} {x y : Value} {t : TypeId} (h : A.heap[R]? = some (.cells #[x, y] t (0, 0))) : A.cell? ⟨R, 0, none⟩ = some x ∧ A.cell? ⟨R, 1, none⟩ = some y := by simp [World.cell?, h]

set_option maxHeartbeats 4000000 in
theorem new12_bad (k s a b c : Int) (w : World) (h : rightF k s = false ∨ okLs a b c = false) :
    Calls Tryz.prog 5 #[fr12 k s, lim3 a b c] w fun x w' => x = .returned (.tuple #[.pointer none, .int .i64 1]) ∧ Below w.heap.size w w' := by
  obtain ⟨w0, hw0, b0, z0, l0, l1⟩ := boxes12 w k s a b c
  have HR := Lib.hid (right12_any k s w0)
  have HL : Hid (∀ W, _) := Lib.hid fun W => right8_any a b c W
  have KF : Hid (∀ W, Below w0.heap.size w0 W → _) := Lib.hid fun W h => two_cells12 ((h.block w.heap.size (by omega)).trans l0)
  have KL : Hid (∀ W, Below w0.heap.size w0 W → _) := Lib.hid fun W h => (three_cells8 ((h.block (w.heap.size + 1) (by omega)).trans l1)).1
  have W0 := Lib.hid hw0
  have B0 := Lib.hid b0
  obtain ⟨x0, x1⟩ := KF.out w0 (Below.refl _ _)
  unfold lim3 at HL ⊢
  unfold fr12 at HR ⊢
  clear hw0 b0 l0 l1
  cases hr : rightF k s with
  | false =>
    rw [hr] at HR
    clear h hr
    go_enter Tryz.func5, Tryz.ntmps5
    go_wp2_with fail
    rw [W0.out]
    refine HR.out.mono ?_
    rintro x w1 ⟨rfl, hb1⟩
    have B1 := Lib.hid (ahead B0.out hb1)
    clear hb1
    go_wp2_with fail
    go_ret2
    exact ⟨rfl, B1.out⟩
  | true =>
    have hl : okLs a b c = false := h.resolve_left (by rw [hr]; decide)
    rw [hr] at HR
    rw [hl] at HL
    clear h hr hl
    go_enter Tryz.func5, Tryz.ntmps5
    go_wp2_with fail
    rw [W0.out]
    refine HR.out.mono ?_
    rintro x w1 ⟨rfl, hb1⟩
    obtain ⟨y0, y1, y2⟩ := KL.out w1 hb1
    have B1 := Lib.hid (ahead B0.out hb1)
    clear hb1 x0 x1
    go_wp2_with fail
    refine (HL.out _).mono ?_
    rintro x w2 ⟨rfl, hb2⟩
    have B2 := Lib.hid (ahead B1.out hb2)
    clear hb2
    go_wp2_with fail
    go_ret2
    exact ⟨rfl, B2.out⟩

theorem InAt.made {k : Kd} {T : TypeId} {K : Nat} {M0 : Nat → Prop} {W : World} (h : KdAt K k T M0 W) (hs : 0 < W.heap.size) :
    InAt W.heap.size k 0 (fun g => g = W.heap.size ∨ M0 g) (W.alloc (.cells #[.iface T (.pointer (some ⟨K, 0, none⟩)), .int .i64 0] 63)) :=
  ⟨T, K, M0, World.alloc_heap_new W _, h.below (below_box _ _), fun hm => by have := h.lt hm; omega, hs, rfl⟩

set_option maxHeartbeats 8000000 in
theorem newI (kind size : Nat) (l : Lim) (w : World) (hk : kind ≤ 3) (hs : kind ≠ 1 → size = 0) (hsz : size ≤ 4611686018427387903) (hl : l.ext ≤ 65536 ∧ l.fields ≤ 65536 ∧ l.bytes ≤ 65536) (hsp : Spans w) :
    Calls Tryz.prog 5 #[fr12 (kind : Int) (size : Int), lim3 (l.ext : Int) (l.fields : Int) (l.bytes : Int)] w fun x w' => ∃ (R : Nat) (M : Nat → Prop), x = .returned (.tuple #[.pointer (some ⟨R, 0, none⟩), .int .i64 0]) ∧ InAt R (newK kind size l) 0 M w' ∧ (∀ g, M g → w.heap.size ≤ g) ∧ Below w.heap.size w w' := by
  obtain ⟨w0, hw0, b0, z0, l0, l1⟩ := boxes12 w (kind : Int) (size : Int) (l.ext : Int) (l.fields : Int) (l.bytes : Int)
  have hok : okLs (l.ext : Int) (l.fields : Int) (l.bytes : Int) = true := by unfold okLs okL; simp; omega
  have hrf : rightF (kind : Int) (size : Int) = true := by
    unfold rightF; simp
    by_cases h1 : kind = 1
    · omega
    · have := hs h1; omega
  obtain ⟨ki, hki⟩ : ∃ ki : Int, (kind : Int) = ki := ⟨_, rfl⟩
  rw [hki] at hw0 l0 hrf ⊢
  have HR := Lib.hid (right12_any ki (size : Int) w0)
  rw [hrf] at HR
  have HL : Hid (∀ W, _) := Lib.hid fun W => right8_any (l.ext : Int) (l.fields : Int) (l.bytes : Int) W
  rw [hok] at HL
  have KF : Hid (∀ W, Below w0.heap.size w0 W → _) := Lib.hid fun W h => two_cells12 ((h.block w.heap.size (by omega)).trans l0)
  have KL : Hid (∀ W, Below w0.heap.size w0 W → _) := Lib.hid fun W h => (three_cells8 ((h.block (w.heap.size + 1) (by omega)).trans l1)).1
  have W0 := Lib.hid hw0
  have B0 := Lib.hid b0
  have HSP := Lib.hid hsp
  obtain ⟨x0, x1⟩ := KF.out w0 (Below.refl _ _)
  unfold lim3 at HL ⊢
  unfold fr12 at HR ⊢
  clear hw0 b0 l0 l1 hok hrf hsp
  by_cases h2 : kind = 2
  case pos =>
    obtain rfl : ki = 2 := by omega
    subst h2
    have HN : Hid (∀ W, Spans W → _) := Lib.hid fun W h => newX l W hl h
    unfold lim3 at HN
    have HLM := Lib.hid hl
    rw [show newK 2 size l = .dec l (sz [] 0 0, 0, 4) from rfl]
    clear hk hs hsz hl hki
    go_enter Tryz.func5, Tryz.ntmps5
    go_wp2_with fail
    rw [W0.out]
    refine HR.out.mono ?_
    rintro x w1 ⟨rfl, hb1⟩
    obtain ⟨y0, y1, y2⟩ := KL.out w1 hb1
    have B1 := Lib.hid hb1
    clear hb1 x0 x1
    go_wp2_with fail
    refine (HL.out _).mono ?_
    rintro x w2 ⟨rfl, hb2⟩
    have hb := ahead B1.out hb2
    clear y0 y1 y2
    obtain ⟨y0, y1, y2⟩ := KL.out w2 hb
    obtain ⟨x0, x1⟩ := KF.out w2 hb
    have hb' := ahead B0.out hb
    have HNW := Lib.hid (HN.out w2 (HSP.out.below hb'))
    have B2 := Lib.hid hb'
    clear hb2 hb hb' HN
    go_wp2_with fail
    refine HNW.out.mono ?_
    rintro x w3 ⟨K, M0, rfl, hd, hm, hb3⟩
    have hz := B2.out.size
    have hz3 := hb3.size
    have hq := InAt.made (k := .dec l (sz [] 0 0, 0, 4)) (T := 57) ⟨rfl, hd, HLM.out⟩ (by have := (hd.spans).1; exact this)
    have HQ := Lib.hid hq
    have HM := Lib.hid (show ∀ g, (g = w3.heap.size ∨ M0 g) → w.heap.size ≤ g from fun g hg => by
      rcases hg with hg | hg
      · omega
      · have := hm g hg; omega)
    have B3 := Lib.hid (ahead (ahead B2.out hb3) (below_box w3 (.cells #[.iface 57 (.pointer (some ⟨K, 0, none⟩)), .int .i64 0] 63)))
    clear hd hm hb3 hq hz hz3 x0 x1 y0 y1 y2
    go_wp2_with fail
    go_ret2
    exact ⟨w3.heap.size, _, rfl, HQ.out, HM.out, B3.out⟩
  case neg =>
    by_cases h3 : kind = 3
    case pos =>
      obtain rfl : ki = 3 := by omega
      subst h3
      rw [show newK 3 size l = .unt false 0 from rfl]
      clear hk hs hsz hl h2 hki
      go_enter Tryz.func5, Tryz.ntmps5
      go_wp2_with fail
      rw [W0.out]
      refine HR.out.mono ?_
      rintro x w1 ⟨rfl, hb1⟩
      obtain ⟨y0, y1, y2⟩ := KL.out w1 hb1
      have B1 := Lib.hid hb1
      clear hb1 x0 x1
      go_wp2_with fail
      refine (HL.out _).mono ?_
      rintro x w2 ⟨rfl, hb2⟩
      have hb := ahead B1.out hb2
      obtain ⟨x0, x1⟩ := KF.out w2 hb
      have hb' := ahead B0.out hb
      have hz := hb'.size
      have hs0 := (HSP.out.below hb').1
      have bA := below_box w2 (.cells #[.int .i64 0, .bool false] 68)
      have hq := InAt.made (W := w2.alloc (.cells #[.int .i64 0, .bool false] 68)) (k := .unt false 0) (T := 64) (K := w2.heap.size) ⟨rfl, rfl, World.alloc_heap_new w2 _⟩ (by simp <;> omega)
      rw [show (w2.alloc (.cells #[.int .i64 0, .bool false] 68)).heap.size = w2.heap.size + 1 by simp] at hq
      have HM := Lib.hid (show ∀ g, (g = w2.heap.size + 1 ∨ g = w2.heap.size) → w.heap.size ≤ g from fun g hg => by omega)
      have B3 := Lib.hid (ahead (ahead hb' bA) (below_box _ (.cells #[.iface 64 (.pointer (some ⟨w2.heap.size, 0, none⟩)), .int .i64 0] 63)))
      have HQ := Lib.hid hq
      clear hb2 hb hb' y0 y1 y2 hq bA hz hs0
      go_wp2_with fail
      go_ret2
      exact ⟨_, _, rfl, HQ.out, HM.out, B3.out⟩
    case neg =>
      have HNK := Lib.hid (show newK kind size l = .fix size 0 from by unfold newK; rw [if_neg h2, if_neg h3])
      have e2 : (ki == 2) = false := beq_eq_false_iff_ne.2 (by omega)
      have e3 : (ki == 3) = false := beq_eq_false_iff_ne.2 (by omega)
      have HSZ := Lib.hid hsz
      clear hk hs hsz hl h2 h3 hki
      go_enter Tryz.func5, Tryz.ntmps5
      go_wp2_with fail
      rw [W0.out]
      refine HR.out.mono ?_
      rintro x w1 ⟨rfl, hb1⟩
      obtain ⟨y0, y1, y2⟩ := KL.out w1 hb1
      have B1 := Lib.hid hb1
      clear hb1 x0 x1
      go_wp2_with fail
      refine (HL.out _).mono ?_
      rintro x w2 ⟨rfl, hb2⟩
      have hb := ahead B1.out hb2
      obtain ⟨x0, x1⟩ := KF.out w2 hb
      have hb' := ahead B0.out hb
      have hz := hb'.size
      have hs0 := (HSP.out.below hb').1
      have bA := below_box w2 (.cells #[.int .i64 0, .int .u64 (size : Int)] 71)
      have hq := InAt.made (W := w2.alloc (.cells #[.int .i64 0, .int .u64 (size : Int)] 71)) (k := .fix size 0) (T := 69) (K := w2.heap.size) ⟨rfl, rfl, World.alloc_heap_new w2 _, HSZ.out⟩ (by simp <;> omega)
      rw [show (w2.alloc (.cells #[.int .i64 0, .int .u64 (size : Int)] 71)).heap.size = w2.heap.size + 1 by simp] at hq
      have HM := Lib.hid (show ∀ g, (g = w2.heap.size + 1 ∨ g = w2.heap.size) → w.heap.size ≤ g from fun g hg => by omega)
      have B3 := Lib.hid (ahead (ahead hb' bA) (below_box _ (.cells #[.iface 69 (.pointer (some ⟨w2.heap.size, 0, none⟩)), .int .i64 0] 63)))
      have HQ := Lib.hid hq
      clear hb2 hb hb' y0 y1 y2 hq bA hz hs0
      go_wp2_with fail
      go_ret2
      exact ⟨_, _, rfl, by rw [HNK.out]; exact HQ.out, HM.out, B3.out⟩

end Go.Proofs.YtjkccacpffikbaaGreatDoor

/- The laws' example. -/
namespace Go.Proofs.YtjkccacpffikbaaGreatDoor
open Go.ChangeShapes Go.WideShapes Go.ChangeAt Go.RowKit
open Go.Shelf
open Oc Fl Bk Bd Dk Ik
set_option linter.unusedVariables false
set_option maxRecDepth 100000

set_option maxHeartbeats 2000000 in
theorem wakes12 (w : World) (hsp : Spans w) : Calls Tryz.prog 4 #[] w fun e w' => e = .returned (.bool true) ∧ Below w.heap.size w w' := by
  have hcv := fun (w : World) (C : Array Value) (n c : Nat) => Lib.run_convert_bytes_const (P := Tryz.prog) w 29 5 C n c Tryz.underlying29 Tryz.underlying5
  have HN := Lib.hid (newI 1 3 ⟨0, 0, 0⟩ w (by decide) (fun h => absurd rfl h) (by decide) (by decide) hsp)
  unfold lim3 fr12 at HN
  rw [show newK 1 3 ⟨0, 0, 0⟩ = .fix 3 0 from rfl] at HN
  have HCV := Lib.hid hcv
  clear hsp hcv
  go_enter Tryz.func4, Tryz.ntmps4
  go_wp2_with fail
  refine HN.out.mono ?_
  rintro e w1 ⟨R, M, rfl, hd1, hm1, hb1⟩
  have hcv1 := HCV.out w1 #[.int .u8 97, .int .u8 98, .int .u8 99, .int .u8 100] 4 4
  obtain ⟨w2, hw2⟩ : ∃ w2, w1.alloc (.cells #[.int .u8 97, .int .u8 98, .int .u8 99, .int .u8 100] 5 (4, 5)) = w2 := ⟨_, rfl⟩
  have b2 : Below w1.heap.size w1 w2 := by rw [← hw2]; exact below_box _ _
  have r2 : RD w2 (.slice (some ⟨w1.heap.size, 0, none⟩) 4 4) [97, 98, 99, 100] := by rw [← hw2]; exact rd_lit w1 [97, 98, 99, 100] (4, 5) (by decide)
  have HP := Lib.hid (putI (b := [97, 98, 99, 100]) (some ⟨w1.heap.size, 0, none⟩) 4 (hd1.below b2) r2 (fun _ g hg hm => by have h1 := hd1.lt hm; simp [Value.ownBlock] at hg; omega) (by decide) (by decide))
  have W2 := Lib.hid hw2
  have B2 := Lib.hid (ahead hb1 b2)
  have HM1 := Lib.hid hm1
  have hz1 := hb1.size
  have hz2 := b2.size
  clear hw2 r2 b2 hm1 hb1 hd1 HN
  go_wp2_with fail
  rw [W2.out]
  refine HP.out.mono ?_
  rintro e w3 ⟨M3, p3, c3, he, hi3, m3, hrd3, hown3⟩
  rw [show dataP (.fix 3 0) 0 [97, 98, 99, 100] = [97, 98, 99] from rfl, show numP (.fix 3 0) 0 [97, 98, 99, 100] = 3 from rfl, show errP (.fix 3 0) 0 [97, 98, 99, 100] = 0 from rfl] at he
  rw [show dataP (.fix 3 0) 0 [97, 98, 99, 100] = [97, 98, 99] from rfl] at hrd3
  rw [show nextP (.fix 3 0) 0 [97, 98, 99, 100] = .fix 0 3 from rfl] at hi3
  subst he
  obtain ⟨B3, HM3⟩ := Moves.low B2.out m3 (by omega) HM1.out
  have HB3 := Lib.hid B3
  have hcc : (convert 29 9 (.slice p3 3 c3)).run Tryz.prog w3 = .ok (.string ⟨#[97, 98, 99]⟩) w3 := conv_rd hrd3
  have HD := Lib.hid (doneI hi3)
  rw [show doneK (.fix 0 3) = true from rfl] at HD
  clear hi3 m3 hrd3 hown3 B3 HM3 HP hcv1
  go_wp2_with fail
  refine HD.out.mono ?_
  rintro e w6 ⟨rfl, rfl⟩
  go_wp2_with fail
  go_ret
  exact ⟨rfl, HB3.out⟩

end Go.Proofs.YtjkccacpffikbaaGreatDoor

/- The laws' example. -/
namespace Go.Proofs.YtjkccacpffikbaaGreatDoor
open Go.ChangeShapes Go.WideShapes Go.ChangeAt Go.RowKit
open Go.Shelf
open Oc Fl Bk Bd Dk
set_option linter.unusedVariables false
set_option maxRecDepth 100000

theorem wk1 : cont ⟨0, 0, 0⟩ (sz [] 0 0, 0, 4) [51] = (sz [] 3 1, 1, 4) := by rfl
theorem wk2 : cont ⟨0, 0, 0⟩ (sz [] 3 1, 1, 4) [13, 10, 97, 98] = (⟨3, 1, 1, 0, 0, [], [97, 98], []⟩, 5, 4) := by rfl

end Go.Proofs.YtjkccacpffikbaaGreatDoor

/- The law DechunkStays. -/
namespace Go.Proofs.YtjkccacpffikbaaGreatDoor
open Go.ChangeShapes Go.WideShapes Go.ChangeAt Go.RowKit
open Oc Fl Bk Bd Dk
set_option linter.unusedVariables false
set_option maxRecDepth 100000

theorem cont_four {l : Lim} {T : List UInt8} {n : Nat} (h4 : (cont l (sz [] 0 0, 0, 4) T).2.2 = 4) (h : (cont l (sz [] 0 0, 0, 4) T).2.1 = 0 + n) : n = T.length := by
  rw [cont_go] at h4 h
  have := (go_at l (sz [] 0 0) T 0).2.2 h4
  omega
theorem okLs_nat {a b c : Int} (h : okLs a b c = true) : ∃ l : Lim, a = (l.ext : Int) ∧ b = (l.fields : Int) ∧ c = (l.bytes : Int) ∧ l.ext ≤ 65536 ∧ l.fields ≤ 65536 ∧ l.bytes ≤ 65536 := by
  unfold okLs okL at h
  simp at h
  refine ⟨⟨a.toNat, b.toNat, c.toNat⟩, ?_, ?_, ?_, ?_, ?_, ?_⟩ <;> simp <;> omega
theorem told_zero {e : Nat} : told e = 0 ↔ e = 0 ∨ e = 4 := by unfold told; split <;> omega

end Go.Proofs.YtjkccacpffikbaaGreatDoor

/- The law IntakeWants; framings that came in as arguments. -/
namespace Go.Proofs.YtjkccacpffikbaaGreatDoor
open Go.ChangeShapes Go.WideShapes Go.ChangeAt Go.RowKit Go.Deep
open Oc Fl Bk Bd Dk Ik
set_option linter.unusedVariables false
set_option maxRecDepth 100000

theorem frame_cells : Tryz.prog.cellTypes Tryz.prog.depth 24 = some [3, 22] := by kernel_rfl
theorem frame_size : Tryz.prog.cellsOf 24 = 2 := by kernel_rfl
set_option maxRecDepth 100000 in
/-- A framing. -/
theorem open_frame {W : World} {base : Nat} {v : Value} (u : Value.okWide Tryz.prog W .any base 24 v) : ∃ k s, v = fr12 k s ∧ 0 ≤ s := by
  simp only [Value.okWide, Tryz.underlying24] at u
  obtain ⟨cs, rfl, hs, ts, h1, h2, h3⟩ := u
  rw [frame_cells] at h1
  cases h1
  rw [frame_size] at hs
  obtain ⟨l⟩ := cs
  match l, hs with
  | [x, y], _ =>
    obtain ⟨u0, e0, c0⟩ := h3 0 x rfl
    obtain ⟨u1, e1, c1⟩ := h3 1 y rfl
    cases e0
    cases e1
    obtain ⟨a, rfl, ha⟩ := cell_int Tryz.underlying3 c0
    obtain ⟨b, rfl, hb⟩ := cell_int Tryz.underlying22 c1
    exact ⟨a, b, rfl, hb.1⟩
theorem rightF_nat {k s : Int} (h : rightF k s = true) (hs : 0 ≤ s) : ∃ kind size : Nat, k = (kind : Int) ∧ s = (size : Int) ∧ kind ≤ 3 ∧ (kind ≠ 1 → size = 0) ∧ size ≤ 4611686018427387903 := by
  unfold rightF at h
  simp at h
  refine ⟨k.toNat, s.toNat, ?_, ?_, ?_, ?_, ?_⟩ <;> omega

theorem cont_at_le12 (l : Lim) (T : List UInt8) : (cont l (sz [] 0 0, 0, 4) T).2.1 ≤ T.length := by
  rw [cont_go]
  have := (go_at l (sz [] 0 0) T 0).2.1
  omega
namespace Ik
/-- Of what it takes it wants as much, at least. -/
theorem num_wants (k : Kd) (T : List UInt8) (h : T.length ≤ 1000) : numK k T ≤ wantsK k 0 := by
  cases hd : doneK k with
  | true => rw [(done_next T hd).2.1]; exact Nat.zero_le _
  | false =>
    rw [show wantsK k 0 = leftK k from if_neg (by rw [hd]; decide)]
    cases k with
    | fix n c => exact Nat.min_le_left _ _
    | unt b c =>
      show (if b = true then 0 else T.length) ≤ 4611686018427387903
      split <;> omega
    | dec l x =>
      show (cont l x T).2.1 - x.2.1 ≤ 4611686018427387903
      by_cases h4 : x.2.2 = 4
      · have := cont_num (l := l) (T := T) h4; omega
      · rw [cont_end T h4]; omega
theorem wants_cases (k : Kd) (e : Nat) : (doneK k = true ∧ wantsK k e = 0) ∨ (doneK k = false ∧ e ≠ 0 ∧ wantsK k e = 0) ∨ (doneK k = false ∧ e = 0 ∧ 0 < wantsK k e) := by
  cases hd : doneK k with
  | true => exact .inl ⟨rfl, if_pos (.inr hd)⟩
  | false =>
    by_cases he : e = 0
    · refine .inr (.inr ⟨rfl, he, ?_⟩)
      rw [show wantsK k e = leftK k from if_neg (by rw [hd, he]; decide)]
      cases k with
      | fix n c => exact Nat.pos_of_ne_zero (of_decide_eq_false hd)
      | unt b c => show 0 < 4611686018427387903; decide
      | dec l x => show 0 < 4611686018427387903; decide
    · exact .inr (.inl ⟨rfl, he, if_pos (.inl he)⟩)
end Ik
theorem InAt.counts {R : Nat} {k : Kd} {e : Nat} {M : Nat → Prop} {w : World} (h : InAt R k e M w) : givenK k ≤ takenK k := by
  obtain ⟨T, K, M0, h1, h2, -⟩ := h
  cases k with
  | fix n c => exact Nat.le_refl _
  | unt b c => exact Nat.le_refl _
  | dec l x => exact h2.2.1.data
/-- A new one's first piece: the data are no more than what was taken. -/
theorem new_data {R : Nat} {e : Nat} {M : Nat → Prop} {w : World} {kind size : Nat} {l : Lim} {T : List UInt8} (h : InAt R (nextK (newK kind size l) T) e M w) : (dataK (newK kind size l) T).length ≤ numK (newK kind size l) T := by
  have hc := h.counts
  unfold newK at hc ⊢
  by_cases h2 : kind = 2
  · rw [if_pos h2] at hc ⊢
    show ((cont l (sz [] 0 0, 0, 4) T).1.data.drop 0).length ≤ (cont l (sz [] 0 0, 0, 4) T).2.1 - 0
    exact hc
  · rw [if_neg h2]
    by_cases h3 : kind = 3
    · rw [if_pos h3]; exact Nat.le_refl _
    · rw [if_neg h3]
      show (T.take size).length ≤ min size T.length
      rw [List.length_take]
      exact Nat.le_refl _

/-- Which framing it is, and whether its limits are right: New's arguments in their boxes. -/
structure Box12 (w w0 : World) (k s a b c : Int) : Prop where
  fr : ∀ W, Below w0.heap.size w0 W → W.cell? ⟨w.heap.size, 0, none⟩ = some (.int .i64 k) ∧ W.cell? ⟨w.heap.size, 1, none⟩ = some (.int .u64 s)
  lm : ∀ W, Below w0.heap.size w0 W → W.cell? ⟨w.heap.size + 1, 0, none⟩ = some (.int .i64 a) ∧ W.cell? ⟨w.heap.size + 1, 1, none⟩ = some (.int .i64 b) ∧ W.cell? ⟨w.heap.size + 1, 2, none⟩ = some (.int .i64 c)

end Go.Proofs.YtjkccacpffikbaaGreatDoor
