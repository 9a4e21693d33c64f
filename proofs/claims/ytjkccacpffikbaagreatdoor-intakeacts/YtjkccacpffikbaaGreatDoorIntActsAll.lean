/- IntActsAll: IntOps, IntActs, IntActsOpen in one. -/
import Derived.Test.YtjkccacpffikbaaGreatDoorIntRefPlain
import Derived.Test.YtjkccacpffikbaaGreatDoorIntRefChunk
import Derived.Test.YtjkccacpffikbaaGreatDoorIntAll
import Derived.Deep.RegionHeld3
/- The calls that the law IntakeActs makes; the document's Put, for all framings. -/
namespace Go.Proofs.YtjkccacpffikbaaGreatDoor
open Go.ChangeShapes Go.WideShapes Go.ChangeAt Go.RowKit Go.Deep
open Oc Fl Bk Bd Dk Ik
set_option linter.unusedVariables false
set_option maxRecDepth 100000

/-- A call: what it is, its bytes. -/
structure Op12 where
  kind : UInt8
  p : Option Addr
  c : Nat
  bs : List UInt8
/-- A list of calls in memory. -/
def Ops12 (W : World) (p : Option Addr) (os : List Op12) : Prop :=
  ∀ i o, os[i]? = some o → ∃ ad, p = some ad ∧ W.cell? (ad.add (i * 2)) = some (.int .u8 (o.kind.toNat : Int)) ∧ W.cell? ⟨(ad.add (i * 2)).block, (ad.add (i * 2)).off + 1, none⟩ = some (.slice o.p o.bs.length o.c) ∧ RD W (.slice o.p o.bs.length o.c) o.bs
theorem Ops12.below {W W' : World} {p : Option Addr} {os : List Op12} (h : Ops12 W p os) (hb : Below W.heap.size W W') : Ops12 W' p os := fun i o hi => by
  obtain ⟨ad, rfl, h1, h2, h4⟩ := h i o hi
  exact ⟨ad, rfl, (hb.cell (World.block_lt_of_cell? W _ h1)).trans h1, (hb.cell (World.block_lt_of_cell? W _ h2)).trans h2, h4.below hb⟩
theorem open_ops12 {H : Type} {enc : TypeId × Value → H} {W : World} {base : Nat} {v : Value} {d : DataW H} {p : List MemPlace} (u : Value.okWide Tryz.prog W .any base 27 v)
    (h : DataW.Trod enc Tryz.prog W 0 (fun _ => true) true 27 v d p) (hz : ∀ n ∈ d.weights Tryz.prog 27, n ≤ reachBytes) :
    ∃ os : List Op12, ∃ q c, v = .slice q os.length c ∧ Ops12 W q os ∧ os.length ≤ 140737488355328 ∧ ∀ o ∈ os, o.bs.length ≤ 140737488355328 := by
  obtain ⟨a1, len1, cap1, rfl⟩ := okWide_slice Tryz.underlying27 u
  obtain ⟨fuel, hf⟩ := h
  have hrb : reachBytes ≤ 140737488355328 := by decide
  rcases open_slice Tryz.underlying27 hf with ⟨hcs, _⟩ | ⟨a, l, c, m, n, D, Pl, hcs, _, hl, hm, hmm, hd, hi⟩
  · simp [Value.cells] at hcs
    obtain ⟨rfl, rfl, rfl⟩ := hcs
    exact ⟨[], none, 0, rfl, fun i o hi => by simp at hi, by simp, fun f hf => by simp at hf⟩
  · simp [Value.cells] at hcs
    obtain ⟨rfl, rfl, rfl⟩ := hcs
    simp at hmm
    subst hmm
    simp only [Prod.mk.injEq] at hd
    obtain ⟨rfl, _⟩ := hd
    have hby : Tryz.prog.bytesOf 31 = 32 := by kernel_rfl
    have hby1 : Tryz.prog.bytesOf 5 = 1 := by kernel_rfl
    have hc2 : Tryz.prog.cellsOf 31 = 2 := by kernel_rfl
    have k1 : Tryz.prog.cellsOf 5 = 1 := by kernel_rfl
    have k2 : Tryz.prog.cellsOf 29 = 1 := by kernel_rfl
    have hlen : len1 ≤ 140737488355328 := by
      have := hz ((((List.range len1).map D).length + ((List.range (m - len1)).map fun j => D (len1 + j)).length) * Tryz.prog.bytesOf 31) (by simp [DataW.weights, Tryz.underlying27])
      rw [hby] at this
      simp at this
      omega
    obtain ⟨os, h1, h2⟩ := gather2 (P := fun i (o : Op12) => (W.cell? (a.add (i * 2)) = some (.int .u8 (o.kind.toNat : Int)) ∧ W.cell? ⟨(a.add (i * 2)).block, (a.add (i * 2)).off + 1, none⟩ = some (.slice o.p o.bs.length o.c) ∧ RD W (.slice o.p o.bs.length o.c) o.bs) ∧ o.bs.length ≤ 140737488355328) len1 (fun i hil => by
      obtain ⟨cs, hcs, ht⟩ := hi i (by omega)
      rw [hc2] at hcs
      obtain ⟨_, hcl, hat⟩ := World.cells?_some hcs
      obtain ⟨y0, y1, n', hD, _, t0, t1⟩ := trod_struct2 Tryz.underlying31 ht
      match cs, hcl with
      | [c0, c1], _ =>
        have g0 := hat 0 (by decide)
        have g1 := hat 1 (by decide)
        simp only [k1, k2, List.drop_zero, List.drop_succ_cons, List.take_succ_cons, List.take_zero] at t0 t1
        obtain ⟨z0, e0, _, b0⟩ := DataW.trod_int Tryz.underlying5 t0
        have bz := bounds_u8 b0
        simp only [List.cons.injEq, and_true] at e0
        subst e0
        rw [Addr.add_zero'] at g0
        have e1 : (a.add (i * 2)).add 1 = ⟨(a.add (i * 2)).block, (a.add (i * 2)).off + 1, none⟩ := Addr.add_succ' _ 0
        rw [e1] at g1
        have hg0 : W.cell? (a.add (i * 2)) = some (.int .u8 ((UInt8.ofNat z0.toNat).toNat : Int)) := by
          rw [g0]; simp; omega
        simp only [Prod.mk.injEq] at hD
        have hw : ∀ k ∈ (D i).weights Tryz.prog 31, k ≤ 140737488355328 := fun k hk => by
          refine Nat.le_trans (hz k ?_) hrb
          simp only [DataW.weights, Tryz.underlying27, List.mem_cons, List.mem_append]
          right; left
          exact weights_all (List.mem_map.2 ⟨i, List.mem_range.2 hil, rfl⟩) k hk
        rcases open_ints Tryz.underlying29 Tryz.underlying5 (by kernel_rfl) t1 with ⟨e, _⟩ | ⟨x, l', c', zs, e, _, hl', hm', hz', hx, hcell, hwz⟩
        · simp at e
          rw [e] at g1
          exact ⟨⟨UInt8.ofNat z0.toNat, none, 0, []⟩, ⟨hg0, g1, RD.nil W⟩, by simp⟩
        · simp at e
          rw [e] at g1
          simp only [if_true] at hz'
          obtain ⟨xs, hr⟩ := row_rd (w := W) (p := some x) (l := l') (c := c') (zs := zs) (.inr ⟨x, rfl, hl', hm', hz', hcell, hwz⟩)
          have hxl := hr.len
          have hDi : D i = .agg [y0.1, y1.1] := by rw [hD.1]
          have hy1 := (Prod.mk.inj hx).1
          rw [hDi, hy1] at hw
          have := hw (((lits .u8 (zs.take l') : List (DataW H)).length + (lits .u8 (zs.drop l') : List (DataW H)).length) * Tryz.prog.bytesOf 5) (by simp [DataW.weights, Tryz.underlying31, Tryz.underlying29, DataW.weightsEach])
          rw [hby1] at this
          simp [lits] at this
          subst hxl
          exact ⟨⟨UInt8.ofNat z0.toNat, some x, c', xs⟩, ⟨hg0, g1, hr⟩, by show xs.length ≤ _; omega⟩)
    subst h1
    refine ⟨os, _, _, rfl, fun i o hio => ⟨a, rfl, (h2 i o hio).1⟩, hlen, fun f hf => ?_⟩
    obtain ⟨i, hi', hi''⟩ := List.mem_iff_getElem.1 hf
    exact (h2 i f (by rw [List.getElem?_eq_getElem hi', hi''])).2

/-- Each one's bytes and one more. -/
def tot12 (os : List Op12) : Nat := (os.map fun o => o.bs.length + 1).sum
theorem tot12_snoc {os : List Op12} {j : Nat} {o : Op12} (h : os[j]? = some o) : tot12 (os.take (j + 1)) = tot12 (os.take j) + (o.bs.length + 1) := by
  unfold tot12
  rw [List.take_add_one, h]
  simp
theorem tot12_take (os : List Op12) (j : Nat) : tot12 (os.take j) ≤ tot12 os := by
  unfold tot12
  conv => rhs; rw [← List.take_append_drop j os]
  rw [List.map_append, List.sum_append]
  omega

namespace Ik
theorem rnext_same (r : Rf) (b : List UInt8) : (rnext r b).kind = r.kind ∧ (rnext r b).size = r.size ∧ (rnext r b).l = r.l ∧ (rnext r b).A.length ≤ r.A.length + b.length := by
  unfold rnext
  split
  · exact ⟨rfl, rfl, rfl, by omega⟩
  · refine ⟨rfl, rfl, rfl, ?_⟩
    show (r.A ++ b.take _).length ≤ _
    rw [List.length_append, List.length_take]
    omega
theorem rshut_same (r : Rf) : (rshut r).kind = r.kind ∧ (rshut r).size = r.size ∧ (rshut r).l = r.l ∧ (rshut r).A = r.A ∧ (rshut r).g = r.g := by
  unfold rshut
  split
  · exact ⟨rfl, rfl, rfl, rfl, rfl⟩
  · split <;> exact ⟨rfl, rfl, rfl, rfl, rfl⟩
end Ik
theorem like_ok {r : Rf} {k : Kd} (h : Like r k) (hk : r.kind ≤ 3) (hs : r.size ≤ 4611686018427387903) (hl : r.l.ext ≤ 65536 ∧ r.l.fields ≤ 65536 ∧ r.l.bytes ≤ 65536) (hc : givenK k ≤ takenK k) (hA : r.A.length ≤ 1000) : ROk r := by
  refine ⟨hk, hs, hl, by omega, fun h1 => ?_, ?_⟩
  · cases k with
    | fix n c => have := h.2.2.1; omega
    | unt b c => have := h.1; omega
    | dec l y => have := h.1; omega
  · have h1 := like_taken h
    have h2 := like_given h
    omega
/-- The document's Put, whatever the framing. -/
theorem rput_like {r : Rf} {k : Kd} {p : Option Addr} {c : Nat} {w : World} {b : List UInt8} (hL : Like r k) (hA : RD w (.slice p r.A.length c) r.A) (hr : ROk r) {q : Option Addr} {m : Nat} (hb : RD w (.slice q b.length m) b) (hbl : b.length ≤ 1000) :
    Calls Tryz.prog 12 #[.agg (rcs r p r.A.length c), .slice q b.length m] w fun x w' => PutR r p c b w x w' := by
  cases hs : rstop r with
  | true => exact rput_stop hA hr hs
  | false =>
    by_cases h2 : r.kind = 2
    · have he : r.e = 0 := by
        by_cases h : r.e = 0
        · exact h
        · rw [rstop_e h] at hs; cases hs
      rw [like_stop hL he] at hs
      cases k with
      | fix n c => have := hL.1; omega
      | unt b c => have := hL.1; omega
      | dec l y =>
        obtain ⟨a1, a2, a3, a4, a5, a6⟩ := hL
        have hy : y.2.2 ≠ 0 := of_decide_eq_false hs
        have h4 : y.2.2 = 4 := by omega
        have hsc := a6 (.inl h4)
        exact rput_chunk hA hr he h2 (by rw [hsc]; exact h4) (by rw [hsc]; exact a4) hb hbl
    · exact rput_plain hA hr hs h2 hb hbl

end Go.Proofs.YtjkccacpffikbaaGreatDoor

/- The law IntakeActs. -/
namespace Go.Proofs.YtjkccacpffikbaaGreatDoor
open Go.ChangeShapes Go.WideShapes Go.ChangeAt Go.RowKit Go.Deep
open Oc Fl Bk Bd Dk Ik
set_option linter.unusedVariables false
set_option maxRecDepth 100000

/-- The intake, and the document's in block X, side by side. -/
structure AA (R X : Nat) (wb : World) (k : Kd) (r : Rf) (M : Nat → Prop) (p : Option Addr) (c : Nat) (W : World) : Prop where
  below : Below wb.heap.size wb W
  int : InAt R k r.e M W
  low : ∀ g, M g → wb.heap.size ≤ g
  blk : W.heap[X]? = some (.cells (rcs r p r.A.length c) 39 (0, 0))
  mx : ¬ M X
  xlow : wb.heap.size ≤ X
  rd : RD W (.slice p r.A.length c) r.A
  own : r.A ≠ [] → ∀ g, (Value.slice p r.A.length c).ownBlock = some g → ¬ M g
  like : Like r k
  kind : r.kind ≤ 3
  size : r.size ≤ 4611686018427387903
  lim : r.l.ext ≤ 65536 ∧ r.l.fields ≤ 65536 ∧ r.l.bytes ≤ 65536
  short : r.A.length ≤ 1000
section
variable {R X : Nat} {wb : World} {k k1 : Kd} {r r1 : Rf} {M M1 : Nat → Prop} {p pb : Option Addr} {c cb : Nat} {W W1 : World}
theorem AA.xlt (h : AA R X wb k r M p c W) : X < W.heap.size := (Array.getElem?_eq_some_iff.1 h.blk).1
theorem AA.ok (h : AA R X wb k r M p c W) : ROk r := like_ok h.like h.kind h.size h.lim h.int.counts h.short
theorem AA.to (h : AA R X wb k r M p c W) (hb : Below W.heap.size W W1) : AA R X wb k r M p c W1 :=
  ⟨ahead h.below hb, h.int.below hb, h.low, (hb.block X h.xlt).trans h.blk, h.mx, h.xlow, h.rd.below hb, h.own, h.like, h.kind, h.size, h.lim, h.short⟩
/-- The intake has moved: what is left of the rest. -/
structure Half (R X : Nat) (wb : World) (k1 : Kd) (e1 : Nat) (r : Rf) (M1 : Nat → Prop) (p : Option Addr) (c : Nat) (W : World) : Prop where
  below : Below wb.heap.size wb W
  int : InAt R k1 e1 M1 W
  low : ∀ g, M1 g → wb.heap.size ≤ g
  blk : W.heap[X]? = some (.cells (rcs r p r.A.length c) 39 (0, 0))
  mx : ¬ M1 X
  rd : RD W (.slice p r.A.length c) r.A
  own : r.A ≠ [] → ∀ g, (Value.slice p r.A.length c).ownBlock = some g → g < W.heap.size ∧ ¬ M1 g
theorem Half.to {e1 : Nat} (h : Half R X wb k1 e1 r M1 p c W) (hb : Below W.heap.size W W1) : Half R X wb k1 e1 r M1 p c W1 :=
  ⟨ahead h.below hb, h.int.below hb, h.low, (hb.block X (Array.getElem?_eq_some_iff.1 h.blk).1).trans h.blk, h.mx, h.rd.below hb, fun hA g hg => ⟨Nat.lt_of_lt_of_le (h.own hA g hg).1 hb.size, (h.own hA g hg).2⟩⟩
theorem AA.half {e1 : Nat} (h : AA R X wb k r M p c W) (hi : InAt R k1 e1 M1 W1) (m : Moves M M1 W W1) : Half R X wb k1 e1 r M1 p c W1 := by
  have hz := h.below.size
  have hx := h.xlt
  refine ⟨h.below.trans (m.below hz h.low), hi, fun g hg => ?_, (m.block X hx h.mx).trans h.blk, fun hg => ?_, ?_, fun hA g hg => ?_⟩
  · rcases m.own g hg with h' | h'
    · exact h.low g h'
    · omega
  · rcases m.own X hg with h' | h'
    · exact h.mx h'
    · omega
  · by_cases hA : r.A = []
    · have := h.rd
      rw [hA] at this ⊢
      obtain ⟨p', c', e, q1, q2, q3, q4⟩ := this
      exact ⟨p', c', e, q1, q2, q3, fun ad hp i b hb => by simp at hb⟩
    · exact h.rd.same fun g hg hlt => m.block g hlt (h.own hA g hg)
  · obtain ⟨k', e', hlt⟩ := h.rd.lt hA
    rw [hg] at e'
    cases e'
    refine ⟨Nat.lt_of_lt_of_le hlt m.size, fun hm => ?_⟩
    rcases m.own g hm with h' | h'
    · exact h.own hA g hg h'
    · omega
/-- The document's is stored. -/
theorem Half.done {e1 : Nat} (h : Half R X wb k1 e1 r M1 p c W) (hx : wb.heap.size ≤ X) (hX : W1.heap[X]? = some (.cells (rcs r1 pb r1.A.length cb) 39 (0, 0))) (hk : ∀ g, g ≠ X → W1.heap[g]? = W.heap[g]?) (hb : Below wb.heap.size wb W1) (hs : Spans W1)
    (hrd : RD W (.slice pb r1.A.length cb) r1.A) (hown : r1.A ≠ [] → ∀ g, (Value.slice pb r1.A.length cb).ownBlock = some g → ¬ M1 g) (he : e1 = r1.e) (hL : Like r1 k1) (h1 : r1.kind ≤ 3) (h2 : r1.size ≤ 4611686018427387903)
    (h3 : r1.l.ext ≤ 65536 ∧ r1.l.fields ≤ 65536 ∧ r1.l.bytes ≤ 65536) (h4 : r1.A.length ≤ 1000) : AA R X wb k1 r1 M1 pb cb W1 := by
  subst he
  exact ⟨hb, h.int.moved (fun g hg => hk g (fun e => h.mx (e ▸ hg))) hs, h.low, hX, h.mx, hx, rd_apart hrd h.blk (rcs_u8 _ _ _ _ _ _ _ _ _ _ _) hk, hown, hL, h1, h2, h3, h4⟩
end
/-- Another block is written. -/
theorem Half.other {R X Tb : Nat} {wb : World} {k1 : Kd} {r : Rf} {M1 : Nat → Prop} {p : Option Addr} {c e1 : Nat} {W W1 : World} (h : Half R X wb k1 e1 r M1 p c W) (hk : ∀ g, g ≠ Tb → W1.heap[g]? = W.heap[g]?) (hM : ¬ M1 Tb) (hX : X ≠ Tb) (ht : W.heap[Tb]? = some (.cells tz12 41 (0, 0))) (hsz : W.heap.size ≤ W1.heap.size) (hb : Below wb.heap.size wb W1) (hs : Spans W1) : Half R X wb k1 e1 r M1 p c W1 :=
  ⟨hb, h.int.moved (fun g hg => hk g (fun e => hM (e ▸ hg))) hs, h.low, (hk X hX).trans h.blk, h.mx, rd_apart h.rd ht tz_u8 hk, fun hA g hg => ⟨Nat.lt_of_lt_of_le (h.own hA g hg).1 hsz, (h.own hA g hg).2⟩⟩
theorem like_piece {r : Rf} {k : Kd} (T : List UInt8) (h : Like r k) : Like (rnext r T) (nextP k r.e T) ∧ rnum r T = numP k r.e T ∧ rdata r T = dataP k r.e T ∧ rerr r T = errP k r.e T ∧ (rnext r T).e = errP k r.e T := by
  by_cases he : r.e = 0
  · have := like_put T h he
    unfold nextP numP dataP errP
    rw [if_pos he, if_pos he, if_pos he, if_pos he]
    exact this
  · obtain ⟨q1, q2, q3, q4⟩ := like_put_no T he
    unfold nextP numP dataP errP
    rw [if_neg he, if_neg he, if_neg he, if_neg he, q1, q2, q3, q4]
    exact ⟨h, rfl, rfl, rfl, rfl⟩
theorem tot12_ge (os : List Op12) : os.length ≤ tot12 os := by
  unfold tot12
  induction os with
  | nil => simp
  | cons o os ih => simp only [List.length_cons, List.map_cons, List.sum_cons]; omega
theorem kind_cases (x : UInt8) : ∃ m : Nat, (x.toNat : Int).tmod 4 = (m : Int) ∧ m ≤ 3 := ⟨x.toNat % 4, by rw [Int.tmod_eq_emod_of_nonneg (by omega)]; push_cast; rfl, by omega⟩
theorem two_cells13 {A : World} {R : Nat} {x y : Value} {t : TypeId} (h : A.heap[R]? = some (.cells #[x, y] t (0, 0))) : A.cell? ⟨R, 0, none⟩ = some x ∧ A.cell? ⟨R, 1, none⟩ = some y ∧ A.frozen? ⟨R, 0, none⟩ = false ∧ A.frozen? ⟨R, 1, none⟩ = false := by simp [World.cell?, World.frozen?, h]

set_option maxHeartbeats 16000000 in
theorem acts12_walk (k s a b c : Int) {q : Option Addr} {ck : Nat} (os : List Op12) (w : World) (hs : 0 ≤ s) (hO : Ops12 w q os) (hob : ∀ o ∈ os, o.bs.length ≤ 140737488355328) (hsp : Spans w) :
    Calls Tryz.prog 3 #[fr12 k s, lim3 a b c, .slice q os.length ck] w fun e w' => e = .returned (.bool true) ∧ Below w.heap.size w w' := by
  obtain ⟨w0, hw0, b0, z0, l0, l1⟩ := boxes12 w k s a b c
  have KB : Box12 w w0 k s a b c := ⟨fun W h => two_cells12 ((h.block w.heap.size (by omega)).trans l0), fun W h => (three_cells8 ((h.block (w.heap.size + 1) (by omega)).trans l1)).1⟩
  have HFIN : Hid (∀ W, Below w0.heap.size w0 W → Below w.heap.size w W) := Lib.hid fun W h => ahead b0 h
  have KX := Lib.hid KB
  have HW := Lib.hid (wakes12 w0 (hsp.below b0))
  have W0 := Lib.hid hw0
  have HO := Lib.hid (hO.below b0)
  have HV : Hid (∀ o ∈ os, o.bs ≠ [] → ∀ g, (Value.slice o.p o.bs.length o.c).ownBlock = some g → g < w0.heap.size) := Lib.hid fun o ho hne g hg => by
    obtain ⟨i, hi, e⟩ := List.mem_iff_getElem.1 ho
    obtain ⟨_, _, _, _, hrd⟩ := hO i o (by rw [List.getElem?_eq_getElem hi, e])
    obtain ⟨k', e', hlt⟩ := hrd.lt hne
    rw [hg] at e'
    cases e'
    exact Nat.lt_of_lt_of_le hlt b0.size
  have HOB := Lib.hid hob
  have HSP := Lib.hid (hsp.below b0)
  have HRF : Hid (∀ W, _) := Lib.hid fun W => rright12_any k s W
  have HPF : Hid (∀ W, _) := Lib.hid fun W => right12_any k s W
  have HRL : Hid (∀ W, _) := Lib.hid fun W => rright8_any a b c W
  have HS := Lib.hid hs
  unfold fr12 at HRF HPF
  unfold lim3 at HRL
  clear hw0 b0 l0 l1 hO hob hsp KB hs
  unfold fr12 lim3
  go_enter Tryz.func3, Tryz.ntmps3
  go_wp2_with fail
  rw [W0.out]
  refine HW.out.mono ?_
  rintro e w1 ⟨rfl, hb1⟩
  have B1 := Lib.hid hb1
  clear hb1 HW W0
  go_wp2_with fail
  go_loopw [7, 23] (fun nv iv wr => ∃ (j : Nat), j ≤ os.length ∧ iv = .int .i64 (j : Int) ∧ nv = .int .i64 (tot12 (os.take j) : Int) ∧ tot12 (os.take j) ≤ 500 ∧ Hid (Below w0.heap.size w0 wr)) (fun _ iv _ => os.length - (intOf iv).toNat)
  case atStart => exact ⟨0, Nat.zero_le _, rfl, rfl, by simp [tot12], B1⟩
  case round =>
    clear B1
    obtain ⟨j, hj, rfl, rfl, h6, B1⟩ := hrel
    by_cases hlt : j < os.length
    · obtain ⟨o, ho⟩ : ∃ o, os[j]? = some o := ⟨_, List.getElem?_eq_getElem hlt⟩
      obtain ⟨ad, rfl, e1, e2, -⟩ := HO.out.below B1.out j o ho
      have hob := HOB.out o (List.mem_of_getElem? ho)
      have hsn := tot12_snoc ho
      obtain ⟨n0, hn0⟩ : ∃ n0, tot12 (os.take j) = n0 := ⟨_, rfl⟩
      obtain ⟨x1, hx1⟩ : ∃ x1, o.bs.length + 1 = x1 := ⟨_, rfl⟩
      obtain ⟨n1, hn1⟩ : ∃ n1, tot12 (os.take (j + 1)) = n1 := ⟨_, rfl⟩
      have hw1 : IntKind.i64.wrap ((o.bs.length : Int) + 1) = (x1 : Int) := by rw [IntWalk.i64_in _ (by omega)]; omega
      have hw2 : IntKind.i64.wrap ((n0 : Int) + (x1 : Int)) = (n1 : Int) := by rw [IntWalk.i64_in _ (by omega)]; omega
      have k1 : (0 : Int) ≤ (j : Int) := by omega
      have k2 : (j : Int) < (os.length : Int) := by omega
      rw [hn0]
      have HN1 := Lib.hid hn1
      have hnn : n0 ≤ n1 := by omega
      have hjl : j ≤ n0 := by
        have := tot12_ge (os.take j)
        rw [List.length_take, hn0] at this
        omega
      have BB := Lib.hid (ahead B1.out (below_box wr (.cells #[.int .u8 (o.kind.toNat : Int), .slice o.p o.bs.length o.c] 31)))
      clear hob hsn hx1 hn0 hn1 ho hj
      by_cases h6' : 500 < n1
      · have h6i : (500 : Int) < (n1 : Int) := by omega
        go_wp2_with fail
        go_ret
        exact ⟨rfl, HFIN.out _ BB.out⟩
      · have h6i : ¬ (500 : Int) < (n1 : Int) := by omega
        go_wp2_with fail
        go_roundw
        case rel => exact ⟨j + 1, by omega, by go_num, by rw [HN1.out], by rw [HN1.out]; omega, BB⟩
        case measure => simp [intOf]; omega
    · obtain rfl : j = os.length := by omega
      have H6 := Lib.hid (show tot12 os ≤ 500 by rw [List.take_length] at h6; exact h6)
      obtain ⟨x0, x1⟩ := KX.out.fr wr B1.out
      obtain ⟨y0, y1, y2⟩ := KX.out.lm wr B1.out
      obtain ⟨n6, hn6⟩ : ∃ n6, tot12 (os.take os.length) = n6 := ⟨_, rfl⟩
      rw [hn6]
      clear h6 hn6 hj
      by_cases hall : rightF k s = true ∧ okLs a b c = true
      case neg =>
        have hor : rightF k s = false ∨ okLs a b c = false := by
          cases h1 : rightF k s
          · exact .inl rfl
          · cases h2 : okLs a b c
            · exact .inr rfl
            · exact absurd ⟨h1, h2⟩ hall
        have HNB := Lib.hid (new12_bad k s a b c wr hor)
        unfold fr12 lim3 at HNB
        clear hall
        go_wp2_with fail
        refine HNB.out.mono ?_
        rintro e w2 ⟨rfl, hb2⟩
        have b2 := ahead B1.out hb2
        clear x0 x1 y0 y1 y2
        obtain ⟨x0, x1⟩ := KX.out.fr w2 b2
        have B2 := Lib.hid b2
        have KF : Hid (∀ W, Below w2.heap.size w2 W → W.cell? ⟨w.heap.size, 0, none⟩ = some (.int .i64 k) ∧ W.cell? ⟨w.heap.size, 1, none⟩ = some (.int .u64 s)) := Lib.hid fun W h => KX.out.fr W (ahead b2 h)
        have BA : Hid (Below w2.heap.size w2 w2.drew) := Lib.hid (drew_below8 w2)
        clear hb2 b2 HNB
        generalize hrf : rightF k s = rf at *
        go_wp2_with fail
        go_region_held3 (fun W => W.cell? ⟨w.heap.size, 0, none⟩ = some (.int .i64 k) ∧ W.cell? ⟨w.heap.size, 1, none⟩ = some (.int .u64 s))
          ((refine KF.out _ ?_; with_reducible exact BA.out))
          (first
          | (go_at_call 6; refine (HPF.out _).mono ?_; rintro e w' ⟨rfl, hb'⟩; replace BA := Lib.hid (ahead BA.out hb'); clear hb')
          | (go_at_call 7; refine (HRF.out _).mono ?_; rintro e w' ⟨rfl, hb'⟩; replace BA := Lib.hid (ahead BA.out hb'); clear hb'))
        all_goals
          rename_i hHeld
          clear hHeld
          have b4 := ahead B2.out BA.out
          obtain ⟨u0, u1⟩ := KX.out.fr _ b4
          obtain ⟨y0, y1, y2⟩ := KX.out.lm _ b4
          have B4 := Lib.hid b4
          clear b4 BA KF x0 x1
          cases rf with
          | false =>
            clear hor
            go_wp2_with fail
            refine (HRF.out _).mono ?_
            rintro e w5 ⟨rfl, hb5⟩
            have B5 := Lib.hid (ahead B4.out hb5)
            clear hb5
            go_wp2_with fail
            go_ret
            exact ⟨rfl, HFIN.out _ B5.out⟩
          | true =>
            have hl : okLs a b c = false := hor.resolve_left (by decide)
            rw [hl] at HRL
            clear hl hor
            go_wp2_with fail
            refine (HRF.out _).mono ?_
            rintro e w5 ⟨rfl, hb5⟩
            have b5 := ahead B4.out hb5
            clear y0 y1 y2 u0 u1
            obtain ⟨y0, y1, y2⟩ := KX.out.lm _ b5
            have B5 := Lib.hid b5
            clear hb5 b5
            go_wp2_with fail
            refine (HRL.out _).mono ?_
            rintro e w6 ⟨rfl, hb6⟩
            have B6 := Lib.hid (ahead B5.out hb6)
            clear hb6
            go_wp2_with fail
            go_ret
            exact ⟨rfl, HFIN.out _ B6.out⟩
      case pos =>
        obtain ⟨hrf, hok⟩ := hall
        have HRL0 := HRL
        rw [hok] at HRL
        rw [hrf] at HRF HPF
        obtain ⟨kind, size, hk1, hk2, hkd, hsz, hmax⟩ := rightF_nat hrf HS.out
        obtain ⟨l, ha, hb, hc, hlm⟩ := okLs_nat hok
        subst hk1
        subst hk2
        subst ha
        subst hb
        subst hc
        have HNW := Lib.hid (newI kind size l wr hkd hsz hmax hlm (HSP.out.below B1.out))
        unfold fr12 lim3 at HNW
        have HLK := Lib.hid (And.intro hkd (And.intro hmax (And.intro hlm (like_new kind size l hkd hsz hmax))))
        clear hrf hok hkd hsz hmax hlm HRL0
        go_wp2_with fail
        refine HNW.out.mono ?_
        rintro e w2 ⟨R, M, rfl, hi2, hm2, hb2⟩
        have hz1 := B1.out.size
        have b2 := ahead B1.out hb2
        have HI2 := Lib.hid hi2
        have HM2 := Lib.hid (fun g hg => Nat.le_trans hz1 (hm2 g hg))
        clear x0 x1 y0 y1 y2
        obtain ⟨x0, x1⟩ := KX.out.fr w2 b2
        have B2 := Lib.hid b2
        have KF : Hid (∀ W, Below w2.heap.size w2 W → W.cell? ⟨w.heap.size, 0, none⟩ = some (.int .i64 (kind : Int)) ∧ W.cell? ⟨w.heap.size, 1, none⟩ = some (.int .u64 (size : Int))) := Lib.hid fun W h => KX.out.fr W (ahead b2 h)
        have BA : Hid (Below w2.heap.size w2 w2.drew) := Lib.hid (drew_below8 w2)
        clear hi2 hm2 hb2 b2 HNW hz1
        go_wp2_with fail
        go_region_held3 (fun W => W.cell? ⟨w.heap.size, 0, none⟩ = some (.int .i64 (kind : Int)) ∧ W.cell? ⟨w.heap.size, 1, none⟩ = some (.int .u64 (size : Int)))
          ((refine KF.out _ ?_; with_reducible exact BA.out))
          (first
          | (go_at_call 6; refine (HPF.out _).mono ?_; rintro e w' ⟨rfl, hb'⟩; replace BA := Lib.hid (ahead BA.out hb'); clear hb')
          | (go_at_call 7; refine (HRF.out _).mono ?_; rintro e w' ⟨rfl, hb'⟩; replace BA := Lib.hid (ahead BA.out hb'); clear hb'))
        all_goals
          rename_i hHeld
          clear hHeld
          have b4 := ahead B2.out BA.out
          have HI4 := Lib.hid (HI2.out.below BA.out)
          have HL4 := Lib.hid (Nat.le_trans B2.out.size BA.out.size)
          obtain ⟨u0, u1⟩ := KX.out.fr _ b4
          obtain ⟨y0, y1, y2⟩ := KX.out.lm _ b4
          have B4 := Lib.hid b4
          clear b4 BA KF x0 x1
          go_wp2_with fail
          refine (HRF.out _).mono ?_
          rintro e w5 ⟨rfl, hb5⟩
          have b5 := ahead B4.out hb5
          have HI5 := Lib.hid (HI4.out.below hb5)
          clear y0 y1 y2 u0 u1
          obtain ⟨y0, y1, y2⟩ := KX.out.lm _ b5
          have B5 := Lib.hid b5
          clear hb5 b5
          go_wp2_with fail
          refine (HRL.out _).mono ?_
          rintro e w6 ⟨rfl, hb6⟩
          have b6 := ahead B5.out hb6
          obtain ⟨x0, x1⟩ := KX.out.fr _ b6
          have HI6 := Lib.hid (HI5.out.below hb6)
          clear y0 y1 y2
          obtain ⟨y0, y1, y2⟩ := KX.out.lm _ b6
          obtain ⟨w7, hw7⟩ : ∃ w7, w6.alloc (.cells (rcs ⟨kind, size, l, [], false, 0, 0⟩ none 0 0) 39) = w7 := ⟨_, rfl⟩
          have HA0 : Hid (AA R w6.heap.size w0 (newK kind size l) ⟨kind, size, l, [], false, 0, 0⟩ M none 0 w7) := Lib.hid (by
            have b7 : Below w6.heap.size w6 w7 := by rw [← hw7]; exact below_box _ _
            exact ⟨ahead b6 b7, HI6.out.below b7, HM2.out, by rw [← hw7]; exact World.alloc_heap_new w6 _, fun hm => by have := HI6.out.lt hm; omega, b6.size, RD.nil _, fun h => absurd rfl h, HLK.out.2.2.2, HLK.out.1, HLK.out.2.1, HLK.out.2.2.1, Nat.zero_le _⟩)
          have W7 := Lib.hid (show w6.alloc (.cells #[.int .i64 (kind : Int), .int .u64 (size : Int), .int .i64 (l.ext : Int), .int .i64 (l.fields : Int), .int .i64 (l.bytes : Int), .slice none 0 0, .bool false, .int .i64 0, .int .i64 0] 39) = w7 from hw7)
          obtain ⟨X, hX⟩ : ∃ X, w6.heap.size = X := ⟨_, rfl⟩
          rw [hX] at HA0
          have HX := Lib.hid hX
          clear hb6 b6 hw7 hX HI2 HI4 HI5 HI6 B4 HL4 HPF HRF HRL
          go_upto_region 19 with fail
          rw [W7.out, HX.out]
          clear W7 HX x0 x1 y0 y1 y2
          go_wp2_with fail
          go_loopw [72] (fun iv W => ∃ (j : Nat) (k0 : Kd) (r : Rf) (M : Nat → Prop) (pa : Option Addr) (ca : Nat), j ≤ os.length ∧ iv = .int .i64 (j : Int) ∧ AA R X w0 k0 r M pa ca W ∧ Hid (r.A.length ≤ tot12 (os.take j))) (fun iv _ => os.length - (intOf iv).toNat)
          case atStart => exact ⟨0, _, _, M, none, 0, Nat.zero_le _, rfl, HA0.out, Lib.hid (Nat.zero_le _)⟩
          case round =>
            clear HA0
            obtain ⟨j, k0, r, M, pa, ca, hj, rfl, hA, HSH0⟩ := hrel
            generalize wr = W at *
            by_cases hlt : j < os.length
            case neg =>
              have HB := Lib.hid (HFIN.out _ hA.below)
              clear hA
              go_wp2_with fail
              go_ret
              exact ⟨rfl, HB.out⟩
            case pos =>
              obtain ⟨o, ho⟩ : ∃ o, os[j]? = some o := ⟨_, List.getElem?_eq_getElem hlt⟩
              obtain ⟨ad, had, e1, e2, hbs⟩ := HO.out.below hA.below j o ho
              subst had
              have hmem := List.mem_of_getElem? ho
              have HMEM0 := Lib.hid hmem
              have hsn := tot12_snoc ho
              have htk := tot12_take os (j + 1)
              have h6 := H6.out
              have hge := tot12_ge (os.take j)
              rw [List.length_take] at hge
              have hj5 : j ≤ 500 := by omega
              have hbl : o.bs.length ≤ 500 := by omega
              have hAl : r.A.length + o.bs.length ≤ 1000 := by have := HSH0.out; omega
              have hfar : o.bs ≠ [] → ∀ g, (Value.slice o.p o.bs.length o.c).ownBlock = some g → g < w0.heap.size := HV.out o hmem
              obtain ⟨W2, hW2⟩ : ∃ W2, (W.alloc (.cells #[.int .u8 (o.kind.toNat : Int), .slice o.p o.bs.length o.c] 31)).alloc (.cells tz12 41) = W2 := ⟨_, rfl⟩
              have b2 : Below W.heap.size W W2 := by rw [← hW2]; exact ahead (below_box _ _) (below_box _ _)
              have zz2 : W2.heap.size = W.heap.size + 2 := by rw [← hW2]; simp
              have oc2 : W2.heap[W.heap.size]? = some (.cells #[.int .u8 (o.kind.toNat : Int), .slice o.p o.bs.length o.c] 31 (0, 0)) := by rw [← hW2, Below.heap_alloc _ _ _ (by simp)]; exact World.alloc_heap_new W _
              have tc2 : W2.heap[W.heap.size + 1]? = some (.cells tz12 41 (0, 0)) := by rw [← hW2]; exact heap_alloc2_new W _ _
              have W2' := Lib.hid hW2
              unfold tz12 at W2'
              have HA := Lib.hid hA
              have HBS := Lib.hid (hbs.below b2)
              have hXW := hA.xlt
              have hxl := hA.xlow
              have hbw := hA.below.size
              obtain ⟨Ob, hOb⟩ : ∃ Ob, W.heap.size = Ob := ⟨_, rfl⟩
              obtain ⟨Tb, hTb⟩ : ∃ Tb, Ob + 1 = Tb := ⟨_, rfl⟩
              have HTB := Lib.hid (And.intro hTb hOb)
              have nM : ¬ M Tb := fun hm => by have := hA.int.lt hm; omega
              have nMo : ¬ M Ob := fun hm => by have := hA.int.lt hm; omega
              rw [hOb, hTb] at tc2
              rw [hOb] at oc2
              have neX : X ≠ Tb := by omega
              have neX' : Tb ≠ X := by omega
              have neO : Ob ≠ Tb := by omega
              have OC := Lib.hid oc2
              have TC := Lib.hid tc2
              obtain ⟨oc0, oc1, -, -⟩ := two_cells13 oc2
              have HNX := Lib.hid (show r.A.length + o.bs.length ≤ tot12 (os.take (j + 1)) by have := HSH0.out; omega)
              obtain ⟨m4, hm4, hm43⟩ := kind_cases o.kind
              have hwm : IntKind.u8.wrap (m4 : Int) = (m4 : Int) := by have : m4 = 0 ∨ m4 = 1 ∨ m4 = 2 ∨ m4 = 3 := by omega
                                                                       rcases this with rfl | rfl | rfl | rfl <;> rfl
              have B22 := Lib.hid b2
              have hHS := Lib.hid (show W.heap.size ≤ Tb ∧ Tb < W2.heap.size ∧ Ob < W2.heap.size by omega)
              have k1' : (0 : Int) ≤ (j : Int) := by omega
              have k2' : (j : Int) < (os.length : Int) := by omega
              clear hA hbs ho hmem hsn htk h6 hge hW2 b2 oc2 tc2 HSH0
              go_upto_region 23 with fail
              rw [W2'.out]
              try rw [hOb]
              try rw [hTb]
              clear W2' e1 e2 hTb hOb
              by_cases h3 : m4 = 3
              case pos =>
                subst h3
                obtain ⟨r1, hr1⟩ : ∃ r1, rshut r = r1 := ⟨_, rfl⟩
                obtain ⟨s1, s2, s3, s4, s5⟩ := rshut_same r
                obtain ⟨hlk, hle⟩ := like_shut HA.out.like
                rw [hr1] at s1 s2 s3 s4 s5 hlk hle
                have hA2 := HA.out.to B22.out
                have hcl := rclose12_any hA2.rd hA2.ok
                rw [hr1] at hcl
                obtain ⟨na, hna⟩ : ∃ na, r.A.length = na := ⟨_, rfl⟩
                have hxb := hA2.blk
                have hxl2 := hA2.xlt
                rw [hna] at hcl hxb
                have HCL : Hid (Calls Tryz.prog 9 #[.agg (rcs r pa na ca)] W2 fun x w' => x = .returned (.agg #[.int .i64 (r1.kind : Int), .int .u64 (r1.size : Int), .int .i64 (r1.l.ext : Int), .int .i64 (r1.l.fields : Int), .int .i64 (r1.l.bytes : Int), .slice pa na ca, .bool r1.closed, .int .i64 (r1.e : Int), .int .i64 (r1.g : Int), .slice none 0 0, .int .i64 0, .int .i64 (r1.e : Int)]) ∧ Below W2.heap.size W2 w') := Lib.hid hcl
                unfold rcs at HCL hxb
                obtain ⟨⟨z0, z1, z2, z3, z4, z5, z6, z7, z8⟩, -⟩ := nine_cells hxb
                have HSM := Lib.hid (And.intro s1 (And.intro s2 (And.intro s3 (And.intro s4 s5))))
                have HLK1 := Lib.hid (And.intro hlk hle)
                have HNA := Lib.hid hna
                clear hcl hxb hlk hle s1 s2 s3 s4 s5 hA2 hr1 hna
                go_upto_region 25 with (go_at_call 9; refine HCL.out.mono ?_; rintro e W3 ⟨rfl, hb3⟩; have B3 := Lib.hid hb3; have TC3 := Lib.hid ((hb3.block Tb hHS.out.2.1).trans TC.out); obtain ⟨⟨t0, t1, t2, t3, t4, t5, t6, t7, t8, t9, ta, tb⟩, ft⟩ := twelve_cells TC3.out; clear hb3)
                obtain ⟨W4, hW4⟩ : ∃ W4, over12 W3 Tb (.int .i64 (r1.kind : Int)) (.int .u64 (r1.size : Int)) (.int .i64 (r1.l.ext : Int)) (.int .i64 (r1.l.fields : Int)) (.int .i64 (r1.l.bytes : Int)) (.slice pa na ca) (.bool r1.closed) (.int .i64 (r1.e : Int)) (.int .i64 (r1.g : Int)) (.slice none 0 0) (.int .i64 0) (.int .i64 (r1.e : Int)) = W4 := ⟨_, rfl⟩
                have tc4 : W4.heap[Tb]? = some (.cells #[.int .i64 (r1.kind : Int), .int .u64 (r1.size : Int), .int .i64 (r1.l.ext : Int), .int .i64 (r1.l.fields : Int), .int .i64 (r1.l.bytes : Int), .slice pa na ca, .bool r1.closed, .int .i64 (r1.e : Int), .int .i64 (r1.g : Int), .slice none 0 0, .int .i64 0, .int .i64 (r1.e : Int)] 41 (0, 0)) := by rw [← hW4]; exact over12_row TC3.out _ _ _ _ _ _ _ _ _ _ _ _
                have b4 : Below W.heap.size W W4 := by rw [← hW4]; exact over12_below (B22.out.trans (B3.out.mono B22.out.size)) hHS.out.1 _ _ _ _ _ _ _ _ _ _ _ _
                unfold over12 over10 over8 at hW4
                rw [hW4]
                have hA4 := HA.out.to b4
                have hTl4 : Tb < W4.heap.size := (Array.getElem?_eq_some_iff.1 tc4).1
                clear z0 z1 z2 z3 z4 z5 z6 z7 z8 t0 t1 t2 t3 t4 t5 t6 t7 t8 t9 ta tb ft hW4 oc0 oc1
                obtain ⟨⟨t0, t1, t2, t3, t4, t5, t6, t7, t8, t9, ta, tb⟩, ft⟩ := twelve_cells tc4
                have hA4d := hA4.to (drew_below8 W4)
                have HCS := Lib.hid (closeI hA4d.int)
                have HA4D := Lib.hid hA4d
                have TC4 := Lib.hid tc4
                have K4 := Lib.hid tb
                have K4d : Hid (W4.drew.cell? ⟨Tb, 11, none⟩ = some (.int .i64 (r1.e : Int))) := Lib.hid tb
                clear hA4 hA4d tc4
                go_region_held3 (fun V => V.cell? ⟨Tb, 11, none⟩ = some (.int .i64 (r1.e : Int)))
                  ((first | with_reducible exact K4d.out | with_reducible exact K4.out | with_reducible exact K5.out))
                  ((go_at_call 10; refine HCS.out.mono ?_; rintro e W5 ⟨rfl, hi5, m5⟩; rw [← HLK1.out.2];
                    have tc5 : W5.heap[Tb]? = some (.cells #[.int .i64 (r1.kind : Int), .int .u64 (r1.size : Int), .int .i64 (r1.l.ext : Int), .int .i64 (r1.l.fields : Int), .int .i64 (r1.l.bytes : Int), .slice pa na ca, .bool r1.closed, .int .i64 (r1.e : Int), .int .i64 (r1.g : Int), .slice none 0 0, .int .i64 0, .int .i64 (r1.e : Int)] 41 (0, 0)) := (m5.block Tb hTl4 nM).trans TC4.out;
                    have K5 : Hid (W5.cell? ⟨Tb, 11, none⟩ = some (.int .i64 (r1.e : Int))) := Lib.hid (twelve_cells tc5).1.2.2.2.2.2.2.2.2.2.2.2; have HI5 := Lib.hid hi5; have M5 := Lib.hid m5; have TC5 := Lib.hid tc5; clear hi5 m5 tc5))
                all_goals
                  rename_i hHeld
                  clear hHeld
                  have hH := HA4D.out.half HI5.out M5.out
                  obtain ⟨s1, s2, s3, s4, s5⟩ := HSM.out
                  have hxb := hH.blk
                  rw [HNA.out] at hxb
                  clear t0 t1 t2 t3 t4 t5 t6 t7 t8 t9 ta tb ft
                  obtain ⟨⟨t0, t1, t2, t3, t4, t5, t6, t7, t8, t9, ta, tb⟩, ft⟩ := twelve_cells TC5.out
                  obtain ⟨⟨z0, z1, z2, z3, z4, z5, z6, z7, z8⟩, fz⟩ := nine_cells hxb
                  obtain ⟨W9, hW9⟩ : ∃ W9, over9 W5 X (.int .i64 (r1.kind : Int)) (.int .u64 (r1.size : Int)) (.int .i64 (r1.l.ext : Int)) (.int .i64 (r1.l.fields : Int)) (.int .i64 (r1.l.bytes : Int)) (.slice pa na ca) (.bool r1.closed) (.int .i64 (r1.e : Int)) (.int .i64 (r1.g : Int)) = W9 := ⟨_, rfl⟩
                  have hx9 : W9.heap[X]? = some (.cells #[.int .i64 (r1.kind : Int), .int .u64 (r1.size : Int), .int .i64 (r1.l.ext : Int), .int .i64 (r1.l.fields : Int), .int .i64 (r1.l.bytes : Int), .slice pa na ca, .bool r1.closed, .int .i64 (r1.e : Int), .int .i64 (r1.g : Int)] 39 (0, 0)) := by rw [← hW9]; exact over9_row hxb _ _ _ _ _ _ _ _ _
                  have hk9 : ∀ g, g ≠ X → W9.heap[g]? = W5.heap[g]? := fun g hg => by rw [← hW9]; exact over9_other _ _ _ _ _ _ _ _ _ _ _ hg
                  have hb9 : Below w0.heap.size w0 W9 := by rw [← hW9]; exact over9_below hH.below HA.out.xlow _ _ _ _ _ _ _ _ _
                  have hlen : r1.A.length = na := by rw [s4]; exact HNA.out
                  have hrd5 := hH.rd
                  rw [← s4] at hrd5
                  have hA9 : AA R X w0 (shutK k0) r1 M pa ca W9 := hH.done HA.out.xlow (by rw [hlen]; exact hx9) hk9 hb9 (HSP.out.below hb9) hrd5 (fun hne g hg => (hH.own (by rw [← s4]; exact hne) g (by rw [← s4]; exact hg)).2) HLK1.out.2.symm HLK1.out.1 (by rw [s1]; exact HA.out.kind) (by rw [s2]; exact HA.out.size) (by rw [s3]; exact HA.out.lim) (by rw [s4]; exact HA.out.short)
                  have HA9 := Lib.hid hA9
                  have HSH := Lib.hid (show r1.A.length ≤ tot12 (os.take (j + 1)) by rw [s4]; have := HNX.out; omega)
                  unfold over9 over8 at hW9
                  have HW9 := Lib.hid hW9
                  clear hH s1 s2 s3 s4 s5 hxb hx9 hk9 hb9 hlen hrd5 hA9 hW9 HSM HLK1 HI5 M5 TC5 TC4 TC3 HA4D HCS K4 K4d K5 HCL B3 b4
                  go_upto_region 32 with fail
                  rw [HW9.out]
                  clear HW9 z0 z1 z2 z3 z4 z5 z6 z7 z8 fz t0 t1 t2 t3 t4 t5 t6 t7 t8 t9 ta tb ft
                  obtain ⟨k1, hkk1⟩ : ∃ k1, shutK k0 = k1 := ⟨_, rfl⟩
                  rw [hkk1] at HA9
                  clear hkk1
                  -- all that is asked of both
                  have HDN : Hid (∀ W, Below W9.heap.size W9 W → _) := Lib.hid fun W h => doneI (HA9.out.int.below h)
                  have HER : Hid (∀ W, Below W9.heap.size W9 W → _) := Lib.hid fun W h => errI (HA9.out.int.below h)
                  have HTK : Hid (∀ W, Below W9.heap.size W9 W → _) := Lib.hid fun W h => takenI (HA9.out.int.below h)
                  have HGV : Hid (∀ W, Below W9.heap.size W9 W → _) := Lib.hid fun W h => givenI (HA9.out.int.below h)
                  have HWT : Hid (∀ W, Below W9.heap.size W9 W → _) := Lib.hid fun W h => wantsI (HA9.out.int.below h)
                  have HFX : Hid (∀ W, Below W9.heap.size W9 W → _) := Lib.hid fun W h => fieldsI (HA9.out.int.below h)
                  have HRD : Hid (∀ W, Below W9.heap.size W9 W → _) := Lib.hid fun W h => rdone12_any (HA9.out.rd.below h) HA9.out.ok
                  have HRW : Hid (∀ W, Below W9.heap.size W9 W → _) := Lib.hid fun W h => rwants12_any (HA9.out.rd.below h) HA9.out.ok
                  have HRF : Hid (∀ W, Below W9.heap.size W9 W → _) := Lib.hid fun W h => rfields12_any (HA9.out.rd.below h) HA9.out.ok
                  have hfl := HA9.out.int.fields_le
                  rw [like_done HA9.out.like] at HRD
                  rw [like_wants HA9.out.like] at HRW
                  rw [like_fields HA9.out.like] at HRF
                  rw [like_taken HA9.out.like] at HTK
                  rw [like_given HA9.out.like] at HGV
                  obtain ⟨nc, hna⟩ : ∃ nc, r1.A.length = nc := ⟨_, rfl⟩
                  have hblk := HA9.out.blk
                  have hXlt := (Array.getElem?_eq_some_iff.1 hblk).1
                  unfold rcs at HRD HRW HRF hblk
                  rw [hna] at HTK HRD HRW HRF hblk
                  obtain ⟨dn, hdn⟩ : ∃ dn, doneK k1 = dn := ⟨_, rfl⟩
                  rw [hdn] at HDN HRD
                  obtain ⟨wt, hwt⟩ : ∃ wt, wantsK k1 r1.e = wt := ⟨_, rfl⟩
                  rw [hwt] at HWT HRW
                  obtain ⟨fx, hfx⟩ : ∃ fx, fieldsK k1 = fx := ⟨_, rfl⟩
                  rw [hfx] at HFX HRF hfl
                  have HFL := Lib.hid (show fx.length ≤ 1000000 by omega)
                  have KX : Hid (∀ W, Below W9.heap.size W9 W → W.cell? ⟨X, 0, none⟩ = some (.int .i64 (r1.kind : Int)) ∧ W.cell? ⟨X, 1, none⟩ = some (.int .u64 (r1.size : Int)) ∧ W.cell? ⟨X, 2, none⟩ = some (.int .i64 (r1.l.ext : Int)) ∧ W.cell? ⟨X, 3, none⟩ = some (.int .i64 (r1.l.fields : Int)) ∧ W.cell? ⟨X, 4, none⟩ = some (.int .i64 (r1.l.bytes : Int)) ∧ W.cell? ⟨X, 5, none⟩ = some (.slice pa nc ca) ∧ W.cell? ⟨X, 6, none⟩ = some (.bool r1.closed) ∧ W.cell? ⟨X, 7, none⟩ = some (.int .i64 (r1.e : Int)) ∧ W.cell? ⟨X, 8, none⟩ = some (.int .i64 (r1.g : Int))) := Lib.hid fun W h => (nine_cells ((h.block X hXlt).trans hblk)).1
                  obtain ⟨⟨z0, z1, z2, z3, z4, z5, z6, z7, z8⟩, -⟩ := nine_cells hblk
                  have BA : Hid (Below W9.heap.size W9 W9.drew) := Lib.hid (drew_below8 W9)
                  clear hna hblk hXlt hdn hwt hfx hfl
                  go_region_held3 (fun W => W.cell? ⟨X, 0, none⟩ = some (.int .i64 (r1.kind : Int)) ∧ W.cell? ⟨X, 1, none⟩ = some (.int .u64 (r1.size : Int)) ∧ W.cell? ⟨X, 2, none⟩ = some (.int .i64 (r1.l.ext : Int)) ∧ W.cell? ⟨X, 3, none⟩ = some (.int .i64 (r1.l.fields : Int)) ∧ W.cell? ⟨X, 4, none⟩ = some (.int .i64 (r1.l.bytes : Int)) ∧ W.cell? ⟨X, 5, none⟩ = some (.slice pa nc ca) ∧ W.cell? ⟨X, 6, none⟩ = some (.bool r1.closed) ∧ W.cell? ⟨X, 7, none⟩ = some (.int .i64 (r1.e : Int)) ∧ W.cell? ⟨X, 8, none⟩ = some (.int .i64 (r1.g : Int)))
                    ((refine KX.out _ ?_; with_reducible exact BA.out))
                    (first
                    | (go_at_call 14; refine (HDN.out _ BA.out).mono ?_; rintro e w' ⟨rfl, rfl⟩)
                    | (go_at_call 16; refine (HER.out _ BA.out).mono ?_; rintro e w' ⟨rfl, rfl⟩)
                    | (go_at_call 17; refine (HTK.out _ BA.out).mono ?_; rintro e w' ⟨rfl, rfl⟩)
                    | (go_at_call 18; refine (HGV.out _ BA.out).mono ?_; rintro e w' ⟨rfl, rfl⟩)
                    | (go_at_call 19; refine (HWT.out _ BA.out).mono ?_; rintro e w' ⟨rfl, rfl⟩)
                    | (go_at_call 15; refine (HRD.out _ BA.out).mono ?_; rintro e w' ⟨rfl, hb'⟩; replace BA := Lib.hid (ahead BA.out hb'); clear hb')
                    | (go_at_call 20; refine (HRW.out _ BA.out).mono ?_; rintro e w' ⟨rfl, hb'⟩; replace BA := Lib.hid (ahead BA.out hb'); clear hb')
                    | (go_at_call 22; refine (HFX.out _ BA.out).mono ?_; rintro e w' ⟨u1, rfl, hu1, hb'⟩; have HU1 := Lib.hid hu1; obtain ⟨qf, cf', rfl, -⟩ := RS.slice hu1; replace BA := Lib.hid (ahead BA.out hb'); clear hb' hu1)
                    | (go_at_call 23; refine (HRF.out _ BA.out).mono ?_; rintro e w' ⟨u2, rfl, hu2, hb'⟩; try (replace HU1 := Lib.hid (HU1.out.below hb')); have HU2 := Lib.hid hu2; obtain ⟨qg, cg', rfl, -⟩ := RS.slice hu2; replace BA := Lib.hid (ahead BA.out hb'); clear hb' hu2)
                    | (go_at_call 21; refine (fields_any fx fx _ _ _ HU1.out HU2.out HFL.out HFL.out rfl).mono ?_; rintro e w' ⟨rfl, hb'⟩; replace BA := Lib.hid (ahead BA.out hb'); clear hb'))
                  all_goals
                    rename_i hHeld
                    clear hHeld
                    have HPA := Lib.hid (HA9.out.to BA.out)
                    clear HDN HER HTK HGV HWT HFX HRD HRW HRF KX BA z0 z1 z2 z3 z4 z5 z6 z7 z8
                    go_wp2_with fail
                    go_roundw
                    case rel => exact ⟨j + 1, k1, r1, M, pa, ca, by omega, by go_num, HPA.out, HSH.out⟩
                    case measure => simp only [intOf]; omega
              case neg =>
                have hm3 : ((m4 : Int) == 3) = false := beq_eq_false_iff_ne.2 (by omega)
                have hA2 := HA.out.to B22.out
                obtain ⟨hlk, hq1, hq2, hq3, hq4⟩ := like_piece o.bs HA.out.like
                obtain ⟨s1, s2, s3, s4⟩ := rnext_same r o.bs
                have htk2 := like_taken HA.out.like
                have HPT := Lib.hid (putI (b := o.bs) o.p o.c hA2.int HBS.out (fun hne g hg hm => by have h1 := HA.out.low g hm; have h2 := hfar hne g hg; omega) (by omega) (by omega))
                obtain ⟨D, hD⟩ : ∃ D, dataP k0 r.e o.bs = D := ⟨_, rfl⟩
                obtain ⟨n3, hn3⟩ : ∃ n3, numP k0 r.e o.bs = n3 := ⟨_, rfl⟩
                obtain ⟨er, her⟩ : ∃ er, errP k0 r.e o.bs = er := ⟨_, rfl⟩
                obtain ⟨k1, hk1⟩ : ∃ k1, nextP k0 r.e o.bs = k1 := ⟨_, rfl⟩
                obtain ⟨r1, hr1⟩ : ∃ r1, rnext r o.bs = r1 := ⟨_, rfl⟩
                rw [hr1] at s1 s2 s3 s4 hlk hq4
                rw [hk1] at hlk
                rw [hn3] at hq1
                rw [hD] at hq2
                rw [her] at hq3 hq4
                unfold PutI at HPT
                rw [hD, hn3, her, hk1] at HPT
                obtain ⟨dl, hdl⟩ : ∃ dl, D.length = dl := ⟨_, rfl⟩
                rw [hdl] at HPT
                have HLK := Lib.hid (And.intro hlk hq4)
                have HSM := Lib.hid (And.intro s1 (And.intro s2 (And.intro s3 s4)))
                have HRP : Hid (∀ V, RD V (.slice pa r.A.length ca) r.A → RD V (.slice o.p o.bs.length o.c) o.bs → Calls Tryz.prog 12 #[.agg (rcs r pa r.A.length ca), .slice o.p o.bs.length o.c] V fun x w' => ∃ (pb : Option Addr) (cb : Nat) (pd : Option Addr) (cd : Nat), x = .returned (.agg (tcs r1 pb r1.A.length cb pd dl cd n3 er)) ∧ RD w' (.slice pb r1.A.length cb) r1.A ∧ RD w' (.slice pd dl cd) D ∧ Below V.heap.size V w' ∧ (∀ g, (Value.slice pb r1.A.length cb).ownBlock = some g → (r1.A = r.A ∧ (Value.slice pa r.A.length ca).ownBlock = some g) ∨ V.heap.size ≤ g)) := Lib.hid fun V h1 h2 => by
                  have := rput_like HA.out.like h1 HA.out.ok h2 (by omega)
                  unfold PutR at this
                  rw [hr1, hq1, hq2, hq3, hdl] at this
                  exact this
                obtain ⟨na, hna⟩ : ∃ na, r.A.length = na := ⟨_, rfl⟩
                obtain ⟨nb, hnb⟩ : ∃ nb, r1.A.length = nb := ⟨_, rfl⟩
                rw [hna, hnb] at HRP
                unfold rcs tcs at HRP
                have HNA := Lib.hid (And.intro hna hnb)
                have HE1 := Lib.hid hq4
                obtain ⟨bl, hbl2⟩ : ∃ bl, o.bs.length = bl := ⟨_, rfl⟩
                rw [hbl2] at HPT HRP OC oc1 HBS
                have HBL := Lib.hid hbl2
                have HA2 := Lib.hid hA2
                have HMEM := Lib.hid HMEM0.out
                have hAl' : Hid (r.A.length + o.bs.length ≤ 1000) := Lib.hid hAl
                clear hA2 hlk hq1 hq2 hq3 hq4 s1 s2 s3 s4 htk2 hD hn3 her hk1 hr1 hdl hna hnb hfar hAl hbl hbl2
                go_upto_region 28 with (go_at_call 11; refine HPT.out.mono ?_; rintro e W3 ⟨M1, p3, c3, rfl, hi3, m3, hrd3, hown3⟩)
                have hH3 := HA2.out.half hi3 m3
                have HI3 := Lib.hid hi3
                have hoc3 := (m3.block Ob hHS.out.2.2 nMo).trans OC.out
                have htc3 := (m3.block Tb hHS.out.2.1 nM).trans TC.out
                have nM1 : ¬ M1 Tb := fun hm => by
                  rcases m3.own Tb hm with h' | h'
                  · exact nM h'
                  · have := hHS.out.2.1; omega
                have hbs3 : RD W3 (.slice o.p bl o.c) o.bs := HBS.out.keep fun hne g hg => m3.block g (by obtain ⟨k', e', hlt'⟩ := HBS.out.lt hne; rw [hg] at e'; cases e'; exact hlt') (fun hm => by
                  have h1 := HA.out.low g hm
                  have h2 := HV.out o HMEM.out hne g (by rw [HBL.out]; exact hg)
                  omega)
                have hrd3a := hH3.rd
                rw [HNA.out.1] at hrd3a
                have HRP3 := Lib.hid (HRP.out W3 hrd3a hbs3)
                have hxb3 := hH3.blk
                rw [HNA.out.1] at hxb3
                obtain ⟨⟨z0, z1, z2, z3, z4, z5, z6, z7, z8⟩, -⟩ := nine_cells hxb3
                clear oc0 oc1
                obtain ⟨oc0, oc1, -, -⟩ := two_cells13 hoc3
                have HH3 := Lib.hid hH3
                have HRB := Lib.hid hrd3
                have TC3 := Lib.hid htc3
                have hTl3 := (Array.getElem?_eq_some_iff.1 htc3).1
                have HZ3 := Lib.hid hTl3
                clear hi3 m3 hrd3 hown3 hH3 hoc3 htc3 hbs3 hrd3a hxb3 hTl3 HPT HRP HBS
                go_upto_region 29 with (go_at_call 12; refine HRP3.out.mono ?_; rintro e W4 ⟨pb, cb, pd, cd, rfl, hra4, hrd4, hb4, ho4⟩; have TC4 := Lib.hid ((hb4.block Tb HZ3.out).trans TC3.out); obtain ⟨⟨t0, t1, t2, t3, t4, t5, t6, t7, t8, t9, ta, tb⟩, ft⟩ := twelve_cells TC4.out; have HR4 := Lib.hid (And.intro hra4 (And.intro hrd4 ho4)); have B4 := Lib.hid hb4; clear hra4 hrd4 hb4 ho4)
                rw [HE1.out]
                obtain ⟨W5, hW5⟩ : ∃ W5, over12 W4 Tb (.int .i64 (r1.kind : Int)) (.int .u64 (r1.size : Int)) (.int .i64 (r1.l.ext : Int)) (.int .i64 (r1.l.fields : Int)) (.int .i64 (r1.l.bytes : Int)) (.slice pb nb cb) (.bool r1.closed) (.int .i64 (er : Int)) (.int .i64 (r1.g : Int)) (.slice pd dl cd) (.int .i64 (n3 : Int)) (.int .i64 (er : Int)) = W5 := ⟨_, rfl⟩
                have tc5 : W5.heap[Tb]? = some (.cells #[.int .i64 (r1.kind : Int), .int .u64 (r1.size : Int), .int .i64 (r1.l.ext : Int), .int .i64 (r1.l.fields : Int), .int .i64 (r1.l.bytes : Int), .slice pb nb cb, .bool r1.closed, .int .i64 (er : Int), .int .i64 (r1.g : Int), .slice pd dl cd, .int .i64 (n3 : Int), .int .i64 (er : Int)] 41 (0, 0)) := by rw [← hW5]; exact over12_row TC4.out _ _ _ _ _ _ _ _ _ _ _ _
                have hk5 : ∀ g, g ≠ Tb → W5.heap[g]? = W4.heap[g]? := fun g hg => by rw [← hW5]; exact over12_other _ _ _ _ _ _ _ _ _ _ _ _ _ _ hg
                have hH4 := HH3.out.to B4.out
                have hTw : w0.heap.size ≤ Tb := by have := hHS.out.1; have := HA.out.below.size; omega
                have b5 : Below w0.heap.size w0 W5 := by rw [← hW5]; exact over12_below hH4.below hTw _ _ _ _ _ _ _ _ _ _ _ _
                have hz5 : W4.heap.size ≤ W5.heap.size := by rw [← hW5]; simp [over12, over10, over8, World.setCell]
                have hH5 := hH4.other hk5 nM1 neX TC4.out hz5 b5 (HSP.out.below b5)
                have hra5 := rd_apart HR4.out.1 TC4.out tz_u8 hk5
                have hrd5 := rd_apart HR4.out.2.1 TC4.out tz_u8 hk5
                have hrb5 := rd_apart (HRB.out.below B4.out) TC4.out tz_u8 hk5
                have HS5 := Lib.hid (same_any W5 p3 pd dl c3 dl cd D D hrb5 hrd5)
                rw [decide_eq_true rfl] at HS5
                unfold over12 over10 over8 at hW5
                rw [hW5]
                clear z0 z1 z2 z3 z4 z5 z6 z7 z8 t0 t1 t2 t3 t4 t5 t6 t7 t8 t9 ta tb ft hW5 oc0 oc1
                obtain ⟨⟨t0, t1, t2, t3, t4, t5, t6, t7, t8, t9, ta, tb⟩, ft⟩ := twelve_cells tc5
                have HH5 := Lib.hid hH5
                have TC5 := Lib.hid tc5
                have HRA5 := Lib.hid hra5
                clear hH4 hH5 tc5 hk5 b5 hz5 hra5 hrd5 hrb5 HRP3 TC3 TC4 HRB HH3
                go_upto_region 31 with (go_at_call 13; refine HS5.out.mono ?_; rintro e W6 ⟨rfl, mm, rfl⟩; have htc6 : (W5.drewN mm).heap[Tb]? = _ := TC5.out; obtain ⟨⟨q0, q1, q2, q3, q4, q5, q6, q7, q8, q9, qa, qb⟩, fq⟩ := twelve_cells htc6; clear htc6)
                have hH6 := HH5.out.to (drewN_below8 W5 mm)
                have hxb := hH6.blk
                rw [HNA.out.1] at hxb
                have hra6 : RD (W5.drewN mm) (.slice pb nb cb) r1.A := HRA5.out.below (drewN_below8 W5 mm)
                generalize W5.drewN mm = W6 at *
                clear t0 t1 t2 t3 t4 t5 t6 t7 t8 t9 ta tb ft
                obtain ⟨⟨z0, z1, z2, z3, z4, z5, z6, z7, z8⟩, fz⟩ := nine_cells hxb
                obtain ⟨s1, s2, s3, s4⟩ := HSM.out
                obtain ⟨W9, hW9⟩ : ∃ W9, over9 W6 X (.int .i64 (r1.kind : Int)) (.int .u64 (r1.size : Int)) (.int .i64 (r1.l.ext : Int)) (.int .i64 (r1.l.fields : Int)) (.int .i64 (r1.l.bytes : Int)) (.slice pb nb cb) (.bool r1.closed) (.int .i64 (er : Int)) (.int .i64 (r1.g : Int)) = W9 := ⟨_, rfl⟩
                have hx9 : W9.heap[X]? = some (.cells #[.int .i64 (r1.kind : Int), .int .u64 (r1.size : Int), .int .i64 (r1.l.ext : Int), .int .i64 (r1.l.fields : Int), .int .i64 (r1.l.bytes : Int), .slice pb nb cb, .bool r1.closed, .int .i64 (er : Int), .int .i64 (r1.g : Int)] 39 (0, 0)) := by rw [← hW9]; exact over9_row hxb _ _ _ _ _ _ _ _ _
                have hk9 : ∀ g, g ≠ X → W9.heap[g]? = W6.heap[g]? := fun g hg => by rw [← hW9]; exact over9_other _ _ _ _ _ _ _ _ _ _ _ hg
                have hb9 : Below w0.heap.size w0 W9 := by rw [← hW9]; exact over9_below hH6.below HA.out.xlow _ _ _ _ _ _ _ _ _
                have hx9' : W9.heap[X]? = some (.cells (rcs r1 pb r1.A.length cb) 39 (0, 0)) := by
                  unfold rcs
                  rw [HNA.out.2, HE1.out]
                  exact hx9
                have hra6' : RD W6 (.slice pb r1.A.length cb) r1.A := by rw [HNA.out.2]; exact hra6
                have hown6 : r1.A ≠ [] → ∀ g, (Value.slice pb r1.A.length cb).ownBlock = some g → ¬ M1 g := fun hne g hg => by
                  rw [HNA.out.2] at hg
                  rcases HR4.out.2.2 g hg with ⟨h1, h2⟩ | h2
                  · refine (hH6.own (by rw [← h1]; exact hne) g ?_).2
                    rw [HNA.out.1]
                    exact h2
                  · intro hm
                    have := HI3.out.lt hm
                    omega
                have hA9 : AA R X w0 k1 r1 M1 pb cb W9 := hH6.done HA.out.xlow hx9' hk9 hb9 (HSP.out.below hb9) hra6' hown6 HE1.out.symm HLK.out.1 (by rw [s1]; exact HA.out.kind) (by rw [s2]; exact HA.out.size) (by rw [s3]; exact HA.out.lim) (Nat.le_trans s4 hAl'.out)
                have HA9 := Lib.hid hA9
                have HSH := Lib.hid (show r1.A.length ≤ tot12 (os.take (j + 1)) by have := HNX.out; have := HBL.out; omega)
                unfold over9 over8 at hW9
                have HW9 := Lib.hid hW9
                clear hH6 hxb hra6 hx9 hk9 hb9 hx9' hra6' hown6 hA9 hW9 HSM HLK HH5 TC5 HRA5 HR4 HS5 s1 s2 s3 s4 B4
                go_upto_region 32 with fail
                rw [HW9.out]
                clear HW9 z0 z1 z2 z3 z4 z5 z6 z7 z8 fz q0 q1 q2 q3 q4 q5 q6 q7 q8 q9 qa qb fq
                -- all that is asked of both
                have HDN : Hid (∀ W, Below W9.heap.size W9 W → _) := Lib.hid fun W h => doneI (HA9.out.int.below h)
                have HER : Hid (∀ W, Below W9.heap.size W9 W → _) := Lib.hid fun W h => errI (HA9.out.int.below h)
                have HTK : Hid (∀ W, Below W9.heap.size W9 W → _) := Lib.hid fun W h => takenI (HA9.out.int.below h)
                have HGV : Hid (∀ W, Below W9.heap.size W9 W → _) := Lib.hid fun W h => givenI (HA9.out.int.below h)
                have HWT : Hid (∀ W, Below W9.heap.size W9 W → _) := Lib.hid fun W h => wantsI (HA9.out.int.below h)
                have HFX : Hid (∀ W, Below W9.heap.size W9 W → _) := Lib.hid fun W h => fieldsI (HA9.out.int.below h)
                have HRD : Hid (∀ W, Below W9.heap.size W9 W → _) := Lib.hid fun W h => rdone12_any (HA9.out.rd.below h) HA9.out.ok
                have HRW : Hid (∀ W, Below W9.heap.size W9 W → _) := Lib.hid fun W h => rwants12_any (HA9.out.rd.below h) HA9.out.ok
                have HRF : Hid (∀ W, Below W9.heap.size W9 W → _) := Lib.hid fun W h => rfields12_any (HA9.out.rd.below h) HA9.out.ok
                have hfl := HA9.out.int.fields_le
                rw [like_done HA9.out.like] at HRD
                rw [like_wants HA9.out.like] at HRW
                rw [like_fields HA9.out.like] at HRF
                rw [like_taken HA9.out.like] at HTK
                rw [like_given HA9.out.like] at HGV
                obtain ⟨nc, hna⟩ : ∃ nc, r1.A.length = nc := ⟨_, rfl⟩
                have hblk := HA9.out.blk
                have hXlt := (Array.getElem?_eq_some_iff.1 hblk).1
                unfold rcs at HRD HRW HRF hblk
                rw [hna] at HTK HRD HRW HRF hblk
                obtain ⟨dn, hdn⟩ : ∃ dn, doneK k1 = dn := ⟨_, rfl⟩
                rw [hdn] at HDN HRD
                obtain ⟨wt, hwt⟩ : ∃ wt, wantsK k1 r1.e = wt := ⟨_, rfl⟩
                rw [hwt] at HWT HRW
                obtain ⟨fx, hfx⟩ : ∃ fx, fieldsK k1 = fx := ⟨_, rfl⟩
                rw [hfx] at HFX HRF hfl
                have HFL := Lib.hid (show fx.length ≤ 1000000 by omega)
                have KX : Hid (∀ W, Below W9.heap.size W9 W → W.cell? ⟨X, 0, none⟩ = some (.int .i64 (r1.kind : Int)) ∧ W.cell? ⟨X, 1, none⟩ = some (.int .u64 (r1.size : Int)) ∧ W.cell? ⟨X, 2, none⟩ = some (.int .i64 (r1.l.ext : Int)) ∧ W.cell? ⟨X, 3, none⟩ = some (.int .i64 (r1.l.fields : Int)) ∧ W.cell? ⟨X, 4, none⟩ = some (.int .i64 (r1.l.bytes : Int)) ∧ W.cell? ⟨X, 5, none⟩ = some (.slice pb nc cb) ∧ W.cell? ⟨X, 6, none⟩ = some (.bool r1.closed) ∧ W.cell? ⟨X, 7, none⟩ = some (.int .i64 (r1.e : Int)) ∧ W.cell? ⟨X, 8, none⟩ = some (.int .i64 (r1.g : Int))) := Lib.hid fun W h => (nine_cells ((h.block X hXlt).trans hblk)).1
                obtain ⟨⟨z0, z1, z2, z3, z4, z5, z6, z7, z8⟩, -⟩ := nine_cells hblk
                have BA : Hid (Below W9.heap.size W9 W9.drew) := Lib.hid (drew_below8 W9)
                clear hna hblk hXlt hdn hwt hfx hfl
                go_region_held3 (fun W => W.cell? ⟨X, 0, none⟩ = some (.int .i64 (r1.kind : Int)) ∧ W.cell? ⟨X, 1, none⟩ = some (.int .u64 (r1.size : Int)) ∧ W.cell? ⟨X, 2, none⟩ = some (.int .i64 (r1.l.ext : Int)) ∧ W.cell? ⟨X, 3, none⟩ = some (.int .i64 (r1.l.fields : Int)) ∧ W.cell? ⟨X, 4, none⟩ = some (.int .i64 (r1.l.bytes : Int)) ∧ W.cell? ⟨X, 5, none⟩ = some (.slice pb nc cb) ∧ W.cell? ⟨X, 6, none⟩ = some (.bool r1.closed) ∧ W.cell? ⟨X, 7, none⟩ = some (.int .i64 (r1.e : Int)) ∧ W.cell? ⟨X, 8, none⟩ = some (.int .i64 (r1.g : Int)))
                  ((refine KX.out _ ?_; with_reducible exact BA.out))
                  (first
                  | (go_at_call 14; refine (HDN.out _ BA.out).mono ?_; rintro e w' ⟨rfl, rfl⟩)
                  | (go_at_call 16; refine (HER.out _ BA.out).mono ?_; rintro e w' ⟨rfl, rfl⟩)
                  | (go_at_call 17; refine (HTK.out _ BA.out).mono ?_; rintro e w' ⟨rfl, rfl⟩)
                  | (go_at_call 18; refine (HGV.out _ BA.out).mono ?_; rintro e w' ⟨rfl, rfl⟩)
                  | (go_at_call 19; refine (HWT.out _ BA.out).mono ?_; rintro e w' ⟨rfl, rfl⟩)
                  | (go_at_call 15; refine (HRD.out _ BA.out).mono ?_; rintro e w' ⟨rfl, hb'⟩; replace BA := Lib.hid (ahead BA.out hb'); clear hb')
                  | (go_at_call 20; refine (HRW.out _ BA.out).mono ?_; rintro e w' ⟨rfl, hb'⟩; replace BA := Lib.hid (ahead BA.out hb'); clear hb')
                  | (go_at_call 22; refine (HFX.out _ BA.out).mono ?_; rintro e w' ⟨u1, rfl, hu1, hb'⟩; have HU1 := Lib.hid hu1; obtain ⟨qf, cf', rfl, -⟩ := RS.slice hu1; replace BA := Lib.hid (ahead BA.out hb'); clear hb' hu1)
                  | (go_at_call 23; refine (HRF.out _ BA.out).mono ?_; rintro e w' ⟨u2, rfl, hu2, hb'⟩; try (replace HU1 := Lib.hid (HU1.out.below hb')); have HU2 := Lib.hid hu2; obtain ⟨qg, cg', rfl, -⟩ := RS.slice hu2; replace BA := Lib.hid (ahead BA.out hb'); clear hb' hu2)
                  | (go_at_call 21; refine (fields_any fx fx _ _ _ HU1.out HU2.out HFL.out HFL.out rfl).mono ?_; rintro e w' ⟨rfl, hb'⟩; replace BA := Lib.hid (ahead BA.out hb'); clear hb'))
                all_goals
                  rename_i hHeld
                  clear hHeld
                  have HPA := Lib.hid (HA9.out.to BA.out)
                  clear HDN HER HTK HGV HWT HFX HRD HRW HRF KX BA z0 z1 z2 z3 z4 z5 z6 z7 z8
                  go_wp2_with fail
                  go_roundw
                  case rel => exact ⟨j + 1, k1, r1, M1, pb, cb, by omega, by go_num, HPA.out, HSH.out⟩
                  case measure => simp only [intOf]; omega

end Go.Proofs.YtjkccacpffikbaaGreatDoor

/- IntakeActs from what came in. -/
namespace Go.Proofs.YtjkccacpffikbaaGreatDoor
open Go.ChangeShapes Go.WideShapes Go.ChangeAt Go.RowKit Go.Deep
open Oc Fl Bk Bd Dk Ik
set_option linter.unusedVariables false
set_option maxRecDepth 100000

set_option maxRecDepth 100000 in
theorem acts12_data {H : Type} {enc : TypeId × Value → H} {W : World} {base : Nat} {v0 v1 v2 : Value} {d0 d1 d2 : DataW H} {p2 : List MemPlace} (u0 : Value.okWide Tryz.prog W .any base 24 v0) (u1 : Value.okWide Tryz.prog W .any base 26 v1)
    (u2 : Value.okWide Tryz.prog W .any base 27 v2) (h2 : DataW.Trod enc Tryz.prog W 0 (fun _ => true) true 27 v2 d2 p2) (hz : (DataW.weightsEach Tryz.prog [24, 26, 27] [d0, d1, d2]).all (· ≤ reachBytes) = true) (hsp : Spans W) :
    Calls Tryz.prog 3 #[v0, v1, v2] W fun e w' => e = .returned (.bool true) ∧ Below W.heap.size W w' := by
  obtain ⟨k, s, rfl, hs⟩ := open_frame u0
  obtain ⟨a, b, c, rfl⟩ := open_lims u1
  obtain ⟨os, q, ck, rfl, hO, _, hob⟩ := open_ops12 u2 h2 (each_weight hz (j := 2) rfl rfl)
  exact acts12_walk k s a b c os W hs hO hob hsp

end Go.Proofs.YtjkccacpffikbaaGreatDoor
