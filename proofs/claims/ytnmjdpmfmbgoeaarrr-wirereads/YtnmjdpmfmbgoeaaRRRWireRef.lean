/- What the document's Read of a source answers. -/
import Derived.Test.YtnmjdpmfmbgoeaaRRRWireSrc
import Derived.Test.YtnmjdpmfmbgoeaaRRRByteSame
namespace Go.Proofs.YtnmjdpmfmbgoeaaRRR
open Go.ChangeShapes Go.WideShapes Go.ChangeAt Go.RowKit
open Wr
set_option linter.unusedVariables false
set_option maxRecDepth 100000

/-- Two results, each a struct in a cell. -/
theorem results_two16 {P : Program} {fn : Func} {p q : Tmp} {t1 t2 : TypeId} (h : fn.results = #[.cell p t1, .cell q t2]) (tmps : Array Value) (w : World) (g1 g2 : Nat) (u1 u2 : TypeId) (c1 c2 : Array Value) (f1 f2 : Nat × Nat) (d1 d2 : TypeDesc)
    (hp : tmps.getD p undef = .pointer (some ⟨g1, 0, none⟩)) (hg : w.heap[g1]? = some (.cells c1 u1 f1)) (hu : P.underlying t1 = some d1) (hd : (match d1 with | .struct _ | .array _ _ => true | _ => false) = true) (hi : (P.info? t1).map (·.size) = some c1.size)
    (hq : tmps.getD q undef = .pointer (some ⟨g2, 0, none⟩)) (hg2 : w.heap[g2]? = some (.cells c2 u2 f2)) (hu2 : P.underlying t2 = some d2) (hd2 : (match d2 with | .struct _ | .array _ _ => true | _ => false) = true) (hi2 : (P.info? t2).map (·.size) = some c2.size) :
    (results fn tmps).run P w = .ok (.tuple #[.agg c1, .agg c2]) w := by
  have e : (results fn tmps).run P w = ((asAddr (tmps.getD p undef)).run P w).andThen fun a w₁ => ((loadVar t1 a).run P w₁).andThen fun x w₂ => ((asAddr (tmps.getD q undef)).run P w₂).andThen fun b w₃ => ((loadVar t2 b).run P w₃).andThen fun y w₄ => .ok (.tuple #[x, y]) w₄ := by
    simp only [results, h]
    simp [Sem.run_bind, Result.andThen]
  have r1 := run_loadVar_row w g1 u1 t1 c1 f1 d1 hg hu hd hi
  have r2 := run_loadVar_row w g2 u2 t2 c2 f2 d2 hg2 hu2 hd2 hi2
  have a1 : (asAddr (tmps.getD p undef)).run P w = .ok ⟨g1, 0, none⟩ w := by rw [hp]; simp [asAddr]
  have a2 : (asAddr (tmps.getD q undef)).run P w = .ok ⟨g2, 0, none⟩ w := by rw [hq]; simp [asAddr]
  rw [e, a1]
  show (((loadVar t1 ⟨g1, 0, none⟩).run P w).andThen fun x w₂ => ((asAddr (tmps.getD q undef)).run P w₂).andThen fun b w₃ => ((loadVar t2 b).run P w₃).andThen fun y w₄ => Result.ok (Value.tuple #[x, y]) w₄) = _
  rw [r1]
  show (((asAddr (tmps.getD q undef)).run P w).andThen fun b w₃ => ((loadVar t2 b).run P w₃).andThen fun y w₄ => Result.ok (Value.tuple #[Value.agg c1, y]) w₄) = _
  rw [a2]
  show (((loadVar t2 ⟨g2, 0, none⟩).run P w).andThen fun y w₄ => Result.ok (Value.tuple #[Value.agg c1, y]) w₄) = _
  rw [r2]
  rfl
section
variable {A : World} {R : Nat} {x0 x1 x2 x3 x4 : Value} {t : TypeId}
theorem put5_row (h : A.heap[R]? = some (.cells #[x0, x1, x2, x3, x4] t (0, 0))) (u0 u1 u2 u3 u4 : Value) :
    (((((A.setCell ⟨R, 0, none⟩ u0).setCell ⟨R, 1, none⟩ u1).setCell ⟨R, 2, none⟩ u2).setCell ⟨R, 3, none⟩ u3).setCell ⟨R, 4, none⟩ u4).heap[R]? = some (.cells #[u0, u1, u2, u3, u4] t (0, 0)) := by
  have h0 : (A.setCell ⟨R, 0, none⟩ u0).heap[R]? = some (.cells #[u0, x1, x2, x3, x4] t (0, 0)) := heap_set u0 h
  have h1 : ((A.setCell ⟨R, 0, none⟩ u0).setCell ⟨R, 1, none⟩ u1).heap[R]? = some (.cells #[u0, u1, x2, x3, x4] t (0, 0)) := heap_set u1 h0
  have h2 : (((A.setCell ⟨R, 0, none⟩ u0).setCell ⟨R, 1, none⟩ u1).setCell ⟨R, 2, none⟩ u2).heap[R]? = some (.cells #[u0, u1, u2, x3, x4] t (0, 0)) := heap_set u2 h1
  have h3 : ((((A.setCell ⟨R, 0, none⟩ u0).setCell ⟨R, 1, none⟩ u1).setCell ⟨R, 2, none⟩ u2).setCell ⟨R, 3, none⟩ u3).heap[R]? = some (.cells #[u0, u1, u2, u3, x4] t (0, 0)) := heap_set u3 h2
  exact heap_set u4 h3
theorem put5_other (A : World) (R : Nat) (u0 u1 u2 u3 u4 : Value) {g : Nat} (hg : g ≠ R) : (((((A.setCell ⟨R, 0, none⟩ u0).setCell ⟨R, 1, none⟩ u1).setCell ⟨R, 2, none⟩ u2).setCell ⟨R, 3, none⟩ u3).setCell ⟨R, 4, none⟩ u4).heap[g]? = A.heap[g]? :=
  (Below.heap_setCell _ _ _ _ hg).trans ((Below.heap_setCell _ _ _ _ hg).trans ((Below.heap_setCell _ _ _ _ hg).trans ((Below.heap_setCell _ _ _ _ hg).trans (Below.heap_setCell _ _ _ _ hg))))
theorem put3_row {A : World} {R : Nat} {x0 x1 x2 : Value} {t : TypeId} (h : A.heap[R]? = some (.cells #[x0, x1, x2] t (0, 0))) (u0 u1 u2 : Value) :
    (((A.setCell ⟨R, 0, none⟩ u0).setCell ⟨R, 1, none⟩ u1).setCell ⟨R, 2, none⟩ u2).heap[R]? = some (.cells #[u0, u1, u2] t (0, 0)) := by
  have h0 : (A.setCell ⟨R, 0, none⟩ u0).heap[R]? = some (.cells #[u0, x1, x2] t (0, 0)) := heap_set u0 h
  have h1 : ((A.setCell ⟨R, 0, none⟩ u0).setCell ⟨R, 1, none⟩ u1).heap[R]? = some (.cells #[u0, u1, x2] t (0, 0)) := heap_set u1 h0
  exact heap_set u2 h1
theorem put3_other (A : World) (R : Nat) (u0 u1 u2 : Value) {g : Nat} (hg : g ≠ R) : (((A.setCell ⟨R, 0, none⟩ u0).setCell ⟨R, 1, none⟩ u1).setCell ⟨R, 2, none⟩ u2).heap[g]? = A.heap[g]? :=
  (Below.heap_setCell _ _ _ _ hg).trans ((Below.heap_setCell _ _ _ _ hg).trans (Below.heap_setCell _ _ _ _ hg))
theorem three16 {A : World} {R : Nat} {x0 x1 x2 : Value} {t : TypeId} (h : A.heap[R]? = some (.cells #[x0, x1, x2] t (0, 0))) :
    (A.cell? ⟨R, 0, none⟩ = some x0 ∧ A.cell? ⟨R, 1, none⟩ = some x1 ∧ A.cell? ⟨R, 2, none⟩ = some x2) ∧ ∀ i, A.frozen? ⟨R, i, none⟩ = false := by
  simp [World.cell?, World.frozen?, h]
end

/-- How many pieces lie there. -/
def lenAt (W : World) (R : Nat) : Nat :=
  match W.cell? ⟨R, 0, none⟩ with
  | some (.slice _ n _) => n
  | _ => 0
/-- The document's source, as cells. -/
abbrev rsrc (x : Sr) (p : Option Addr) (n c : Nat) : Array Value := #[.slice p n c, .bool x.bg, .int .i64 x.e, .int .i64 (x.r : Int), .bool x.sh]
/-- What its Read leaves: the source, the bytes; both lie in blocks of K. -/
def RReadQ (K : Nat → Prop) (y : Sr × List UInt8 × Int) (w : World) (e : Ending) (w' : World) : Prop :=
  ∃ p c q m d, e = .returned (.tuple #[.agg (rsrc y.1 p y.1.A.length c), .agg #[.slice q m d, .int .i64 0, .int .i64 y.2.2]]) ∧ CSK K w' (.slice p y.1.A.length c) y.1.A ∧ RD w' (.slice q m d) y.2.1 ∧
    (y.2.1 ≠ [] → ∀ g, (Value.slice q m d).ownBlock = some g → K g) ∧ Below w.heap.size w w'
theorem RReadQ.below {K : Nat → Prop} {y : Sr × List UInt8 × Int} {w F G : World} {e : Ending} (h : RReadQ K y w e F) (hb : Below F.heap.size F G) : RReadQ K y w e G := by
  obtain ⟨p, c, q, m, d, h1, h2, h3, h4, h5⟩ := h
  exact ⟨p, c, q, m, d, h1, h2.below hb, h3.below hb, h4, ahead h5 hb⟩
/-- Within its Read: z: the source as it stands; its pieces lie in blocks of K. -/
structure RR (w : World) (K : Nat → Prop) (z : Sr) (p : Option Addr) (c : Nat) (W : World) : Prop where
  b0 : W.heap[w.heap.size]? = some (.cells (rsrc z p z.A.length c) 33 (0, 0))
  b1 : W.heap[w.heap.size + 1]? = some (.cells #[.slice none 0 0, .bool false, .int .i64 0, .int .i64 0, .bool false] 33 (0, 0))
  b2 : W.heap[w.heap.size + 2]? = some (.cells #[.slice none 0 0, .int .i64 0, .int .i64 0] 38 (0, 0))
  cs : CSK K W (.slice p z.A.length c) z.A
  below : Below w.heap.size w W
  sep : ∀ g, K g → g ≠ w.heap.size ∧ g ≠ w.heap.size + 1 ∧ g ≠ w.heap.size + 2
section
variable {w : World} {K : Nat → Prop} {z : Sr} {p : Option Addr} {c : Nat} {W : World}
theorem RR.size (h : RR w K z p c W) : w.heap.size + 2 < W.heap.size := (Array.getElem?_eq_some_iff.1 h.b2).1
theorem RR.to {W' : World} (h : RR w K z p c W) (hb : Below W.heap.size W W') : RR w K z p c W' :=
  have := h.size
  ⟨(hb.block _ (by omega)).trans h.b0, (hb.block _ (by omega)).trans h.b1, (hb.block _ (by omega)).trans h.b2, h.cs.below hb, ahead h.below hb, h.sep⟩
/-- How it ends: both results are laid, and read. -/
theorem RR.ends (h : RR w K z p c W) {K' : Nat → Prop} (hK : ∀ g, K g → K' g) {q : Option Addr} {m d : Nat} {bs : List UInt8} (hq : RD W (.slice q m d) bs) (hqk : bs ≠ [] → ∀ g, (Value.slice q m d).ownBlock = some g → K g) (e : Int) :
    ∃ F, ((((((((W.setCell ⟨w.heap.size + 1, 0, none⟩ (.slice p z.A.length c)).setCell ⟨w.heap.size + 1, 1, none⟩ (.bool z.bg)).setCell ⟨w.heap.size + 1, 2, none⟩ (.int .i64 z.e)).setCell ⟨w.heap.size + 1, 3, none⟩ (.int .i64 (z.r : Int))).setCell ⟨w.heap.size + 1, 4, none⟩ (.bool z.sh)).setCell ⟨w.heap.size + 2, 0, none⟩ (.slice q m d)).setCell ⟨w.heap.size + 2, 1, none⟩ (.int .i64 0)).setCell ⟨w.heap.size + 2, 2, none⟩ (.int .i64 e)) = F ∧
      F.heap[w.heap.size + 1]? = some (.cells (rsrc z p z.A.length c) 33 (0, 0)) ∧ F.heap[w.heap.size + 2]? = some (.cells #[.slice q m d, .int .i64 0, .int .i64 e] 38 (0, 0)) ∧
      RReadQ K' (z, bs, e) w (.returned (.tuple #[.agg (rsrc z p z.A.length c), .agg #[.slice q m d, .int .i64 0, .int .i64 e]])) F := by
  refine ⟨_, rfl, ?_, ?_, p, c, q, m, d, rfl, ?_, ?_, fun hne g hg => hK g (hqk hne g hg), ?_⟩
  · rw [put3_other _ _ _ _ _ (by omega)]
    exact put5_row h.b1 _ _ _ _ _
  · refine put3_row (x0 := .slice none 0 0) (x1 := .int .i64 0) (x2 := .int .i64 0) ?_ _ _ _
    rw [put5_other _ _ _ _ _ _ _ (by omega)]
    exact h.b2
  · refine (h.cs.keep fun g hg _ => ?_).mono hK
    obtain ⟨_, h1, h2⟩ := h.sep g hg
    rw [put3_other _ _ _ _ _ h2, put5_other _ _ _ _ _ _ _ h1]
  · refine hq.keep fun hne g hg => ?_
    obtain ⟨_, h1, h2⟩ := h.sep g (hqk hne g hg)
    rw [put3_other _ _ _ _ _ h2, put5_other _ _ _ _ _ _ _ h1]
  · exact ((((((((h.below.setCell (by show w.heap.size ≤ w.heap.size + 1; omega) _).setCell (by show w.heap.size ≤ w.heap.size + 1; omega) _).setCell (by show w.heap.size ≤ w.heap.size + 1; omega) _).setCell (by show w.heap.size ≤ w.heap.size + 1; omega) _).setCell (by show w.heap.size ≤ w.heap.size + 1; omega) _).setCell (by show w.heap.size ≤ w.heap.size + 2; omega) _).setCell (by show w.heap.size ≤ w.heap.size + 2; omega) _).setCell (by show w.heap.size ≤ w.heap.size + 2; omega) _)
/-- The three blocks with which it begins. -/
theorem RR.start {x : Sr} (h : CSK K w (.slice p x.A.length c) x.A) :
    RR w (fun g => K g ∧ g < w.heap.size) x p c (((w.alloc (.cells (rsrc x p x.A.length c) 33)).alloc (.cells #[.slice none 0 0, .bool false, .int .i64 0, .int .i64 0, .bool false] 33)).alloc (.cells #[.slice none 0 0, .int .i64 0, .int .i64 0] 38)) := by
  have b0 := below_box w (.cells (rsrc x p x.A.length c) 33)
  have n0 := heap_alloc_new w (.cells (rsrc x p x.A.length c) 33 (0, 0))
  have z0 : (w.alloc (.cells (rsrc x p x.A.length c) 33)).heap.size = w.heap.size + 1 := by simp
  generalize w.alloc (.cells (rsrc x p x.A.length c) 33) = w0 at *
  have b1 := below_box w0 (.cells #[.slice none 0 0, .bool false, .int .i64 0, .int .i64 0, .bool false] 33)
  have n1 := heap_alloc_new w0 (.cells #[.slice none 0 0, .bool false, .int .i64 0, .int .i64 0, .bool false] 33 (0, 0))
  have z1 : (w0.alloc (.cells #[.slice none 0 0, .bool false, .int .i64 0, .int .i64 0, .bool false] 33)).heap.size = w.heap.size + 2 := by simp [z0]
  generalize w0.alloc (.cells #[.slice none 0 0, .bool false, .int .i64 0, .int .i64 0, .bool false] 33) = w1 at *
  have b2 := below_box w1 (.cells #[.slice none 0 0, .int .i64 0, .int .i64 0] 38)
  have n2 := heap_alloc_new w1 (.cells #[.slice none 0 0, .int .i64 0, .int .i64 0] 38 (0, 0))
  generalize w1.alloc (.cells #[.slice none 0 0, .int .i64 0, .int .i64 0] 38) = w2 at *
  rw [z0] at n1
  rw [z1] at n2
  have hB := ahead (ahead b0 b1) b2
  exact ⟨(b2.block _ (by omega)).trans ((b1.block _ (by omega)).trans n0), (b2.block _ (by omega)).trans n1, n2, h.known.below hB, hB, fun g hg => by omega⟩
/-- The first piece is let go. -/
theorem RR.popped {t : List (List UInt8)} (h : RR w K z p c W) {p' : Option Addr} {c' : Nat} (hc : CSK K W (.slice p' t.length c') t) : RR w K ⟨t, z.bg, z.e, z.r, z.sh⟩ p' c' (W.setCell ⟨w.heap.size, 0, none⟩ (.slice p' t.length c')) := by
  have hk : ∀ g, g ≠ w.heap.size → (W.setCell ⟨w.heap.size, 0, none⟩ (.slice p' t.length c')).heap[g]? = W.heap[g]? := fun g hg => Below.heap_setCell _ _ _ _ hg
  exact ⟨heap_set (i := 0) _ h.b0, (hk _ (by omega)).trans h.b1, (hk _ (by omega)).trans h.b2, hc.keep fun g hg _ => hk g (h.sep g hg).1, h.below.setCell (Nat.le_refl _) _, h.sep⟩
theorem RR.began (h : RR w K z p c W) (b : Bool) : RR w K ⟨z.A, b, z.e, z.r, z.sh⟩ p c (W.setCell ⟨w.heap.size, 1, none⟩ (.bool b)) := by
  have hk : ∀ g, g ≠ w.heap.size → (W.setCell ⟨w.heap.size, 1, none⟩ (.bool b)).heap[g]? = W.heap[g]? := fun g hg => Below.heap_setCell _ _ _ _ hg
  exact ⟨heap_set (i := 1) _ h.b0, (hk _ (by omega)).trans h.b1, (hk _ (by omega)).trans h.b2, h.cs.keep fun g hg _ => hk g (h.sep g hg).1, h.below.setCell (Nat.le_refl _) _, h.sep⟩
theorem RR.more (h : RR w K z p c W) (r : Nat) : RR w K ⟨z.A, z.bg, z.e, r, z.sh⟩ p c (W.setCell ⟨w.heap.size, 3, none⟩ (.int .i64 (r : Int))) := by
  have hk : ∀ g, g ≠ w.heap.size → (W.setCell ⟨w.heap.size, 3, none⟩ (.int .i64 (r : Int))).heap[g]? = W.heap[g]? := fun g hg => Below.heap_setCell _ _ _ _ hg
  exact ⟨heap_set (i := 3) _ h.b0, (hk _ (by omega)).trans h.b1, (hk _ (by omega)).trans h.b2, h.cs.keep fun g hg _ => hk g (h.sep g hg).1, h.below.setCell (Nat.le_refl _) _, h.sep⟩
theorem chunk_one (W : World) (v : Value) : RS (W.alloc (.cells #[v] 34)) 1 (.slice (some ⟨W.heap.size, 0, none⟩) 1 1) 1 [v] := by
  have hn := heap_alloc_new W (.cells #[v] 34 (0, 0))
  refine ⟨rfl, some ⟨W.heap.size, 0, none⟩, 1, rfl, Nat.le_refl _, by decide, (fun h => by cases h), fun ad hp i u hu => ?_⟩
  cases hp
  match i, hu with
  | 0, hu => simp only [List.getElem?_cons_zero, Option.some.injEq] at hu; subst hu; rw [Addr.add_zero']; exact (one_cell hn).1
  | i + 1, hu => simp at hu
theorem chunk_info0 : (Try.prog.info? 34).map (fun i => (i.zero, i.size, i.bytes)) = some (some (.slice none 0 0), 1, 24) := by kernel_rfl
/-- What is left of the first piece, and those behind it: a list of the call's own. -/
theorem RR.lists {y : List UInt8} {t : List (List UInt8)} (h : RR w K z p c W) {p2 : Option Addr} {m2 c2 : Nat} (hy : RD W (.slice p2 m2 c2) y) (hyk : y ≠ [] → ∀ g, (Value.slice p2 m2 c2).ownBlock = some g → K g)
    {p' : Option Addr} {c' : Nat} (ht : CSK K W (.slice p' t.length c') t) (hl : t.length ≤ 100000) :
    ∃ pa na ca w2 pb cb w3, (Builtin.append_ #[22, 22] 22 #[.slice none 0 0, .slice (some ⟨W.heap.size, 0, none⟩) 1 1]).run Try.prog (W.alloc (.cells #[.slice p2 m2 c2] 34)) = .ok (.slice pa na ca) w2 ∧
      (Builtin.append_ #[22, 22] 22 #[.slice pa na ca, .slice p' t.length c']).run Try.prog w2 = .ok (.slice pb (y :: t).length cb) w3 ∧
      RR w K z p c w2 ∧ RR w (fun g => K g ∨ W.heap.size ≤ g) ⟨y :: t, z.bg, z.e, z.r, z.sh⟩ pb cb (w3.setCell ⟨w.heap.size, 0, none⟩ (.slice pb (y :: t).length cb)) ∧ Below W.heap.size W w3 := by
  obtain ⟨i0, hi, hz0, hz1, hz2⟩ := info_parts chunk_info0
  have b1 := below_box W (.cells #[.slice p2 m2 c2] 34)
  obtain ⟨v1, w2, r0, r1, r2⟩ := run_append_rs (W.alloc (.cells #[.slice p2 m2 c2] 34)) 22 22 34 i0 _ 1 24 Try.underlying22 hi hz0 hz1 hz2 rfl (by decide) W.heap.size (.slice none 0 0) (.slice (some ⟨W.heap.size, 0, none⟩) 1 1) 0 1 [] [.slice p2 m2 c2] (World.ownsRow_nil _ _ _ _) (chunk_one W _) (fun u hu => by simp at hu; subst hu; rfl) (by omega) (by omega) b1.size
  have b2 : Below W.heap.size W w2 := b1.grown r2 b1.size (fun k hk => by simp [Value.ownBlock] at hk)
  obtain ⟨us, t1, t2, t3⟩ := (ht.below b2).us
  obtain ⟨v2, w3, s0, s1, s2⟩ := run_append_rs w2 22 22 34 i0 _ 1 24 Try.underlying22 hi hz0 hz1 hz2 rfl (by decide) W.heap.size v1 (.slice p' t.length c') (0 + 1) t.length [.slice p2 m2 c2] us (by simpa using r1) t1 (fun u hu => by
    obtain ⟨i, hi', e⟩ := List.mem_iff_getElem.1 hu
    have hit : i < t.length := by omega
    obtain ⟨hr, _⟩ := t3 i u t[i] (by rw [List.getElem?_eq_getElem hi', e]) (List.getElem?_eq_getElem hit)
    obtain ⟨_, _, rfl, _⟩ := hr
    rfl) (by omega) (by omega) b2.size
  have b3 : Below W.heap.size W w3 := b2.grown s2 b2.size (fun k hk => (r1.lt k hk).1)
  have hwl := h.below.size
  have hsz := h.size
  have hrs := RS.of_own s1
  rw [show 0 + 1 + t.length = (y :: t).length by rw [List.length_cons]; omega] at hrs
  obtain ⟨pa, na, ca, rfl⟩ := own_slice r1
  obtain ⟨pb, cb, rfl, -⟩ := hrs.slice
  have hk3 : ∀ g, g ≠ w.heap.size → (w3.setCell ⟨w.heap.size, 0, none⟩ (.slice pb (y :: t).length cb)).heap[g]? = w3.heap[g]? := fun g hg => Below.heap_setCell _ _ _ _ hg
  have hcs : CSK (fun g => K g ∨ W.heap.size ≤ g) w3 (.slice pb (y :: t).length cb) (y :: t) := CSK.of_us hrs (by simp [t2]) (fun _ g hg => .inr (s1.lt g hg).1) fun i u x hu hx => by
    match i, hu, hx with
    | 0, hu, hx =>
      simp at hu hx
      subst hu hx
      exact ⟨hy.below b3, fun hne g hg => .inl (hyk hne g hg)⟩
    | i + 1, hu, hx =>
      simp at hu hx
      have hb32 : Below W.heap.size W w3 := b3
      obtain ⟨hr, hk⟩ := t3 i u x hu hx
      obtain ⟨us', q1, q2, q3⟩ := (ht.below b3).us
      obtain ⟨_, pp, cc, e, _, _, n4, q4⟩ := q1
      cases e
      obtain ⟨_, pp', cc', e', _, _, _, q4'⟩ := t1
      cases e'
      have hit := (List.getElem?_eq_some_iff.1 hx).1
      cases p' with
      | none =>
        exfalso
        have := n4 rfl
        have hc' : t.length ≤ c' := by obtain ⟨_, _, e, h1, _⟩ := ht.cs.slice; cases e; exact h1
        omega
      | some ad =>
        -- both worlds hold the same element
        have e1 := q4' ad rfl i u hu
        have hiu : i < us'.length := by omega
        have e2 := q4 ad rfl i _ (List.getElem?_eq_getElem hiu)
        have hblk : (ad.add i).block < W.heap.size := by
          rw [add_block]
          exact ht.cs.known.row (by intro h0; rw [h0] at hit; simp at hit) ad.block rfl
        have e3 : w2.cell? (ad.add i) = w3.cell? (ad.add i) := by rw [World.cell?_of_block (b2.block _ hblk), World.cell?_of_block (b3.block _ hblk)]
        rw [e1, e2] at e3
        cases e3
        obtain ⟨g1, g2⟩ := q3 i _ x (List.getElem?_eq_getElem hiu) hx
        exact ⟨g1, fun hne g hg => .inl (g2 hne g hg)⟩
  refine ⟨pa, na, ca, w2, pb, cb, w3, r0, s0, h.to b2, ⟨heap_set (i := 0) _ ((b3.block _ (by omega)).trans h.b0), ?_, ?_, hcs.keep fun g hg _ => hk3 g ?_, (ahead h.below b3).setCell (Nat.le_refl _) _, fun g hg => ?_⟩, b3⟩
  · exact (hk3 _ (by omega)).trans ((b3.block _ (by omega)).trans h.b1)
  · exact (hk3 _ (by omega)).trans ((b3.block _ (by omega)).trans h.b2)
  · rcases hg with hg | hg
    · exact (h.sep g hg).1
    · omega
  · rcases hg with hg | hg
    · exact h.sep g hg
    · omega
end

end Go.Proofs.YtnmjdpmfmbgoeaaRRR
