/- Timers and numbers in memory: what lists of them read as; appended; results of which one is a struct of two in a cell. -/
import Derived.Test.YtcmkdeejofoibaaRowMem
import Derived.Test.YtcmkdeejofoibaaClkMath
namespace Go.Proofs.Ytcmkdeejofoibaa
open Go.ChangeShapes Go.WideShapes Go.ChangeAt Go.RowKit
open Ck
set_option linter.unusedVariables false
set_option maxRecDepth 100000

def tmv (l : List Tm) : List Value := l.flatMap fun t => [.int .i64 t.id, .int .i64 t.due]
def iv (l : List Int) : List Value := l.map (.int .i64)
theorem tmv_len (l : List Tm) : (tmv l).length = l.length * 2 := by
  induction l with
  | nil => rfl
  | cons f l ih => unfold tmv at *; rw [List.flatMap_cons, List.length_append, ih]; simp; omega
theorem iv_len (l : List Int) : (iv l).length = l.length * 1 := by simp [iv]
theorem tmv_app (a b : List Tm) : tmv a ++ tmv b = tmv (a ++ b) := by simp [tmv]
theorem iv_app (a b : List Int) : iv a ++ iv b = iv (a ++ b) := by simp [iv]
theorem tmv_one (l : List Tm) (u : Value) (h : u ∈ tmv l) : u.oneCell' = true := by
  simp only [tmv, List.mem_flatMap] at h
  obtain ⟨b, _, hb⟩ := h
  simp at hb
  rcases hb with rfl | rfl <;> rfl
theorem iv_one (l : List Int) (u : Value) (h : u ∈ iv l) : u.oneCell' = true := by
  simp only [iv, List.mem_map] at h
  obtain ⟨b, _, rfl⟩ := h
  rfl
theorem tmv_get {l : List Tm} {i : Nat} {f : Tm} (h : l[i]? = some f) : (tmv l)[i * 2]? = some (.int .i64 f.id) ∧ (tmv l)[i * 2 + 1]? = some (.int .i64 f.due) := by
  induction l generalizing i with
  | nil => simp at h
  | cons g l ih =>
    have e : tmv (g :: l) = .int .i64 g.id :: .int .i64 g.due :: tmv l := rfl
    rw [e]
    cases i with
    | zero => simp at h; subst h; exact ⟨rfl, rfl⟩
    | succ i =>
      have := ih (i := i) (by simpa using h)
      rw [show (i + 1) * 2 = i * 2 + 2 by omega]
      exact ⟨this.1, this.2⟩
theorem iv_get {l : List Int} {i : Nat} {f : Int} (h : l[i]? = some f) : (iv l)[i]? = some (.int .i64 f) := by simp [iv, h]
def TS (W : World) (v : Value) (l : List Tm) : Prop := RS W 2 v l.length (tmv l)
def IS (W : World) (v : Value) (l : List Int) : Prop := RS W 1 v l.length (iv l)
theorem TS.below {W W' : World} {v : Value} {l : List Tm} (h : TS W v l) (hb : Below W.heap.size W W') : TS W' v l := RS.below h hb
theorem IS.below {W W' : World} {v : Value} {l : List Int} (h : IS W v l) (hb : Below W.heap.size W W') : IS W' v l := RS.below h hb
theorem TS.at {W : World} {p : Option Addr} {n c : Nat} {l : List Tm} (h : TS W (.slice p n c) l) {i : Nat} {f : Tm} (hi : l[i]? = some f) :
    n = l.length ∧ ∃ ad, p = some ad ∧ W.cell? (ad.add (i * 2)) = some (.int .i64 f.id) ∧ W.cell? ⟨(ad.add (i * 2)).block, (ad.add (i * 2)).off + 1, none⟩ = some (.int .i64 f.due) := by
  obtain ⟨h0, p', c', e, h1, h2, h3, h4⟩ := h
  cases e
  refine ⟨rfl, ?_⟩
  cases p with
  | none =>
    have := h3 rfl
    have hl := (List.getElem?_eq_some_iff.1 hi).1
    omega
  | some ad =>
    refine ⟨ad, rfl, h4 ad rfl _ _ (tmv_get hi).1, ?_⟩
    have := h4 ad rfl _ _ (tmv_get hi).2
    rw [← Addr.add_add] at this
    have e1 : (ad.add (i * 2)).add 1 = ⟨(ad.add (i * 2)).block, (ad.add (i * 2)).off + 1, none⟩ := Addr.add_succ' _ 0
    rw [e1] at this
    exact this
theorem IS.at {W : World} {p : Option Addr} {n c : Nat} {l : List Int} (h : IS W (.slice p n c) l) {i : Nat} {f : Int} (hi : l[i]? = some f) : n = l.length ∧ ∃ ad, p = some ad ∧ W.cell? (ad.add i) = some (.int .i64 f) := by
  obtain ⟨h0, p', c', e, h1, h2, h3, h4⟩ := h
  cases e
  refine ⟨rfl, ?_⟩
  cases p with
  | none =>
    have := h3 rfl
    have hl := (List.getElem?_eq_some_iff.1 hi).1
    omega
  | some ad => exact ⟨ad, rfl, h4 ad rfl _ _ (iv_get hi)⟩
theorem tm_info : (Try.prog.info? 49).map (fun i => (i.zero, i.size, i.bytes)) = some (some (.agg #[.int .i64 0, .int .i64 0]), 2, 16) := by kernel_rfl
theorem int_info : (Try.prog.info? 3).map (fun i => (i.zero, i.size, i.bytes)) = some (some (.int .i64 0), 1, 8) := by kernel_rfl
theorem run_append_tm (w : World) (ty : TypeId) (base : Nat) (v u : Value) (xs ys : List Tm) (hown : w.ownsRow base 49 2 v xs.length (tmv xs)) (hu : TS w u ys) (hb : xs.length + ys.length ≤ 1099511627776) (hbase : base ≤ w.heap.size) :
    ∃ v' w', (Builtin.append_ #[26, 26] ty #[v, u]).run Try.prog w = .ok v' w' ∧ w'.ownsRow base 49 2 v' (xs ++ ys).length (tmv (xs ++ ys)) ∧ w.grownBy w' v.ownBlock := by
  obtain ⟨i0, hi, hz0, hz1, hz2⟩ := info_parts tm_info
  obtain ⟨v', w', r0, r1, r2⟩ := run_append_rs w 26 ty 49 i0 _ 2 16 Try.underlying26 hi hz0 hz1 hz2 rfl (by decide) base v u _ _ _ _ hown hu (tmv_one ys) (by omega) (by omega) hbase
  exact ⟨v', w', r0, by rw [List.length_append, ← tmv_app]; exact r1, r2⟩
theorem run_append_iv (w : World) (ty : TypeId) (base : Nat) (v u : Value) (xs ys : List Int) (hown : w.ownsRow base 3 1 v xs.length (iv xs)) (hu : IS w u ys) (hb : xs.length + ys.length ≤ 1099511627776) (hbase : base ≤ w.heap.size) :
    ∃ v' w', (Builtin.append_ #[37, 37] ty #[v, u]).run Try.prog w = .ok v' w' ∧ w'.ownsRow base 3 1 v' (xs ++ ys).length (iv (xs ++ ys)) ∧ w.grownBy w' v.ownBlock := by
  obtain ⟨i0, hi, hz0, hz1, hz2⟩ := info_parts int_info
  obtain ⟨v', w', r0, r1, r2⟩ := run_append_rs w 37 ty 3 i0 _ 1 8 Try.underlying37 hi hz0 hz1 hz2 rfl (by decide) base v u _ _ _ _ hown hu (iv_one ys) (by omega) (by omega) hbase
  exact ⟨v', w', r0, by rw [List.length_append, ← iv_app]; exact r1, r2⟩
theorem two15 {W : World} {R : Nat} {a b : Value} {t : TypeId} (h : W.heap[R]? = some (.cells #[a, b] t (0, 0))) : (W.cell? ⟨R, 0, none⟩ = some a ∧ W.cell? ⟨R, 1, none⟩ = some b) ∧ ∀ i, W.frozen? ⟨R, i, none⟩ = false := by simp [World.cell?, World.frozen?, h]
theorem one15 {W : World} {R : Nat} {a : Value} {t : TypeId} {fr : Nat × Nat} (h : W.heap[R]? = some (.cells #[a] t fr)) : W.cell? ⟨R, 0, none⟩ = some a := by simp [World.cell?, h]
/-- A list of one, just built. -/
theorem ts_one (W : World) (f : Tm) (t : TypeId) : TS (W.alloc (.cells #[.int .i64 f.id, .int .i64 f.due] t)) (.slice (some ⟨W.heap.size, 0, none⟩) 1 1) [f] := by
  have hn := heap_alloc_new W (.cells #[.int .i64 f.id, .int .i64 f.due] t (0, 0))
  refine ⟨rfl, some ⟨W.heap.size, 0, none⟩, 1, rfl, Nat.le_refl _, by decide, (fun h => by cases h), fun ad hp i u hu => ?_⟩
  cases hp
  match i, hu with
  | 0, hu => simp only [tmv, List.flatMap_cons, List.cons_append, List.getElem?_cons_zero, Option.some.injEq] at hu; subst hu; exact (two15 hn).1.1
  | 1, hu => simp only [tmv, List.flatMap_cons, List.cons_append, List.getElem?_cons_succ, List.getElem?_cons_zero, Option.some.injEq] at hu; subst hu; exact (two15 hn).1.2
  | i + 2, hu => simp [tmv] at hu
theorem is_one (W : World) (x : Int) (t : TypeId) : IS (W.alloc (.cells #[.int .i64 x] t)) (.slice (some ⟨W.heap.size, 0, none⟩) 1 1) [x] := by
  have hn := heap_alloc_new W (.cells #[.int .i64 x] t (0, 0))
  refine ⟨rfl, some ⟨W.heap.size, 0, none⟩, 1, rfl, Nat.le_refl _, by decide, (fun h => by cases h), fun ad hp i u hu => ?_⟩
  cases hp
  match i, hu with
  | 0, hu => simp only [iv, List.map_cons, List.getElem?_cons_zero, Option.some.injEq] at hu; subst hu; exact one15 hn
  | i + 1, hu => simp [iv] at hu

theorem results_pair15 {P : Program} {fn : Func} {p u : Tmp} {ty : TypeId} (h : fn.results = #[.cell p ty, .tmp u]) (tmps : Array Value) (w : World) (g : Nat) (t : TypeId) (cs : Array Value) (fr : Nat × Nat) (d : TypeDesc)
    (hp : tmps.getD p undef = .pointer (some ⟨g, 0, none⟩)) (hg : w.heap[g]? = some (.cells cs t fr))
    (hu : P.underlying ty = some d) (hd : (match d with | .struct _ | .array _ _ => true | _ => false) = true) (hi : (P.info? ty).map (·.size) = some cs.size) :
    (results fn tmps).run P w = .ok (.tuple #[.agg cs, tmps.getD u undef]) w := by
  rw [results_cell_tmp h]
  simp [hp, asAddr, run_loadVar_row w g t ty cs fr d hg hu hd hi, Result.andThen]
theorem results_triple15 {P : Program} {fn : Func} {p u v : Tmp} {ty : TypeId} (h : fn.results = #[.cell p ty, .tmp u, .tmp v]) (tmps : Array Value) (w : World) (g : Nat) (t : TypeId) (cs : Array Value) (fr : Nat × Nat) (d : TypeDesc)
    (hp : tmps.getD p undef = .pointer (some ⟨g, 0, none⟩)) (hg : w.heap[g]? = some (.cells cs t fr))
    (hu : P.underlying ty = some d) (hd : (match d with | .struct _ | .array _ _ => true | _ => false) = true) (hi : (P.info? ty).map (·.size) = some cs.size) :
    (results fn tmps).run P w = .ok (.tuple #[.agg cs, tmps.getD u undef, tmps.getD v undef]) w := by
  have e : (results fn tmps).run P w = ((asAddr (tmps.getD p undef)).run P w).andThen fun a w₁ => ((loadVar ty a).run P w₁).andThen fun x w₂ => .ok (.tuple #[x, tmps.getD u undef, tmps.getD v undef]) w₂ := by
    simp only [results, h]
    simp [Sem.run_bind, Result.andThen]
  rw [e]
  simp [hp, asAddr, run_loadVar_row w g t ty cs fr d hg hu hd hi, Result.andThen]

end Go.Proofs.Ytcmkdeejofoibaa
