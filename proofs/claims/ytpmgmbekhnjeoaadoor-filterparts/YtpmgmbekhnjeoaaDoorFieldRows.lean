/- Lists of texts and of fields in memory: what they read as; appended; one element of them. -/
import Derived.Test.YtpmgmbekhnjeoaaDoorFieldGo
import Derived.Test.YtpmgmbekhnjeoaaDoorByteRows
import Derived.Maps.AppendAt
namespace Go.Proofs.YtpmgmbekhnjeoaaDoor
open Go.ChangeShapes Go.WideShapes Go.ChangeAt Go.RowKit
open Oc Fl
set_option linter.unusedVariables false
set_option maxRecDepth 100000

/-- Texts, and fields, as cells. -/
def tv (l : List ByteArray) : List Value := l.map .string
def fv (l : List Fld) : List Value := l.flatMap fun f => [.string f.name, .string f.value]
theorem tv_len (l : List ByteArray) : (tv l).length = l.length * 1 := by simp [tv]
theorem fv_len (l : List Fld) : (fv l).length = l.length * 2 := by
  induction l with
  | nil => rfl
  | cons f l ih => unfold fv at *; rw [List.flatMap_cons, List.length_append, ih]; simp; omega
theorem tv_app (a b : List ByteArray) : tv a ++ tv b = tv (a ++ b) := by simp [tv]
theorem fv_app (a b : List Fld) : fv a ++ fv b = fv (a ++ b) := by simp [fv]
theorem tv_one (l : List ByteArray) (u : Value) (h : u ∈ tv l) : u.oneCell' = true := by
  simp only [tv, List.mem_map] at h
  obtain ⟨b, _, rfl⟩ := h
  rfl
theorem fv_one (l : List Fld) (u : Value) (h : u ∈ fv l) : u.oneCell' = true := by
  simp only [fv, List.mem_flatMap] at h
  obtain ⟨b, _, hb⟩ := h
  simp at hb
  rcases hb with rfl | rfl <;> rfl
theorem tv_get {l : List ByteArray} {i : Nat} {s : ByteArray} (h : l[i]? = some s) : (tv l)[i]? = some (.string s) := by simp [tv, h]
theorem fv_get {l : List Fld} {i : Nat} {f : Fld} (h : l[i]? = some f) : (fv l)[i * 2]? = some (.string f.name) ∧ (fv l)[i * 2 + 1]? = some (.string f.value) := by
  induction l generalizing i with
  | nil => simp at h
  | cons g l ih =>
    have e : fv (g :: l) = .string g.name :: .string g.value :: fv l := rfl
    rw [e]
    cases i with
    | zero => simp at h; subst h; exact ⟨rfl, rfl⟩
    | succ i =>
      have := ih (i := i) (by simpa using h)
      rw [show (i + 1) * 2 = i * 2 + 2 by omega]
      exact ⟨this.1, this.2⟩
theorem tv_inj {a b : List ByteArray} (h : tv a = tv b) : a = b := by
  induction a generalizing b with
  | nil => cases b with
    | nil => rfl
    | cons => simp [tv] at h
  | cons x a ih => cases b with
    | nil => simp [tv] at h
    | cons y b =>
      simp only [tv, List.map_cons, List.cons.injEq, Value.string.injEq] at h
      rw [h.1, ih h.2]

/-- The slice v of n elements, of sz cells each, reads as xs. -/
def RS (W : World) (sz : Nat) (v : Value) (n : Nat) (xs : List Value) : Prop :=
  xs.length = n * sz ∧ ∃ p cap, v = .slice p n cap ∧ n ≤ cap ∧ cap ≤ maxLen ∧ (p = none → cap = 0) ∧ ∀ ad, p = some ad → ∀ (i : Nat) (u : Value), xs[i]? = some u → W.cell? (ad.add i) = some u
def TX (W : World) (v : Value) (l : List ByteArray) : Prop := RS W 1 v l.length (tv l)
def FS (W : World) (v : Value) (l : List Fld) : Prop := RS W 2 v l.length (fv l)

theorem add_block (ad : Addr) (i : Nat) : (ad.add i).block = ad.block := by
  cases i with
  | zero => simp [Addr.add_zero']
  | succ n => simp [Addr.add_succ']
theorem RS.keep {W W' : World} {sz : Nat} {v : Value} {n : Nat} {xs : List Value} (h : RS W sz v n xs) (hk : ∀ k, v.ownBlock = some k → k < W.heap.size → W'.heap[k]? = W.heap[k]?) : RS W' sz v n xs := by
  obtain ⟨h0, p, cap, rfl, h1, h2, h3, h4⟩ := h
  refine ⟨h0, p, cap, rfl, h1, h2, h3, fun ad hp i u hu => ?_⟩
  subst hp
  have hc := h4 ad rfl i u hu
  have hl := World.block_lt_of_cell? W _ hc
  rw [add_block] at hl
  refine (World.cell?_of_block ?_).trans hc
  rw [add_block]
  exact hk _ rfl hl
theorem RS.below {W W' : World} {sz : Nat} {v : Value} {n : Nat} {xs : List Value} (h : RS W sz v n xs) (hb : Below W.heap.size W W') : RS W' sz v n xs := h.keep fun k _ hk => hb.block k hk
theorem RS.nil (W : World) (sz : Nat) : RS W sz (.slice none 0 0) 0 [] := ⟨by simp, none, 0, rfl, Nat.le_refl _, by decide, fun _ => rfl, fun ad h => by cases h⟩
theorem RS.of_own {W : World} {base : Nat} {e : TypeId} {sz : Nat} {v : Value} {n : Nat} {xs : List Value} (h : W.ownsRow base e sz v n xs) : RS W sz v n xs := by
  have h0 := h.1
  rcases h.2 with ⟨rfl, hn⟩ | ⟨g, cap, cur, rfl, _, hh, h1, h2, h3, h4⟩
  · subst hn
    exact ⟨h0, none, 0, rfl, Nat.le_refl _, by decide, fun _ => rfl, fun ad h => by cases h⟩
  · refine ⟨h0, _, cap, rfl, h1, h2, (fun h => by cases h), fun ad hp i u hu => ?_⟩
    cases hp
    exact h.cells (g := g) rfl i _ hu
theorem TX.below {W W' : World} {v : Value} {l : List ByteArray} (h : TX W v l) (hb : Below W.heap.size W W') : TX W' v l := RS.below h hb
theorem FS.below {W W' : World} {v : Value} {l : List Fld} (h : FS W v l) (hb : Below W.heap.size W W') : FS W' v l := RS.below h hb
/-- An element of a list of texts. -/
theorem TX.at {W : World} {p : Option Addr} {n c : Nat} {l : List ByteArray} (h : TX W (.slice p n c) l) {i : Nat} {s : ByteArray} (hi : l[i]? = some s) : n = l.length ∧ ∃ ad, p = some ad ∧ W.cell? (ad.add i) = some (.string s) := by
  obtain ⟨h0, p', c', e, h1, h2, h3, h4⟩ := h
  cases e
  refine ⟨rfl, ?_⟩
  cases p with
  | none =>
    have := h3 rfl
    have hl := (List.getElem?_eq_some_iff.1 hi).1
    omega
  | some ad => exact ⟨ad, rfl, h4 ad rfl i _ (tv_get hi)⟩
theorem FS.at {W : World} {p : Option Addr} {n c : Nat} {l : List Fld} (h : FS W (.slice p n c) l) {i : Nat} {f : Fld} (hi : l[i]? = some f) :
    n = l.length ∧ ∃ ad, p = some ad ∧ W.cell? (ad.add (i * 2)) = some (.string f.name) ∧ W.cell? ⟨(ad.add (i * 2)).block, (ad.add (i * 2)).off + 1, none⟩ = some (.string f.value) := by
  obtain ⟨h0, p', c', e, h1, h2, h3, h4⟩ := h
  cases e
  refine ⟨rfl, ?_⟩
  cases p with
  | none =>
    have := h3 rfl
    have hl := (List.getElem?_eq_some_iff.1 hi).1
    omega
  | some ad =>
    refine ⟨ad, rfl, h4 ad rfl _ _ (fv_get hi).1, ?_⟩
    have := h4 ad rfl _ _ (fv_get hi).2
    rw [← Addr.add_add] at this
    have e1 : (ad.add (i * 2)).add 1 = ⟨(ad.add (i * 2)).block, (ad.add (i * 2)).off + 1, none⟩ := Addr.add_succ' _ 0
    rw [e1] at this
    exact this
theorem RS.slice {W : World} {sz : Nat} {v : Value} {n : Nat} {xs : List Value} (h : RS W sz v n xs) : ∃ p c, v = .slice p n c ∧ n ≤ c ∧ c ≤ maxLen := by
  obtain ⟨h0, p, cap, rfl, h1, h2, _⟩ := h
  exact ⟨p, cap, rfl, h1, h2⟩

theorem str_info : (Tryd.prog.info? 9).map (fun i => (i.zero, i.size, i.bytes)) = some (some (.string ⟨#[]⟩), 1, 16) := by kernel_rfl
theorem fld_info : (Tryd.prog.info? 41).map (fun i => (i.zero, i.size, i.bytes)) = some (some (.agg #[.string ⟨#[]⟩, .string ⟨#[]⟩]), 2, 32) := by kernel_rfl

/-- A list behind another, onto a row of the call's own. -/
theorem run_append_rs (w : World) (t ty e : TypeId) (i0 : TypeInfo) (z : Value) (sz bytes : Nat) (ht : Tryd.prog.underlying t = some (.slice e)) (hi : Tryd.prog.info? e = some i0) (hz0 : i0.zero = some z) (hz1 : i0.size = sz) (hz2 : i0.bytes = bytes) (hzc : z.cells.size = sz) (hsz : 0 < sz)
    (base : Nat) (v u : Value) (k m : Nat) (xs ys : List Value) (hown : w.ownsRow base e sz v k xs) (hu : RS w sz u m ys) (h1 : ∀ u ∈ ys, u.oneCell' = true) (hb : (k + m) * bytes ≤ 140737488355328) (hb2 : k + m ≤ 140737488355328) (hbase : base ≤ w.heap.size) :
    ∃ v' w', (Builtin.append_ #[t, t] ty #[v, u]).run Tryd.prog w = .ok v' w' ∧ w'.ownsRow base e sz v' (k + m) (xs ++ ys) ∧ w.grownBy w' v.ownBlock := by
  obtain ⟨hl, p, cap, rfl, q1, q2, q3, q4⟩ := hu
  cases p with
  | none =>
    have hc := q3 rfl
    obtain rfl : m = 0 := by omega
    obtain rfl : ys = [] := List.eq_nil_of_length_eq_zero (by omega)
    subst hc
    exact ⟨v, w, run_append_owned_none w base t ty e i0 sz ht hi v _ _ hown, by simpa using hown, ⟨rfl, rfl, rfl, Nat.le_refl _, fun _ _ _ => rfl⟩⟩
  | some ad =>
    obtain ⟨v', w', r0, r1, r2, _⟩ := run_append_own (P := Tryd.prog) w base t ty e i0 z sz bytes ht hi hz0 hz1 hz2 hzc hsz v k xs hown ad m cap ys hl
      (fun j u hj => q4 ad rfl j u hj) h1 (by simp only [maxLen]; omega) hb hbase
    exact ⟨v', w', r0, r1, r2⟩
theorem wpList_append_is {P : Program} {w : World} {ops : Array Oper} {rest : List Oper} {o : Oper} {a : Act} {Q : Exit → Act → World → Prop}
    (hg : o.guard = none) (s x : Operand) (t : TypeId) (hop : o.op = Op.call { callee := Callee.builtin Builtin.append, args := #[s, x], argTypes := #[t, t] })
    (v u v' : Value) (w' : World) (hs : a.eval s = v) (hx : a.eval x = u) (hrun : (Builtin.append_ #[t, t] o.type #[v, u]).run P w = .ok v' w')
    (hK : wpList P ops Q rest (a.put o.dst v') w') : wpList P ops Q (o :: rest) a w := by
  refine wpList_plain hg fun K hK' => ?_
  unfold Oper.wp
  simp [execOp, hop, resolve, invoke, builtin, hs, hx, hrun, Result.andThen]
  exact hK' _ _ hK

theorem run_append_fs (w : World) (ty : TypeId) (base : Nat) (v u : Value) (xs ys : List Fld) (hown : w.ownsRow base 41 2 v xs.length (fv xs)) (hu : FS w u ys) (hb : xs.length + ys.length ≤ 1099511627776) (hbase : base ≤ w.heap.size) :
    ∃ v' w', (Builtin.append_ #[27, 27] ty #[v, u]).run Tryd.prog w = .ok v' w' ∧ w'.ownsRow base 41 2 v' (xs ++ ys).length (fv (xs ++ ys)) ∧ w.grownBy w' v.ownBlock := by
  obtain ⟨i0, hi, hz0, hz1, hz2⟩ := info_parts fld_info
  obtain ⟨v', w', r0, r1, r2⟩ := run_append_rs w 27 ty 41 i0 _ 2 32 Tryd.underlying27 hi hz0 hz1 hz2 rfl (by decide) base v u _ _ _ _ hown hu (fv_one ys) (by omega) (by omega) hbase
  exact ⟨v', w', r0, by rw [List.length_append, ← fv_app]; exact r1, r2⟩
/-- A list of one, just built. -/
theorem tx_one (W : World) (s : ByteArray) (t : TypeId) : TX (W.alloc (.cells #[.string s] t)) (.slice (some ⟨W.heap.size, 0, none⟩) 1 1) [s] := by
  refine ⟨rfl, some ⟨W.heap.size, 0, none⟩, 1, rfl, Nat.le_refl _, by decide, (fun h => by cases h), fun ad hp i u hu => ?_⟩
  cases hp
  match i, hu with
  | 0, hu =>
    simp [tv] at hu
    subst hu
    rw [Addr.add_zero']
    rw [cell_of_row _ _ 0 #[.string s] _ _ (heap_alloc_new W _)]
    rfl
  | i + 1, hu => simp [tv] at hu
theorem fs_one (W : World) (f : Fld) (t : TypeId) : FS (W.alloc (.cells #[.string f.name, .string f.value] t)) (.slice (some ⟨W.heap.size, 0, none⟩) 1 1) [f] := by
  refine ⟨rfl, some ⟨W.heap.size, 0, none⟩, 1, rfl, Nat.le_refl _, by decide, (fun h => by cases h), fun ad hp i u hu => ?_⟩
  cases hp
  match i, hu with
  | 0, hu =>
    simp [fv] at hu
    subst hu
    rw [Addr.add_zero']
    exact (two_cells (box_cells W _ _ t)).1
  | 1, hu =>
    simp [fv] at hu
    subst hu
    rw [Addr.add_succ']
    exact (two_cells (box_cells W _ _ t)).2.1
  | i + 2, hu => simp [fv] at hu

end Go.Proofs.YtpmgmbekhnjeoaaDoor
