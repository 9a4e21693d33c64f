/- MC: ByteRows, FieldRows, FieldSame, RangeLaw, CellMem in one. -/
import Derived.Test.YtilebfpaibajcaaGreatDoorRows
import Derived.WalkKit
import Derived.ProofKit
import Derived.OpenShut
import Derived.Handy
import Derived.Lib.Hide
import Derived.Deep.DeepMust
import Derived.Maps.AppendAt
import Derived.Test.YtilebfpaibajcaaGreatDoorFieldGo
import Derived.Deep.RegionHeld3
import Derived.RangeFuncNested
import Derived.RangeFuncCalls
import Derived.Below
import Derived.OwnWalkIn
import Derived.DataElems
/- Bytes that a call gathers in a row of its own: what append and string(..) do to them. -/
namespace Go.Proofs.YtilebfpaibajcaaGreatDoor
open Go.ChangeShapes Go.WideShapes Go.ChangeAt Go.RowKit
set_option linter.unusedVariables false
set_option maxRecDepth 100000

/-- Bytes as cells. -/
def bv (l : List UInt8) : List Value := l.map fun b => .int .u8 (b.toNat : Int)
theorem bv_snoc (l : List UInt8) (b : UInt8) : bv l ++ [.int .u8 (b.toNat : Int)] = bv (l ++ [b]) := by simp [bv]
theorem bv_len (l : List UInt8) : (bv l).length = l.length := by simp [bv]
theorem conv_own (l : List UInt8) (base : Nat) (v : Value) (wx : World) (h : wx.ownsRow base 5 1 v l.length (bv l)) :
    (convert 35 9 v).run Tryz.prog wx = .ok (.string ⟨l.toArray⟩) wx := by
  rcases h.2 with ⟨rfl, hn⟩ | ⟨g, cap, cur, rfl, _, hh, _⟩
  · obtain rfl : l = [] := List.eq_nil_of_length_eq_zero hn
    exact run_convert_bytes_nil (P := Tryz.prog) wx 35 5 Tryz.underlying35 Tryz.underlying5 0 0 9 Tryz.underlying9
  · refine run_convert_bytes_back (P := Tryz.prog) wx 35 9 5 ⟨g, 0, none⟩ cap l Tryz.underlying35 Tryz.underlying5 Tryz.underlying9 (fun j hj => ?_)
    exact h.cells (g := g) rfl j _ (by simp [bv, hj])
theorem byte_info : (Tryz.prog.info? 5).map (fun i => (i.zero, i.size, i.bytes)) = some (some (.int .u8 0), 1, 1) := by kernel_rfl
theorem own_step {w wr w1 : World} {v v' : Value} {l : List UInt8} {b : UInt8} {x : Value} (hx : x = .int .u8 (b.toNat : Int)) (hB : Below w.heap.size w wr)
    (hown : wr.ownsRow w.heap.size 5 1 v l.length (bv l)) (hown' : w1.ownsRow w.heap.size 5 1 v' (l.length + 1) (bv l ++ [x])) (hg : (wr.alloc (.cells #[x] 5)).grownBy w1 v.ownBlock) :
    w1.ownsRow w.heap.size 5 1 v' (l ++ [b]).length (bv (l ++ [b])) ∧ Below w.heap.size w w1 := by
  subst hx
  refine ⟨by rw [← bv_snoc, List.length_append]; exact hown', ?_⟩
  have h1 := hB.size
  exact (hB.alloc h1 _).grown hg (by simp; omega) (fun k hk => (hown.lt k hk).1)

end Go.Proofs.YtilebfpaibajcaaGreatDoor

/- Lists of texts and of fields in memory: what they read as; appended; one element of them. -/
namespace Go.Proofs.YtilebfpaibajcaaGreatDoor
open Go.ChangeShapes Go.WideShapes Go.ChangeAt Go.RowKit
open Oc Fl
set_option linter.unusedVariables false
set_option maxRecDepth 100000

/-- Texts, and fields, as cells. -/
def tv (l : List ByteArray) : List Value := l.map .string
def fv (l : List Fld) : List Value := l.flatMap fun f => [.string f.name, .string f.value]
theorem tv_len (l : List ByteArray) : (tv l).length = l.length * 1 := by simp [tv]
theorem fv_len (l : List Fld) : (fv l).length = l.length * 2 := by
  induction l with
  | nil => rfl
  | cons f l ih => unfold fv at *; rw [List.flatMap_cons, List.length_append, ih]; simp; omega
theorem tv_app (a b : List ByteArray) : tv a ++ tv b = tv (a ++ b) := by simp [tv]
theorem fv_app (a b : List Fld) : fv a ++ fv b = fv (a ++ b) := by simp [fv]
theorem tv_one (l : List ByteArray) (u : Value) (h : u ∈ tv l) : u.oneCell' = true := by
  simp only [tv, List.mem_map] at h
  obtain ⟨b, _, rfl⟩ := h
  rfl
theorem fv_one (l : List Fld) (u : Value) (h : u ∈ fv l) : u.oneCell' = true := by
  simp only [fv, List.mem_flatMap] at h
  obtain ⟨b, _, hb⟩ := h
  simp at hb
  rcases hb with rfl | rfl <;> rfl
theorem tv_get {l : List ByteArray} {i : Nat} {s : ByteArray} (h : l[i]? = some s) : (tv l)[i]? = some (.string s) := by simp [tv, h]
theorem fv_get {l : List Fld} {i : Nat} {f : Fld} (h : l[i]? = some f) : (fv l)[i * 2]? = some (.string f.name) ∧ (fv l)[i * 2 + 1]? = some (.string f.value) := by
  induction l generalizing i with
  | nil => simp at h
  | cons g l ih =>
    have e : fv (g :: l) = .string g.name :: .string g.value :: fv l := rfl
    rw [e]
    cases i with
    | zero => simp at h; subst h; exact ⟨rfl, rfl⟩
    | succ i =>
      have := ih (i := i) (by simpa using h)
      rw [show (i + 1) * 2 = i * 2 + 2 by omega]
      exact ⟨this.1, this.2⟩
theorem tv_inj {a b : List ByteArray} (h : tv a = tv b) : a = b := by
  induction a generalizing b with
  | nil => cases b with
    | nil => rfl
    | cons => simp [tv] at h
  | cons x a ih => cases b with
    | nil => simp [tv] at h
    | cons y b =>
      simp only [tv, List.map_cons, List.cons.injEq, Value.string.injEq] at h
      rw [h.1, ih h.2]

/-- The slice v of n elements, of sz cells each, reads as xs. -/
def RS (W : World) (sz : Nat) (v : Value) (n : Nat) (xs : List Value) : Prop :=
  xs.length = n * sz ∧ ∃ p cap, v = .slice p n cap ∧ n ≤ cap ∧ cap ≤ maxLen ∧ (p = none → cap = 0) ∧ ∀ ad, p = some ad → ∀ (i : Nat) (u : Value), xs[i]? = some u → W.cell? (ad.add i) = some u
def TX (W : World) (v : Value) (l : List ByteArray) : Prop := RS W 1 v l.length (tv l)
def FS (W : World) (v : Value) (l : List Fld) : Prop := RS W 2 v l.length (fv l)

theorem add_block (ad : Addr) (i : Nat) : (ad.add i).block = ad.block := by
  cases i with
  | zero => simp [Addr.add_zero']
  | succ n => simp [Addr.add_succ']
theorem RS.keep {W W' : World} {sz : Nat} {v : Value} {n : Nat} {xs : List Value} (h : RS W sz v n xs) (hk : ∀ k, v.ownBlock = some k → k < W.heap.size → W'.heap[k]? = W.heap[k]?) : RS W' sz v n xs := by
  obtain ⟨h0, p, cap, rfl, h1, h2, h3, h4⟩ := h
  refine ⟨h0, p, cap, rfl, h1, h2, h3, fun ad hp i u hu => ?_⟩
  subst hp
  have hc := h4 ad rfl i u hu
  have hl := World.block_lt_of_cell? W _ hc
  rw [add_block] at hl
  refine (World.cell?_of_block ?_).trans hc
  rw [add_block]
  exact hk _ rfl hl
theorem RS.below {W W' : World} {sz : Nat} {v : Value} {n : Nat} {xs : List Value} (h : RS W sz v n xs) (hb : Below W.heap.size W W') : RS W' sz v n xs := h.keep fun k _ hk => hb.block k hk
theorem RS.nil (W : World) (sz : Nat) : RS W sz (.slice none 0 0) 0 [] := ⟨by simp, none, 0, rfl, Nat.le_refl _, by decide, fun _ => rfl, fun ad h => by cases h⟩
theorem RS.of_own {W : World} {base : Nat} {e : TypeId} {sz : Nat} {v : Value} {n : Nat} {xs : List Value} (h : W.ownsRow base e sz v n xs) : RS W sz v n xs := by
  have h0 := h.1
  rcases h.2 with ⟨rfl, hn⟩ | ⟨g, cap, cur, rfl, _, hh, h1, h2, h3, h4⟩
  · subst hn
    exact ⟨h0, none, 0, rfl, Nat.le_refl _, by decide, fun _ => rfl, fun ad h => by cases h⟩
  · refine ⟨h0, _, cap, rfl, h1, h2, (fun h => by cases h), fun ad hp i u hu => ?_⟩
    cases hp
    exact h.cells (g := g) rfl i _ hu
theorem TX.below {W W' : World} {v : Value} {l : List ByteArray} (h : TX W v l) (hb : Below W.heap.size W W') : TX W' v l := RS.below h hb
theorem FS.below {W W' : World} {v : Value} {l : List Fld} (h : FS W v l) (hb : Below W.heap.size W W') : FS W' v l := RS.below h hb
/-- An element of a list of texts. -/
theorem TX.at {W : World} {p : Option Addr} {n c : Nat} {l : List ByteArray} (h : TX W (.slice p n c) l) {i : Nat} {s : ByteArray} (hi : l[i]? = some s) : n = l.length ∧ ∃ ad, p = some ad ∧ W.cell? (ad.add i) = some (.string s) := by
  obtain ⟨h0, p', c', e, h1, h2, h3, h4⟩ := h
  cases e
  refine ⟨rfl, ?_⟩
  cases p with
  | none =>
    have := h3 rfl
    have hl := (List.getElem?_eq_some_iff.1 hi).1
    omega
  | some ad => exact ⟨ad, rfl, h4 ad rfl i _ (tv_get hi)⟩
theorem FS.at {W : World} {p : Option Addr} {n c : Nat} {l : List Fld} (h : FS W (.slice p n c) l) {i : Nat} {f : Fld} (hi : l[i]? = some f) :
    n = l.length ∧ ∃ ad, p = some ad ∧ W.cell? (ad.add (i * 2)) = some (.string f.name) ∧ W.cell? ⟨(ad.add (i * 2)).block, (ad.add (i * 2)).off + 1, none⟩ = some (.string f.value) := by
  obtain ⟨h0, p', c', e, h1, h2, h3, h4⟩ := h
  cases e
  refine ⟨rfl, ?_⟩
  cases p with
  | none =>
    have := h3 rfl
    have hl := (List.getElem?_eq_some_iff.1 hi).1
    omega
  | some ad =>
    refine ⟨ad, rfl, h4 ad rfl _ _ (fv_get hi).1, ?_⟩
    have := h4 ad rfl _ _ (fv_get hi).2
    rw [← Addr.add_add] at this
    have e1 : (ad.add (i * 2)).add 1 = ⟨(ad.add (i * 2)).block, (ad.add (i * 2)).off + 1, none⟩ := Addr.add_succ' _ 0
    rw [e1] at this
    exact this
theorem RS.slice {W : World} {sz : Nat} {v : Value} {n : Nat} {xs : List Value} (h : RS W sz v n xs) : ∃ p c, v = .slice p n c ∧ n ≤ c ∧ c ≤ maxLen := by
  obtain ⟨h0, p, cap, rfl, h1, h2, _⟩ := h
  exact ⟨p, cap, rfl, h1, h2⟩

theorem str_info : (Tryz.prog.info? 9).map (fun i => (i.zero, i.size, i.bytes)) = some (some (.string ⟨#[]⟩), 1, 16) := by kernel_rfl
theorem fld_info : (Tryz.prog.info? 86).map (fun i => (i.zero, i.size, i.bytes)) = some (some (.agg #[.string ⟨#[]⟩, .string ⟨#[]⟩]), 2, 32) := by kernel_rfl

/-- A list behind another, onto a row of the call's own. -/
theorem run_append_rs (w : World) (t ty e : TypeId) (i0 : TypeInfo) (z : Value) (sz bytes : Nat) (ht : Tryz.prog.underlying t = some (.slice e)) (hi : Tryz.prog.info? e = some i0) (hz0 : i0.zero = some z) (hz1 : i0.size = sz) (hz2 : i0.bytes = bytes) (hzc : z.cells.size = sz) (hsz : 0 < sz)
    (base : Nat) (v u : Value) (k m : Nat) (xs ys : List Value) (hown : w.ownsRow base e sz v k xs) (hu : RS w sz u m ys) (h1 : ∀ u ∈ ys, u.oneCell' = true) (hb : (k + m) * bytes ≤ 140737488355328) (hb2 : k + m ≤ 140737488355328) (hbase : base ≤ w.heap.size) :
    ∃ v' w', (Builtin.append_ #[t, t] ty #[v, u]).run Tryz.prog w = .ok v' w' ∧ w'.ownsRow base e sz v' (k + m) (xs ++ ys) ∧ w.grownBy w' v.ownBlock := by
  obtain ⟨hl, p, cap, rfl, q1, q2, q3, q4⟩ := hu
  cases p with
  | none =>
    have hc := q3 rfl
    obtain rfl : m = 0 := by omega
    obtain rfl : ys = [] := List.eq_nil_of_length_eq_zero (by omega)
    subst hc
    exact ⟨v, w, run_append_owned_none w base t ty e i0 sz ht hi v _ _ hown, by simpa using hown, ⟨rfl, rfl, rfl, Nat.le_refl _, fun _ _ _ => rfl⟩⟩
  | some ad =>
    obtain ⟨v', w', r0, r1, r2, _⟩ := run_append_own (P := Tryz.prog) w base t ty e i0 z sz bytes ht hi hz0 hz1 hz2 hzc hsz v k xs hown ad m cap ys hl
      (fun j u hj => q4 ad rfl j u hj) h1 (by simp only [maxLen]; omega) hb hbase
    exact ⟨v', w', r0, r1, r2⟩
theorem wpList_append_is {P : Program} {w : World} {ops : Array Oper} {rest : List Oper} {o : Oper} {a : Act} {Q : Exit → Act → World → Prop}
    (hg : o.guard = none) (s x : Operand) (t : TypeId) (hop : o.op = Op.call { callee := Callee.builtin Builtin.append, args := #[s, x], argTypes := #[t, t] })
    (v u v' : Value) (w' : World) (hs : a.eval s = v) (hx : a.eval x = u) (hrun : (Builtin.append_ #[t, t] o.type #[v, u]).run P w = .ok v' w')
    (hK : wpList P ops Q rest (a.put o.dst v') w') : wpList P ops Q (o :: rest) a w := by
  refine wpList_plain hg fun K hK' => ?_
  unfold Oper.wp
  simp [execOp, hop, resolve, invoke, builtin, hs, hx, hrun, Result.andThen]
  exact hK' _ _ hK

theorem run_append_fs (w : World) (ty : TypeId) (base : Nat) (v u : Value) (xs ys : List Fld) (hown : w.ownsRow base 86 2 v xs.length (fv xs)) (hu : FS w u ys) (hb : xs.length + ys.length ≤ 1099511627776) (hbase : base ≤ w.heap.size) :
    ∃ v' w', (Builtin.append_ #[38, 38] ty #[v, u]).run Tryz.prog w = .ok v' w' ∧ w'.ownsRow base 86 2 v' (xs ++ ys).length (fv (xs ++ ys)) ∧ w.grownBy w' v.ownBlock := by
  obtain ⟨i0, hi, hz0, hz1, hz2⟩ := info_parts fld_info
  obtain ⟨v', w', r0, r1, r2⟩ := run_append_rs w 38 ty 86 i0 _ 2 32 Tryz.underlying38 hi hz0 hz1 hz2 rfl (by decide) base v u _ _ _ _ hown hu (fv_one ys) (by omega) (by omega) hbase
  exact ⟨v', w', r0, by rw [List.length_append, ← fv_app]; exact r1, r2⟩
/-- A list of one, just built. -/
theorem tx_one (W : World) (s : ByteArray) (t : TypeId) : TX (W.alloc (.cells #[.string s] t)) (.slice (some ⟨W.heap.size, 0, none⟩) 1 1) [s] := by
  refine ⟨rfl, some ⟨W.heap.size, 0, none⟩, 1, rfl, Nat.le_refl _, by decide, (fun h => by cases h), fun ad hp i u hu => ?_⟩
  cases hp
  match i, hu with
  | 0, hu =>
    simp [tv] at hu
    subst hu
    rw [Addr.add_zero']
    rw [cell_of_row _ _ 0 #[.string s] _ _ (heap_alloc_new W _)]
    rfl
  | i + 1, hu => simp [tv] at hu
theorem fs_one (W : World) (f : Fld) (t : TypeId) : FS (W.alloc (.cells #[.string f.name, .string f.value] t)) (.slice (some ⟨W.heap.size, 0, none⟩) 1 1) [f] := by
  refine ⟨rfl, some ⟨W.heap.size, 0, none⟩, 1, rfl, Nat.le_refl _, by decide, (fun h => by cases h), fun ad hp i u hu => ?_⟩
  cases hp
  match i, hu with
  | 0, hu =>
    simp [fv] at hu
    subst hu
    rw [Addr.add_zero']
    exact (two_cells (box_cells W _ _ t)).1
  | 1, hu =>
    simp [fv] at hu
    subst hu
    rw [Addr.add_succ']
    exact (two_cells (box_cells W _ _ t)).2.1
  | i + 2, hu => simp [fv] at hu

end Go.Proofs.YtilebfpaibajcaaGreatDoor

/- What the document's Fields and Great answer; fields that a call gathers. -/
namespace Go.Proofs.YtilebfpaibajcaaGreatDoor
open Go.ChangeShapes Go.WideShapes Go.ChangeAt Go.RowKit
open Oc Fl
set_option linter.unusedVariables false
set_option maxRecDepth 100000

theorem cell_below {W W' : World} {a : Addr} {x : Value} (h : W.cell? a = some x) (hb : Below W.heap.size W W') : W'.cell? a = some x := by
  rw [hb.cell (World.block_lt_of_cell? W _ h)]; exact h

theorem below_drewN {B : Nat} {w W : World} (h : Below B w W) (n : Nat) : Below B w (W.drewN n) := ⟨h.os, h.tape, h.output, h.size, h.block⟩
theorem take_same {α : Type} {a b : List α} {k : Nat} {x : α} (h : a.take k = b.take k) (ha : a[k]? = some x) (hb : b[k]? = some x) : a.take (k + 1) = b.take (k + 1) := by
  rw [List.take_add_one, List.take_add_one, h, ha, hb]

/-- What a call has gathered so far: fields. -/
structure ToldF (w wr : World) (v : Value) (xs : List Fld) : Prop where
  own : wr.ownsRow w.heap.size 86 2 v xs.length (fv xs)
  below : Below w.heap.size w wr
theorem ToldF.next {w wr w' : World} {v : Value} {xs : List Fld} (h : ToldF w wr v xs) (hb : Below wr.heap.size wr w') : ToldF w w' v xs := by
  refine ⟨?_, ahead h.below hb⟩
  refine ⟨h.own.1, ?_⟩
  rcases h.own.2 with h' | ⟨g, cap, cur, rfl, hb', hh, rest⟩
  · exact .inl h'
  · exact .inr ⟨g, cap, cur, rfl, hb', (hb.block g (Array.getElem?_eq_some_iff.1 hh).1).trans hh, rest⟩
theorem ToldF.more {w wr : World} {v : Value} {xs : List Fld} (h : ToldF w wr v xs) (f : Fld) (ty : TypeId) (hl : xs.length ≤ 1000000) :
    ∃ v' w', (Builtin.append_ #[38, 38] ty #[v, .slice (some ⟨wr.heap.size, 0, none⟩) 1 1]).run Tryz.prog (wr.alloc (.cells #[.string f.name, .string f.value] 86)) = .ok v' w' ∧ ToldF w w' v' (xs ++ [f]) := by
  have h1 := h.next (below_box wr (.cells #[.string f.name, .string f.value] 86))
  have hz := h1.below.size
  obtain ⟨v', w', r0, r1, r2⟩ := run_append_fs (wr.alloc (.cells #[.string f.name, .string f.value] 86)) ty w.heap.size v _ xs [f] h1.own (fs_one wr f _) (by simp; omega) (by omega)
  exact ⟨v', w', r0, r1, h1.below.grown r2 hz (fun k hk => (h1.own.lt k hk).1)⟩

theorem bulk_succ {l : List Fld} {k : Nat} {f : Fld} (h : l[k]? = some f) : bulk (l.take (k + 1)) = bulk (l.take k) + f.name.size + f.value.size + 1 := by
  rw [List.take_add_one, h]
  simp only [Option.toList_some]
  rw [bulk_snoc]
  omega

set_option maxHeartbeats 2000000 in
theorem great_any (l : List Fld) (p : Option Addr) (c : Nat) (w : World) (hF : FS w (.slice p l.length c) l) (hl : l.length ≤ 140737488355328) (hfs : ∀ f ∈ l, f.name.size ≤ 140737488355328 ∧ f.value.size ≤ 140737488355328) :
    Calls Tryz.prog 23 #[.slice p l.length c] w fun e w' => e = .returned (.bool (decide (2000 < bulk l))) ∧ Below w.heap.size w w' := by
  have HF := Lib.hid hF
  have HFS := Lib.hid hfs
  clear hF hfs
  go_enter Tryz.func23, Tryz.ntmps23
  go_wp2_with fail
  go_loopw [3, 4] (fun s i wr => ∃ (k : Nat), k ≤ l.length ∧ i = .int .i64 k ∧ s = .int .i64 (bulk (l.take k) : Nat) ∧ bulk (l.take k) ≤ 281474976713000 ∧ Below w.heap.size w wr) (fun _ i _ => l.length - (intOf i).toNat)
  case atStart => exact ⟨0, Nat.zero_le _, rfl, rfl, by simp [bulk], Below.refl _ _⟩
  case round =>
    obtain ⟨k, hk, rfl, rfl, hbk, hT⟩ := hrel
    have HT := Lib.hid hT
    clear hT
    have hbl := bulk_take l k
    by_cases hlt : k < l.length
    · by_cases h2 : (2000 : Int) < (bulk (l.take k) : Int)
      · have HR := Lib.hid (show decide (2000 < bulk l) = true from decide_eq_true (by omega))
        have h2' : ¬ (bulk (l.take k) : Int) ≤ 2000 := by omega
        clear hbl
        generalize bulk (l.take k) = N at *
        go_wp2_with fail
        go_ret
        exact ⟨ret_bool (by rw [HR.out]), HT.out⟩
      · obtain ⟨f, hf⟩ : ∃ f, l[k]? = some f := ⟨_, List.getElem?_eq_getElem hlt⟩
        obtain ⟨-, ad, rfl, c0, c1⟩ := ((HF.out).below HT.out).at hf
        have hfz := HFS.out f (List.mem_of_getElem? hf)
        have HB := Lib.hid (bulk_succ hf)
        clear hf hbl
        obtain ⟨x, y⟩ := f
        simp only at hfz c0 c1 HB
        obtain ⟨z1, z2⟩ := hfz
        have h2' : (bulk (l.take k) : Int) ≤ 2000 := by omega
        generalize hN' : bulk (l.take (k + 1)) = N' at HB
        have HN' := Lib.hid hN'
        clear hN'
        generalize bulk (l.take k) = N at *
        have k1 : (0 : Int) ≤ (k : Int) := by omega
        have k2 : (k : Int) < (l.length : Int) := by omega
        have hbN : N' ≤ 281474976713000 := by have := HB.out; omega
        go_wp2_with fail
        have e1 : IntKind.i64.wrap ((N : Int) + (x.size : Int)) = (N : Int) + (x.size : Int) := IntWalk.i64_in _ (by omega)
        have e2 : IntKind.i64.wrap ((N : Int) + (x.size : Int) + (y.size : Int)) = (N : Int) + (x.size : Int) + (y.size : Int) := IntWalk.i64_in _ (by omega)
        have e3 : IntKind.i64.wrap ((N : Int) + (x.size : Int) + (y.size : Int) + 1) = (N : Int) + (x.size : Int) + (y.size : Int) + 1 := IntWalk.i64_in _ (by omega)
        go_quiet (fail)
        clear e1 e2 e3
        go_wp2_with fail
        go_roundw
        case rel => exact ⟨k + 1, by omega, by go_num, by congr 1; have := HB.out; have := HN'.out; omega, by have := HN'.out; omega, by first | exact below_drewN HT.out _ | exact HT.out.drew⟩
        case measure => simp [intOf]; omega
    · obtain rfl : k = l.length := by omega
      rw [List.take_length] at *
      generalize hN : bulk l = N at *
      have HN := Lib.hid hN
      clear hN
      go_wp2_with fail
      go_ret
      exact ⟨ret_bool (by have := HN.out; simp; omega), HT.out⟩

end Go.Proofs.YtilebfpaibajcaaGreatDoor

/- A range over a function, for iterators of which it is known what they hand over: a law for the loop, and one for the way out of a function that holds such a loop. Over whatever program. -/
namespace Go.Proofs.YtilebfpaibajcaaGreatDoor
open Go.RowKit
set_option linter.unusedVariables false
set_option maxRecDepth 100000

/-- All but the blocks D and D + 1 lies as it lay. -/
structure But (D : Nat) (A B : World) : Prop where
  os : B.os = A.os
  tape : B.tape = A.tape
  output : B.output = A.output
  size : A.heap.size ≤ B.heap.size
  block : ∀ k, k < A.heap.size → k ≠ D → k ≠ D + 1 → B.heap[k]? = A.heap[k]?
theorem But.of_below {D : Nat} {A B : World} (h : Below A.heap.size A B) : But D A B := ⟨h.os, h.tape, h.output, h.size, fun k hk _ _ => h.block k hk⟩
theorem But.putObj (D : Nat) (A : World) {r : Nat} (hr : r = D ∨ r = D + 1) (o : Obj) : But D A (A.putObj r o) :=
  ⟨rfl, rfl, rfl, by simp, fun k _ h0 h1 => World.putObj_heap_other (by omega)⟩
theorem But.alloc (D : Nat) (A : World) (o : Obj) : But D A (A.alloc o) := But.of_below ((Below.refl _ A).alloc (Nat.le_refl _) _)
theorem But.below {D n : Nat} {w A B : World} (h : But D A B) (hb : Below n w A) (hn : n ≤ D) (hs : n ≤ A.heap.size) : Below n w B :=
  hb.trans ⟨h.os, h.tape, h.output, h.size, fun k hk => h.block k (by omega) (by omega) (by omega)⟩
theorem But.heap {D k : Nat} {A B : World} {o : Obj} (h : But D A B) (ho : A.heap[k]? = some o) (h0 : k ≠ D) (h1 : k ≠ D + 1) : B.heap[k]? = some o :=
  (h.block k (Array.getElem?_eq_some_iff.1 ho).1 h0 h1).trans ho
theorem But.cell {D : Nat} {p : Addr} {A B : World} {v : Value} (h : But D A B) (hv : A.cell? p = some v) (h0 : p.block ≠ D) (h1 : p.block ≠ D + 1) : B.cell? p = some v :=
  (World.cell?_of_block (h.block p.block (World.block_lt_of_cell? A p hv) h0 h1)).trans hv

/-- What a round leaves as it lay: the loop's own two blocks; and, where the iterator asks it ('up'), all that lies from them on. -/
structure Held (D : Nat) (up : Prop) (A B : World) : Prop where
  size : A.heap.size ≤ B.heap.size
  d0 : B.heap[D]? = A.heap[D]?
  d1 : B.heap[D + 1]? = A.heap[D + 1]?
  high : up → ∀ r, D ≤ r → r < A.heap.size → B.heap[r]? = A.heap[r]?
theorem Held.refl (D : Nat) (up : Prop) (A : World) : Held D up A A := ⟨Nat.le_refl _, rfl, rfl, fun _ _ _ _ => rfl⟩
theorem Held.trans {D : Nat} {up : Prop} {A B C : World} (h : Held D up A B) (g : Held D up B C) : Held D up A C :=
  ⟨Nat.le_trans h.size g.size, g.d0.trans h.d0, g.d1.trans h.d1, fun u r h0 h1 => (g.high u r h0 (Nat.lt_of_lt_of_le h1 h.size)).trans (h.high u r h0 h1)⟩
theorem Held.of_below {D : Nat} {up : Prop} {A B : World} (hD : D + 1 < A.heap.size) (h : Below A.heap.size A B) : Held D up A B :=
  ⟨h.size, h.block _ (by omega), h.block _ hD, fun _ r _ hr => h.block r hr⟩
theorem Held.setCell {D : Nat} {up : Prop} (A : World) {p : Addr} (hp : p.block ≠ D) (hp1 : p.block ≠ D + 1) (hu : up → p.block < D) (v : Value) : Held D up A (A.setCell p v) :=
  ⟨by simp [World.setCell], Below.heap_setCell _ _ _ _ (Ne.symm hp), Below.heap_setCell _ _ _ _ (Ne.symm hp1), fun u r h0 _ => Below.heap_setCell _ _ _ _ (by have := hu u; omega)⟩
theorem Held.drew {D : Nat} {up : Prop} (A : World) : Held D up A A.drew := ⟨Nat.le_refl _, rfl, rfl, fun _ _ _ _ => rfl⟩
theorem Held.grown {D : Nat} {up : Prop} {A B : World} {row : Option Nat} (hg : A.grownBy B row) (hD : D + 1 < A.heap.size) (h0 : row ≠ some D) (h1 : row ≠ some (D + 1)) (hu : up → ∀ k, row = some k → k < D) : Held D up A B :=
  ⟨hg.size, hg.block _ (by omega) (Ne.symm h0), hg.block _ hD (Ne.symm h1), fun u r hr hr' => hg.block r hr' (fun e => by have := hu u r e.symm; omega)⟩

/-- An iterator that hands over xs, one by one, while the rounds go on. St: what it reads of the memory that lay; up: it leans on memory of its own between two rounds. -/
def Seq (P : Program) (g : Nat) (lb : Array Value) (xs : List (Array Value)) (St : World → Prop) (up : Prop) : Prop :=
  ∀ (l : Nat) (J Jx : Nat → World → Prop) (W : World),
    (∀ k A B, J k A → Below A.heap.size A B → J k B) → (∀ k A B, Jx k A → Below A.heap.size A B → Jx k B) → (∀ k A, J k A → St A) →
    (∀ k A x, J k A → W.heap.size ≤ A.heap.size → xs[k]? = some x → YieldAt Fence.wide 0 P l x A fun e B =>
      (e = .returned (.bool true) ∧ J (k + 1) B ∧ A.heap.size ≤ B.heap.size ∧ (up → ∀ r, W.heap.size ≤ r → r < A.heap.size → B.heap[r]? = A.heap[r]?)) ∨ (e = .returned (.bool false) ∧ Jx (k + 1) B)) →
    J 0 W →
    CallsIn Fence.wide 0 P g (#[.func (.yield l) #[] #[]] ++ lb) W fun e B => (∃ v, e = .returned v) ∧ (J xs.length B ∨ ∃ k, k ≤ xs.length ∧ Jx k B)

/-- How a round's body is left. -/
def roundLeft (D : Nat) (up : Prop) (I : World → Prop) (Ix : Code → World → Prop) (W : World) : Exit → Act → World → Prop
  | .normal, _, W' => Held D up W W' ∧ I W'
  | .ret, _, W' => Held D False W W' ∧ Ix .ret W'
  | .exit id, _, W' => Held D False W W' ∧ Ix (.exit id) W'
  | .goto t, _, W' => Held D False W W' ∧ Ix (.goto t) W'
  | .panic _, _, _ => False
  | .outgrown, _, _ => False

/-- The loop. -/
theorem wpIn_rangeR {P : Program} {g : Operand} {ps : Array Tmp} {assign body : Code} {Q : Exit → Act → World → Prop} {a : Act} {w : World}
    {gf : Nat} {lb : Array Value} (hg : a.eval g = .func (.func gf) #[] lb) (eg : ∀ args w, (callFunc gf args).run P w = .ok (.enter gf args) w)
    {xs : List (Array Value)} {St : World → Prop} {up : Prop} (hseq : Seq P gf lb xs St up) (hps : ∀ (k : Nat) (x : Array Value), xs[k]? = some x → x.size = ps.size)
    (I : Nat → World → Prop) (Ix : Code → Nat → World → Prop)
    (hI : ∀ k A B, I k A → But w.heap.size A B → I k B) (hIx : ∀ c k A B, Ix c k A → But w.heap.size A B → Ix c k B) (hSt : ∀ k A, I k A → St A)
    (h0 : I 0 w)
    (hround : ∀ (k : Nat) (x : Array Value) (W : World), xs[k]? = some x → I k W → w.heap.size + 1 < W.heap.size →
      assign.wpIn (Fence.wide.inRound (w.heap.size + 1)) 0 P (Exit.then (fun a' W' => W' = W ∧ ∀ W2, I k W2 → w.heap.size + 1 < W2.heap.size →
        body.wpIn (Fence.wide.inRound (w.heap.size + 1)) 0 P (roundLeft w.heap.size up (I (k + 1)) (fun c => Ix c (k + 1)) W2) a' W2) (fun _ _ _ => False)) { tmps := (ps.zip x).foldl (fun t (p, v) => t.setIfInBounds p v) a.tmps, defers := [] } W)
    (hdone : ∀ (W : World), I xs.length W → W.heap[w.heap.size]? = some (.deferred (some [])) → Q .normal { a with defers := { target := .collected w.heap.size, args := #[] } :: a.defers } W)
    (hstop : ∀ (c : Code) (k : Nat) (W : World), k ≤ xs.length → Ix c k W → W.heap[w.heap.size]? = some (.deferred (some [])) → c.wpIn Fence.wide 0 P Q { a with defers := { target := .collected w.heap.size, args := #[] } :: a.defers } W) :
    (Code.rangeFunc g ps assign body).wpIn Fence.wide 0 P Q a w := by
  refine wpIn_rangeFunc ?_
  intro fn _
  obtain ⟨D, hD⟩ : ∃ D, D = w.heap.size := ⟨_, rfl⟩
  rw [← hD] at hI hIx hround hdone hstop
  obtain ⟨rec, hrec⟩ : ∃ rec : LoopState → Option Code → Loop, rec = fun st pe => { state := st, pending := pe, fn, tmps := a.tmps, params := ps, assign, body, defers := D } := ⟨_, rfl⟩
  obtain ⟨W1, hW1⟩ : ∃ W1, (w.alloc (.deferred (some []))).alloc (.loop (rec .ready none)) = W1 := ⟨_, rfl⟩
  have hs1 : W1.heap.size = D + 2 := by rw [← hW1, hD]; simp
  have hL1 : W1.heap[D + 1]? = some (.loop (rec .ready none)) := by
    have := World.alloc_heap_new (w.alloc (.deferred (some []))) (.loop (rec .ready none)); rwa [World.size_alloc, ← hD, hW1] at this
  have hK1 : W1.heap[D]? = some (.deferred (some [])) := by
    rw [← hW1]; exact (Below.heap_alloc _ _ _ (by simp; omega)).trans (by rw [hD]; exact World.alloc_heap_new w _)
  have hI1 : I 0 W1 := by rw [← hW1]; exact hI _ _ _ (hI _ _ _ h0 (But.alloc _ _ _)) (But.alloc _ _ _)
  refine ⟨D + 1, [{ target := .collected D, args := #[] }], W1, { target := .fn (.func gf) lb, args := #[.func (.yield (D + 1)) #[] #[]] }, W1, gf,
    #[.func (.yield (D + 1)) #[] #[]] ++ lb, W1, ?_, ?_, fun _ _ => trivial, ?_, fun h => by simp [Fence.wide] at h, ?_⟩
  · rw [← hW1, hrec, hD]; exact run_enterLoop_outer _ _ _ _ _
  · simp only [resolve, hg]
    simp [go_sem]
  · simp [invoke, go_sem, eg]
  · have e1 : ∀ st pe, (rec st pe).state = st := fun st pe => by rw [hrec]
    have e2 : ∀ st pe st', ({ rec st pe with state := st' } : Loop) = rec st' pe := fun st pe st' => by rw [hrec]
    have e3 : ∀ st pe st' pe', ({ rec st pe with state := st', pending := pe' } : Loop) = rec st' pe' := fun st pe st' pe' => by rw [hrec]
    have e4 : ∀ st pe, (rec st pe).pending = pe := fun st pe => by rw [hrec]
    refine (hseq (D + 1)
      (fun k W => I k W ∧ W.heap[D + 1]? = some (.loop (rec .ready none)) ∧ W.heap[D]? = some (.deferred (some [])))
      (fun k W => ∃ c, Ix c k W ∧ W.heap[D + 1]? = some (.loop (rec .done (some c))) ∧ W.heap[D]? = some (.deferred (some [])))
      W1
      (fun k A B ⟨h1, h2, h3⟩ hb => ⟨hI k A B h1 (But.of_below hb), (hb.block _ (Array.getElem?_eq_some_iff.1 h2).1).trans h2, (hb.block _ (Array.getElem?_eq_some_iff.1 h3).1).trans h3⟩)
      (fun k A B ⟨c, h1, h2, h3⟩ hb => ⟨c, hIx c k A B h1 (But.of_below hb), (hb.block _ (Array.getElem?_eq_some_iff.1 h2).1).trans h2, (hb.block _ (Array.getElem?_eq_some_iff.1 h3).1).trans h3⟩)
      (fun k A h => hSt k A h.1) ?_ ⟨hI1, hL1, hK1⟩).mono ?_
    · rintro k W x ⟨hi, hl, hk⟩ hsz hx
      have hlt : D + 1 < W.heap.size := (Array.getElem?_eq_some_iff.1 hl).1
      have hkl : k < xs.length := (List.getElem?_eq_some_iff.1 hx).1
      have hy := run_yield (P := P) (args := x) hl (by rw [hrec]; exact hps k x hx)
      have hy' : (Instr.yield (D + 1) x).run P W = .ok (.round (D + 1) fn ((ps.zip x).foldl (fun tmps (t, a) => tmps.setIfInBounds t a) a.tmps) assign body) W := by rw [hy, hrec]
      refine ⟨fn, _, assign, body, hy', roundIn_of_wpIn trivial (wpIn_mono (hround k x W hx hi hlt) ?_)⟩
      rintro e0 a0 W0 h0e
      cases e0
      case normal =>
       obtain ⟨rfl, hbody⟩ := h0e
       refine ⟨_, run_beginRound hl (e1 _ _), ?_⟩
       rw [e2]
       obtain ⟨W2, hW2⟩ : ∃ W2, W0.putObj (D + 1) (.loop (rec .busy none)) = W2 := ⟨_, rfl⟩
       have hs2 : W2.heap.size = W0.heap.size := by rw [← hW2]; simp
       have hl2 : W2.heap[D + 1]? = some (.loop (rec .busy none)) := by rw [← hW2]; exact World.putObj_heap_same hlt
       have hk2 : W2.heap[D]? = some (.deferred (some [])) := by rw [← hW2]; exact (World.putObj_heap_other (by omega)).trans hk
       have hi2 : I k W2 := by rw [← hW2]; exact hI _ _ _ hi (But.putObj _ _ (.inr rfl) _)
       have ho2 : ∀ r, D + 2 ≤ r → W2.heap[r]? = W0.heap[r]? := fun r hr => by rw [← hW2]; exact World.putObj_heap_other (by omega)
       rw [hW2]
       refine wpIn_mono (hbody W2 hi2 (by omega)) ?_
       have fin : ∀ (jump : Option Code) (W3 : World), Held D False W2 W3 →
           (Instr.endRound (D + 1) jump).run P W3 = .ok (.bool jump.isNone) (W3.putObj (D + 1) (.loop (rec (if jump.isNone then .ready else .done) jump))) ∧
           (W3.putObj (D + 1) (.loop (rec (if jump.isNone then .ready else .done) jump))).heap[D + 1]? = some (.loop (rec (if jump.isNone then .ready else .done) jump)) ∧
           (W3.putObj (D + 1) (.loop (rec (if jump.isNone then .ready else .done) jump))).heap[D]? = some (.deferred (some [])) := fun jump W3 hk3 => by
         have hl3 := hk3.d1.trans hl2
         have := run_endRound (P := P) jump hl3
         rw [e3] at this
         exact ⟨this, World.putObj_heap_same (Array.getElem?_eq_some_iff.1 hl3).1, (World.putObj_heap_other (by omega)).trans (hk3.d0.trans hk2)⟩
       rintro e a3 W3 hp
       cases e with
       | normal =>
         obtain ⟨hk3, hi3⟩ := hp
         obtain ⟨hr, hl4, hk4⟩ := fin none W3 ⟨hk3.size, hk3.d0, hk3.d1, fun h => h.elim⟩
         refine ⟨_, _, hr, .inl ⟨rfl, ⟨hI _ _ _ hi3 (But.putObj _ _ (.inr rfl) _), hl4, hk4⟩, by have := hk3.size; simp; omega, fun hu r h0 h1 => ?_⟩⟩
         rw [hs1] at h0
         exact (World.putObj_heap_other (by omega)).trans ((hk3.high hu r (by omega) (by omega)).trans (ho2 r h0))
       | ret =>
         obtain ⟨hk3, hi3⟩ := hp
         obtain ⟨hr, hl4, hk4⟩ := fin (some .ret) W3 hk3
         exact ⟨_, _, hr, .inr ⟨rfl, .ret, hIx _ _ _ _ hi3 (But.putObj _ _ (.inr rfl) _), hl4, hk4⟩⟩
       | exit id =>
         obtain ⟨hk3, hi3⟩ := hp
         obtain ⟨hr, hl4, hk4⟩ := fin (some (.exit id)) W3 hk3
         exact ⟨_, _, hr, .inr ⟨rfl, .exit id, hIx _ _ _ _ hi3 (But.putObj _ _ (.inr rfl) _), hl4, hk4⟩⟩
       | goto t =>
         obtain ⟨hk3, hi3⟩ := hp
         obtain ⟨hr, hl4, hk4⟩ := fin (some (.goto t)) W3 hk3
         exact ⟨_, _, hr, .inr ⟨rfl, .goto t, hIx _ _ _ _ hi3 (But.putObj _ _ (.inr rfl) _), hl4, hk4⟩⟩
       | panic ch => exact hp.elim
       | outgrown => exact hp.elim
      all_goals exact h0e.elim
    · rintro e W2 ⟨⟨v, rfl⟩, (⟨hi, hl, hk⟩ | ⟨k, hkl, c, hi, hl, hk⟩)⟩
      · have := run_endLoop (P := P) hl (by rw [e1]; simp)
        rw [e2, e4] at this
        exact ⟨none, _, this, hdone _ (hI _ _ _ hi (But.putObj _ _ (.inr rfl) _)) ((World.putObj_heap_other (by omega)).trans hk)⟩
      · have := run_endLoop (P := P) hl (by rw [e1]; simp)
        rw [e2, e4] at this
        exact ⟨some c, _, this, hstop _ k _ hkl (hIx _ _ _ _ hi (But.putObj _ _ (.inr rfl) _)) ((World.putObj_heap_other (by omega)).trans hk)⟩

/-- The loop, where the frame behind the assignment is given. -/
theorem wpIn_range {P : Program} {g : Operand} {ps : Array Tmp} {assign body : Code} {Q : Exit → Act → World → Prop} {a : Act} {w : World}
    {gf : Nat} {lb : Array Value} (hg : a.eval g = .func (.func gf) #[] lb) (eg : ∀ args w, (callFunc gf args).run P w = .ok (.enter gf args) w)
    {xs : List (Array Value)} {St : World → Prop} {up : Prop} (hseq : Seq P gf lb xs St up) (hps : ∀ (k : Nat) (x : Array Value), xs[k]? = some x → x.size = ps.size)
    (I : Nat → World → Prop) (Ix : Code → Nat → World → Prop)
    (hI : ∀ k A B, I k A → But w.heap.size A B → I k B) (hIx : ∀ c k A B, Ix c k A → But w.heap.size A B → Ix c k B) (hSt : ∀ k A, I k A → St A)
    (h0 : I 0 w) (a₁ : Nat → Act)
    (hassign : ∀ (k : Nat) (x : Array Value) (W : World) (K : Act → World → Prop), xs[k]? = some x → K (a₁ k) W →
      assign.wpIn (Fence.wide.inRound (w.heap.size + 1)) 0 P (Exit.then K (fun _ _ _ => False)) { tmps := (ps.zip x).foldl (fun t (p, v) => t.setIfInBounds p v) a.tmps, defers := [] } W)
    (hbody : ∀ (k : Nat) (W : World), I k W → k < xs.length → w.heap.size + 1 < W.heap.size → body.wpIn (Fence.wide.inRound (w.heap.size + 1)) 0 P (roundLeft w.heap.size up (I (k + 1)) (fun c => Ix c (k + 1)) W) (a₁ k) W)
    (hdone : ∀ (W : World), I xs.length W → W.heap[w.heap.size]? = some (.deferred (some [])) → Q .normal { a with defers := { target := .collected w.heap.size, args := #[] } :: a.defers } W)
    (hstop : ∀ (c : Code) (k : Nat) (W : World), k ≤ xs.length → Ix c k W → W.heap[w.heap.size]? = some (.deferred (some [])) → c.wpIn Fence.wide 0 P Q { a with defers := { target := .collected w.heap.size, args := #[] } :: a.defers } W) :
    (Code.rangeFunc g ps assign body).wpIn Fence.wide 0 P Q a w := by
  exact wpIn_rangeR hg eg hseq hps I Ix hI hIx hSt h0 (fun k x W hx hi hlt => hassign k x W _ hx ⟨rfl, fun W2 hi2 hlt2 => hbody k W2 hi2 (List.getElem?_eq_some_iff.1 hx).1 hlt2⟩) hdone hstop

/-- A function that holds such a loop, from its body. -/
theorem calls_of_marks {P : Program} {f : FuncId} {fn : Func} {c : Code} {args : Array Value} {w : World} {R : Ending → World → Prop}
    (hf : P.funcs[f]? = some fn) (hb : fn.body = some c)
    (h : c.wp P (bodyPostM Fence.wide 0 P fn R) { tmps := args ++ Array.replicate (fn.ntmps - args.size) undef, defers := [] } w) : Calls P f args w R :=
  (callsIn_wide (n := 0)).1 (callsIn_of_wp_marks hf hb trivial (wpIn_wide.2 h))

/-- The way out of such a function. -/
theorem left_mark {P : Program} {fn : Func} {R : Ending → World → Prop} {a : Act} {W : World} {D : Nat} {v : Value} (hd : a.defers = [{ target := .collected D, args := #[] }]) (hD : W.heap[D]? = some (.deferred (some [])))
    (hr : (results fn a.tmps).run P (W.putObj D (.deferred none)) = .ok v (W.putObj D (.deferred none))) (hR : R (.returned v) (W.putObj D (.deferred none))) {e : Exit} (he : e = .ret ∨ e = .normal) : bodyPostM Fence.wide 0 P fn R e a W := by
  have key : LeavesInM Fence.wide 0 P fn a.tmps R a.defers .returning W := by
    rw [hd]
    exact ⟨by simp, .inl ⟨D, _, rfl, run_takeDeferred hD, v, hr, hR⟩⟩
  rcases he with rfl | rfl <;> exact key

theorem left_plain {P : Program} {fn : Func} {R : Ending → World → Prop} {a : Act} {W : World} {v : Value} (hd : a.defers = []) (hr : (results fn a.tmps).run P W = .ok v W) (hR : R (.returned v) W) {e : Exit} (he : e = .ret ∨ e = .normal) : bodyPostM Fence.wide 0 P fn R e a W := by
  have key : LeavesInM Fence.wide 0 P fn a.tmps R a.defers .returning W := by
    rw [hd]
    exact ⟨v, hr, hR⟩
  rcases he with rfl | rfl <;> exact key

theorem wp_range {P : Program} {c : Code} {Q : Exit → Act → World → Prop} {a : Act} {w : World} (h : c.wpIn Fence.wide 0 P Q a w) : c.wp P Q a w := wpIn_wide.1 h

end Go.Proofs.YtilebfpaibajcaaGreatDoor

/- Blocks of one cell, rows of the call's own, and an append whose run is known: of no program. -/
namespace Go.Proofs.YtilebfpaibajcaaGreatDoor
open Go.RowKit
set_option linter.unusedVariables false
set_option maxRecDepth 100000

/-- An append whose run is known, as a step of a walk. -/
theorem wpList_append_run {P : Program} {w : World} {ops : Array Oper} {rest : List Oper} {o : Oper} {a : Act} {Q : Exit → Act → World → Prop}
    (hg : o.guard = none) (s x : Operand) (t : TypeId) (hop : o.op = Op.call { callee := Callee.builtin Builtin.append, args := #[s, x], argTypes := #[t, t] })
    (v u v' : Value) (w' : World) (hs : a.eval s = v) (hx : a.eval x = u) (hrun : (Builtin.append_ #[t, t] o.type #[v, u]).run P w = .ok v' w')
    (hK : wpList P ops Q rest (a.put o.dst v') w') : wpList P ops Q (o :: rest) a w := by
  refine wpList_plain hg fun K hK' => ?_
  unfold Oper.wp
  simp [execOp, hop, resolve, invoke, builtin, hs, hx, hrun, Result.andThen]
  exact hK' _ _ hK
theorem wpListIn_append_run {F : Fence} {n : Nat} {P : Program} {w : World} {ops : Array Oper} {rest : List Oper} {o : Oper} {a : Act} {Q : Exit → Act → World → Prop}
    (hg : o.guard = none) (s x : Operand) (t : TypeId) (hop : o.op = Op.call { callee := Callee.builtin Builtin.append, args := #[s, x], argTypes := #[t, t] })
    (v u v' : Value) (w' : World) (hs : a.eval s = v) (hx : a.eval x = u) (hrun : (Builtin.append_ #[t, t] o.type #[v, u]).run P w = .ok v' w')
    (hK : wpListIn F n P ops Q rest (a.put o.dst v') w') : wpListIn F n P ops Q (o :: rest) a w := by
  refine wpListIn_plain hg fun K hK' => ?_
  unfold Oper.wpIn
  refine ⟨?_, ?_⟩
  · simp [Oper.about, hop, resolve, Target.leads, Sem.run_pure]
  · rw [Oper.semAt_plain F _ _ (by rw [hop]; intro c hc'; cases hc')]
    simp [execOp, hop, resolve, invoke, builtin, hs, hx, hrun, Result.andThen]
    exact hK' _ _ hK
theorem own_slice {W : World} {base k : Nat} {e : TypeId} {size : Nat} {v : Value} {xs : List Value} (h : W.ownsRow base e size v k xs) : ∃ p l c, v = .slice p l c := by
  rcases h.2 with ⟨rfl, _⟩ | ⟨g, cap, cur, rfl, _⟩
  · exact ⟨_, _, _, rfl⟩
  · exact ⟨_, _, _, rfl⟩
theorem own_same {A B : World} {base n : Nat} {e : TypeId} {size : Nat} {v : Value} {xs : List Value} (h : A.ownsRow base e size v n xs) (hk : ∀ k, v.ownBlock = some k → B.heap[k]? = A.heap[k]?) : B.ownsRow base e size v n xs := by
  refine ⟨h.1, ?_⟩
  rcases h.2 with h' | ⟨g, cap, cur, rfl, hb, hh, rest⟩
  · exact .inl h'
  · exact .inr ⟨g, cap, cur, rfl, hb, (hk g rfl).trans hh, rest⟩
/-- A cell of a block is written. -/
theorem heap_set {A : World} {R i : Nat} {cs : Array Value} {t : TypeId} (v : Value) (h : A.heap[R]? = some (.cells cs t (0, 0))) : (A.setCell ⟨R, i, none⟩ v).heap[R]? = some (.cells (cs.setIfInBounds i v) t (0, 0)) := by
  obtain ⟨hlt, he⟩ := Array.getElem?_eq_some_iff.1 h
  show (A.heap.modify R _)[R]? = _
  rw [Array.getElem?_eq_getElem (by rw [Array.size_modify]; exact hlt), Array.getElem_modify_self, he]
  simp
/-- A block of one cell. -/
theorem one_cell {A : World} {R : Nat} {v : Value} {t : TypeId} (h : A.heap[R]? = some (.cells #[v] t (0, 0))) : A.cell? ⟨R, 0, none⟩ = some v ∧ A.frozen? ⟨R, 0, none⟩ = false := by
  simp [World.cell?, World.frozen?, h]
theorem new_one (W : World) (v : Value) (t : TypeId) : (W.alloc (.cells #[v] t)).heap[W.heap.size]? = some (.cells #[v] t (0, 0)) := World.alloc_heap_new W _
theorem own_base {W : World} {b b' n : Nat} {e : TypeId} {size : Nat} {v : Value} {xs : List Value} (h : W.ownsRow b e size v n xs) (hb : b' ≤ b) : W.ownsRow b' e size v n xs :=
  ⟨h.1, h.2.imp id (fun ⟨g, c, cur, e, hg, rest⟩ => ⟨g, c, cur, e, Nat.le_trans hb hg, rest⟩)⟩

end Go.Proofs.YtilebfpaibajcaaGreatDoor
