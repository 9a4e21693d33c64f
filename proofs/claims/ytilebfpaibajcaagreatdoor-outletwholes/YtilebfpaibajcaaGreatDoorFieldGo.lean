/- What field.Right, Put, Parse, and the document's, answer. -/
import Derived.Test.YtilebfpaibajcaaGreatDoorMB
import Derived.Test.YtilebfpaibajcaaGreatDoorOctetTrim
namespace Go.Proofs.YtilebfpaibajcaaGreatDoor
open Go.ChangeShapes Go.WideShapes Go.ChangeAt Go.RowKit
open Oc Fl
set_option linter.unusedVariables false
set_option maxRecDepth 100000

/-- A field as a value. -/
abbrev fld (f : Fld) : Value := .agg #[.string f.name, .string f.value]

set_option maxHeartbeats 400000 in
theorem colon_low (s : ByteArray) (w : World) :
    Calls Tryz.prog 99 #[.string s, .int .u8 58] w fun e w' => e = .returned (.int .i64 (colI s)) ∧ w = w' := by
  have hc : Hid (Lib.indexByte s.data.toList 58 = colI s) := Lib.hid (col_index s)
  go_enter Tryz.func99, Tryz.ntmps99
  go_wp2
  rw [run_callFunc_extern Tryz.func110 (by kernel_rfl) (by kernel_rfl) (by kernel_rfl) (e := Extern.BytealgIndexByte.indexByte) (by kernel_rfl), Lib.run_indexByteString]
  simp only [Result.andThen]
  rw [Oper.upon_value]
  go_wp2
  go_ret
  exact ⟨by rw [← hc.out]; rfl, rfl⟩

theorem one_colon {s : ByteArray} (h : ([58] == s.toList) = true) : colI s = 0 := by
  have h1 : s.data.toList = [58] := by rw [ByteArray.toList_eq] at h; exact (beq_iff_eq.1 h).symm
  have h2 : s = ⟨#[58]⟩ := b_ext h1
  subst h2
  decide

set_option maxHeartbeats 1000000 in
theorem colon_any (s : ByteArray) (w : World) :
    Calls Tryz.prog 98 #[.string s, .string ⟨#[58]⟩] w fun e w' => e = .returned (.int .i64 (colI s)) ∧ w = w' := by
  have hc := Lib.hid (colon_low s w)
  cases h1 : ([58] == s.toList)
  · go_enter Tryz.func98, Tryz.ntmps98
    go_wp2_with (go_at_call 99; refine hc.out.mono ?_; rintro e w' ⟨rfl, rfl⟩)
    go_ret
    exact ⟨rfl, rfl⟩
  · rw [one_colon h1]
    go_enter Tryz.func98, Tryz.ntmps98
    go_wp2_with fail
    go_ret
    exact ⟨rfl, rfl⟩

set_option maxHeartbeats 1000000 in
theorem cut_some (s : ByteArray) (w : World) (hs : s.size ≤ 1099511627776) (h : col s < s.size) :
    Calls Tryz.prog 93 #[.string s, .string ⟨#[58]⟩] w fun e w' => e = .returned (.tuple #[.string (before s), .string (behind s), .bool true]) ∧ ∃ n, w' = w.drewN n := by
  have hc := Lib.hid (colon_any s w)
  rw [colI_some h] at hc
  have hbf := Lib.hid (show s.extract 0 (col s) = before s from rfl)
  have hbh := Lib.hid (show s.extract (col s + 1) s.size = behind s from rfl)
  generalize before s = x at hbf ⊢
  generalize behind s = y at hbh ⊢
  generalize col s = k at hc h hbf hbh
  have c1 : (0 : Int) ≤ (k : Int) := by omega
  have c2 : (k : Int) ≤ (s.size : Int) := by omega
  have c3 : (0 : Int) ≤ (k : Int) + 1 := by omega
  have c4 : (k : Int) + 1 ≤ (s.size : Int) := by omega
  go_enter Tryz.func93, Tryz.ntmps93
  go_wp2_with (go_at_call 98; refine hc.out.mono ?_; rintro e w' ⟨rfl, rfl⟩)
  go_quiet (fail)
  go_wp2
  go_ret3
  refine ⟨?_, _, rfl⟩
  first | (rw [← hbf.out, ← hbh.out]; rfl) | (rw [← hbf.out, ← hbh.out]; simp)

set_option maxHeartbeats 1000000 in
theorem cut_none (s : ByteArray) (w : World) (h : ¬ col s < s.size) :
    Calls Tryz.prog 93 #[.string s, .string ⟨#[58]⟩] w fun e w' => e = .returned (.tuple #[.string s, .string ⟨#[]⟩, .bool false]) ∧ ∃ n, w' = w.drewN n := by
  have hc := Lib.hid (colon_any s w)
  rw [colI_none h] at hc
  clear h
  go_enter Tryz.func93, Tryz.ntmps93
  go_wp2_with (go_at_call 98; refine hc.out.mono ?_; rintro e w' ⟨rfl, rfl⟩)
  go_ret3
  exact ⟨rfl, 0, rfl⟩

set_option maxHeartbeats 1000000 in
theorem cut_yes (s : ByteArray) (w : World) (hs : s.size ≤ 1099511627776) (h : col s < s.size) :
    Calls Tryz.prog 90 #[.string s, .string ⟨#[58]⟩] w fun e w' => e = .returned (.tuple #[.string (before s), .string (behind s), .bool true]) ∧ ∃ n, w' = w.drewN n := by
  have hc := Lib.hid (cut_some s w hs h)
  clear h
  go_enter Tryz.func90, Tryz.ntmps90
  go_wp2_with (go_at_call 93; refine hc.out.mono ?_; rintro e w' ⟨rfl, n, rfl⟩)
  go_ret3
  exact ⟨rfl, n, rfl⟩
set_option maxHeartbeats 1000000 in
theorem cut_no (s : ByteArray) (w : World) (h : ¬ col s < s.size) :
    Calls Tryz.prog 90 #[.string s, .string ⟨#[58]⟩] w fun e w' => e = .returned (.tuple #[.string s, .string ⟨#[]⟩, .bool false]) ∧ ∃ n, w' = w.drewN n := by
  have hc := Lib.hid (cut_none s w h)
  clear h
  go_enter Tryz.func90, Tryz.ntmps90
  go_wp2_with (go_at_call 93; refine hc.out.mono ?_; rintro e w' ⟨rfl, n, rfl⟩)
  go_ret3
  exact ⟨rfl, n, rfl⟩

theorem below_box (w : World) (o : _) : Below w.heap.size w (w.alloc o) := Below.alloc (Below.refl _ _) (Nat.le_refl _) o
theorem ahead {w w1 w2 : World} (h1 : Below w.heap.size w w1) (h2 : Below w1.heap.size w1 w2) : Below w.heap.size w w2 := h1.trans (h2.mono h1.size)
theorem box_cells (w : World) (x y : Value) (t : TypeId) : (w.alloc (.cells #[x, y] t)).heap[w.heap.size]? = some (.cells #[x, y] t (0, 0)) := heap_alloc_new w _
theorem two_cells {A : World} {R : Nat} {x y : Value} {t : TypeId} (h : A.heap[R]? = some (.cells #[x, y] t (0, 0))) :
    A.cell? ⟨R, 0, none⟩ = some x ∧ A.cell? ⟨R, 1, none⟩ = some y ∧ ∀ i, A.frozen? ⟨R, i, none⟩ = false := by
  simp [World.cell?, World.frozen?, h]
theorem two_below {A B : World} {R : Nat} {x y : Value} {t : TypeId} (h : A.heap[R]? = some (.cells #[x, y] t (0, 0))) (hb : Below A.heap.size A B) : B.heap[R]? = some (.cells #[x, y] t (0, 0)) := by
  have hl : R < A.heap.size := (Array.getElem?_eq_some_iff.1 h).1
  rw [hb.block R hl, h]

set_option maxHeartbeats 1000000 in
theorem right_any (f : Fld) (w : World) (hn : f.name.size ≤ 1099511627776) (hv : f.value.size ≤ 1099511627776) (hsp : Spans w) :
    Calls Tryz.prog 143 #[fld f] w fun e w' => e = .returned (.bool (right f)) ∧ Below w.heap.size w w' := by
  have hr : Hid (right f = (token f.name.data.toList && value f.value.data.toList)) := Lib.hid rfl
  have hT : Hid (∀ W, Below w.heap.size w W → _) := Lib.hid fun W hb => token_any f.name W hn (hsp.below hb)
  have hV : Hid (∀ W, _) := Lib.hid fun W => value_any f.value W hv
  clear hsp
  obtain ⟨n, v⟩ := f
  simp only at hT hV hr hn hv
  have hbox : Hid (∀ t, Below w.heap.size w (w.alloc (.cells #[.string n, .string v] t))) := Lib.hid fun t => below_box w _
  cases ht : token n.data.toList
  · rw [hr.out, ht]
    simp only [ht] at hT
    go_enter Tryz.func143, Tryz.ntmps143
    go_wp2_with (first | (go_at_call 91; refine (hT.out _ (below_box _ _)).mono ?_; rintro e w' ⟨rfl, hb1⟩))
    go_ret
    exact ⟨rfl, ahead (hbox.out _) hb1⟩
  · rw [hr.out, ht, Bool.true_and]
    simp only [ht] at hT
    go_enter Tryz.func143, Tryz.ntmps143
    go_wp2_with fail
    refine (hT.out _ (below_box _ _)).mono ?_
    rintro e w' ⟨rfl, hb1⟩
    have hh := two_below (box_cells w _ _ _) hb1
    have hx := (two_cells hh).2.1
    have hB := Lib.hid (ahead (hbox.out _) hb1)
    clear hh hb1
    go_wp2_with fail
    refine (hV.out _).mono ?_
    rintro e w'' ⟨rfl, hb2⟩
    go_wp2_with fail
    go_ret
    exact ⟨rfl, ahead hB.out hb2⟩

set_option maxHeartbeats 1000000 in
theorem rright_any (f : Fld) (w : World) (hn : f.name.size ≤ 1099511627776) (hv : f.value.size ≤ 1099511627776) :
    Calls Tryz.prog 41 #[fld f] w fun e w' => e = .returned (.bool (right f)) ∧ Below w.heap.size w w' := by
  have hr : Hid (right f = (token f.name.data.toList && value f.value.data.toList)) := Lib.hid rfl
  have hT : Hid (∀ W, _) := Lib.hid fun W => rtoken_any f.name W hn
  have hV : Hid (∀ W, _) := Lib.hid fun W => rvalue_any f.value W hv
  obtain ⟨n, v⟩ := f
  simp only at hT hV hr hn hv
  have hbox : Hid (∀ t, Below w.heap.size w (w.alloc (.cells #[.string n, .string v] t))) := Lib.hid fun t => below_box w _
  cases ht : token n.data.toList
  · rw [hr.out, ht]
    simp only [ht] at hT
    go_enter Tryz.func41, Tryz.ntmps41
    go_wp2_with (first | (go_at_call 51; refine (hT.out _).mono ?_; rintro e w' ⟨rfl, rfl⟩))
    go_ret
    exact ⟨rfl, hbox.out _⟩
  · rw [hr.out, ht, Bool.true_and]
    simp only [ht] at hT
    go_enter Tryz.func41, Tryz.ntmps41
    go_wp2_with (first | (go_at_call 51; refine (hT.out _).mono ?_; rintro e w' ⟨rfl, rfl⟩) | (go_at_call 52; refine (hV.out _).mono ?_; rintro e w' ⟨rfl, rfl⟩))
    go_ret
    exact ⟨rfl, hbox.out _⟩

theorem results_two {P : Program} {fn : Func} {p u : Tmp} {ty : TypeId} (h : fn.results = #[.cell p ty, .tmp u]) (tmps : Array Value) (w : World) (g : Nat) (t : TypeId) (cs : Array Value) (fr : Nat × Nat) (d : TypeDesc)
    (hp : tmps.getD p undef = .pointer (some ⟨g, 0, none⟩)) (hg : w.heap[g]? = some (.cells cs t fr))
    (hu : P.underlying ty = some d) (hd : (match d with | .struct _ | .array _ _ => true | _ => false) = true) (hi : (P.info? ty).map (·.size) = some cs.size) :
    (results fn tmps).run P w = .ok (.tuple #[.agg cs, tmps.getD u undef]) w := by
  rw [results_cell_tmp h]
  simp [hp, asAddr, run_loadVar_row w g t ty cs fr d hg hu hd hi, Result.andThen]

/-- A block of two cells that lies in a world, above what lay before. -/
def TwoAt (w W : World) (x y : Value) : Prop := W.heap[w.heap.size]? = some (.cells #[x, y] 86 (0, 0)) ∧ Below w.heap.size w W
theorem TwoAt.drew (w : World) (x y : Value) (n : Nat) : TwoAt w ((w.alloc (.cells #[x, y] 86)).drewN n) x y := by
  refine ⟨?_, ?_⟩
  · exact box_cells w x y _
  · have h := below_box w (.cells #[x, y] 86)
    exact ⟨h.os, h.tape, h.output, h.size, h.block⟩
theorem TwoAt.below {w W W' : World} {x y : Value} (h : TwoAt w W x y) (hb : Below W.heap.size W W') : TwoAt w W' x y := ⟨two_below h.1 hb, ahead h.2 hb⟩
theorem TwoAt.set {w W : World} {x y : Value} (h : TwoAt w W x y) (u v : Value) : TwoAt w ((W.setCell ⟨w.heap.size, 0, none⟩ u).setCell ⟨w.heap.size, 1, none⟩ v) u v := by
  refine ⟨?_, (h.2.setCell (Nat.le_refl _) _).setCell (Nat.le_refl _) _⟩
  have := h.1
  simp [World.setCell, Array.getElem?_modify, this]

def noFld : Fld := ⟨⟨#[]⟩, ⟨#[]⟩⟩

set_option maxHeartbeats 2000000 in
theorem parse_good (s : ByteArray) (w : World) (hs : s.size ≤ 1099511627776) (hsp : Spans w) (hg : good s = true) :
    Calls Tryz.prog 85 #[.string s] w fun e w' => e = .returned (.tuple #[fld (parsed s), .int .i64 0]) ∧ Below w.heap.size w w' := by
  unfold good at hg
  simp only [Bool.and_eq_true, decide_eq_true_eq] at hg
  obtain ⟨⟨hc, ht⟩, hx⟩ := hg
  have h1 := before_size s
  have h2 := behind_size s
  have hC : Hid (∀ W, _) := Lib.hid fun W => cut_yes s W hs hc
  have hT : Hid (∀ W, Below w.heap.size w W → _) := Lib.hid fun W hb => token_any (before s) W (by omega) (hsp.below hb)
  have hX : Hid (∀ W, _) := Lib.hid fun W => text_any (behind s) W (by omega)
  have hR : Hid (∀ W, _) := Lib.hid fun W => trim_any (behind s) W (by omega)
  rw [ht] at hT
  rw [hx] at hX
  unfold parsed
  generalize (⟨(trim (behind s).data.toList).toArray⟩ : ByteArray) = z at hR ⊢
  generalize before s = x at *
  generalize behind s = y at *
  clear h1 h2 hc ht hx hsp
  go_enter Tryz.func85, Tryz.ntmps85
  go_wp2_with fail
  refine (hC.out _).mono ?_
  rintro e w' ⟨rfl, n, rfl⟩
  go_wp2_with fail
  have hA := Lib.hid (TwoAt.drew w (.string ⟨#[]⟩) (.string ⟨#[]⟩) n)
  generalize (w.alloc _).drewN n = W at hA ⊢
  refine (hT.out W hA.out.2).mono ?_
  rintro e W1 ⟨rfl, hb1⟩
  replace hA := Lib.hid (hA.out.below hb1)
  clear hb1 hT hC
  go_wp2_with fail
  refine (hX.out _).mono ?_
  rintro e W2 ⟨rfl, hb1⟩
  replace hA := Lib.hid (hA.out.below hb1)
  clear hb1 hX
  go_wp2_with fail
  refine (hR.out _).mono ?_
  rintro e W3 ⟨rfl, hb1⟩
  replace hA := Lib.hid (hA.out.below hb1)
  clear hb1 hR
  obtain ⟨c0, c1, c2⟩ := two_cells hA.out.1
  go_wp2_with fail
  have HF := hA.out.set (.string x) (.string z)
  refine bodyPost_ret (results_two rfl _ _ w.heap.size 86 _ (0, 0) _ rfl HF.1 Tryz.underlying86 rfl (by kernel_rfl)) rfl ?_
  exact ⟨rfl, HF.2⟩

set_option maxHeartbeats 2000000 in
theorem parse_bad (s : ByteArray) (w : World) (hs : s.size ≤ 1099511627776) (hsp : Spans w) (hg : good s = false) :
    Calls Tryz.prog 85 #[.string s] w fun e w' => e = .returned (.tuple #[fld noFld, .int .i64 2]) ∧ Below w.heap.size w w' := by
  unfold good at hg
  by_cases hc : col s < s.size
  · have h1 := before_size s
    have h2 := behind_size s
    have hC : Hid (∀ W, _) := Lib.hid fun W => cut_yes s W hs hc
    have hT : Hid (∀ W, Below w.heap.size w W → _) := Lib.hid fun W hb => token_any (before s) W (by omega) (hsp.below hb)
    have hX : Hid (∀ W, _) := Lib.hid fun W => text_any (behind s) W (by omega)
    rw [decide_eq_true hc, Bool.true_and] at hg
    cases ht : token (before s).data.toList
    · rw [ht] at hT
      clear hX
      generalize before s = x at *
      generalize behind s = y at *
      clear h1 h2 hc ht hsp hg
      go_enter Tryz.func85, Tryz.ntmps85
      go_wp2_with fail
      refine (hC.out _).mono ?_
      rintro e w' ⟨rfl, n, rfl⟩
      go_wp2_with fail
      have hA := Lib.hid (TwoAt.drew w (.string ⟨#[]⟩) (.string ⟨#[]⟩) n)
      generalize (w.alloc _).drewN n = W at hA ⊢
      refine (hT.out W hA.out.2).mono ?_
      rintro e W1 ⟨rfl, hb1⟩
      replace hA := Lib.hid (hA.out.below hb1)
      clear hb1 hT hC
      obtain ⟨c0, c1, c2⟩ := two_cells hA.out.1
      go_wp2_with fail
      have HF := hA.out.set (.string ⟨#[]⟩) (.string ⟨#[]⟩)
      refine bodyPost_ret (results_two rfl _ _ w.heap.size 86 _ (0, 0) _ rfl HF.1 Tryz.underlying86 rfl (by kernel_rfl)) rfl ?_
      exact ⟨rfl, HF.2⟩
    · rw [ht, Bool.true_and] at hg
      rw [ht] at hT
      rw [hg] at hX
      generalize before s = x at *
      generalize behind s = y at *
      clear h1 h2 hc ht hsp hg
      go_enter Tryz.func85, Tryz.ntmps85
      go_wp2_with fail
      refine (hC.out _).mono ?_
      rintro e w' ⟨rfl, n, rfl⟩
      go_wp2_with fail
      have hA := Lib.hid (TwoAt.drew w (.string ⟨#[]⟩) (.string ⟨#[]⟩) n)
      generalize (w.alloc _).drewN n = W at hA ⊢
      refine (hT.out W hA.out.2).mono ?_
      rintro e W1 ⟨rfl, hb1⟩
      replace hA := Lib.hid (hA.out.below hb1)
      clear hb1 hT hC
      go_wp2_with fail
      refine (hX.out _).mono ?_
      rintro e W2 ⟨rfl, hb1⟩
      replace hA := Lib.hid (hA.out.below hb1)
      clear hb1 hX
      obtain ⟨c0, c1, c2⟩ := two_cells hA.out.1
      go_wp2_with fail
      have HF := hA.out.set (.string ⟨#[]⟩) (.string ⟨#[]⟩)
      refine bodyPost_ret (results_two rfl _ _ w.heap.size 86 _ (0, 0) _ rfl HF.1 Tryz.underlying86 rfl (by kernel_rfl)) rfl ?_
      exact ⟨rfl, HF.2⟩
  · have hC : Hid (∀ W, _) := Lib.hid fun W => cut_no s W hc
    clear hc hsp hg
    go_enter Tryz.func85, Tryz.ntmps85
    go_wp2_with fail
    refine (hC.out _).mono ?_
    rintro e w' ⟨rfl, n, rfl⟩
    have hA := Lib.hid (TwoAt.drew w (.string ⟨#[]⟩) (.string ⟨#[]⟩) n)
    generalize (w.alloc _).drewN n = W at hA ⊢
    clear hC
    obtain ⟨c0, c1, c2⟩ := two_cells hA.out.1
    go_wp2_with fail
    have HF := hA.out.set (.string ⟨#[]⟩) (.string ⟨#[]⟩)
    refine bodyPost_ret (results_two rfl _ _ w.heap.size 86 _ (0, 0) _ rfl HF.1 Tryz.underlying86 rfl (by kernel_rfl)) rfl ?_
    exact ⟨rfl, HF.2⟩

end Go.Proofs.YtilebfpaibajcaaGreatDoor
