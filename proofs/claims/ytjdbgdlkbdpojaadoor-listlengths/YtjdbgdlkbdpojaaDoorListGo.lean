/- What list.Items answers. -/
import Derived.Test.YtjdbgdlkbdpojaaDoorListMarks
namespace Go.Proofs.YtjdbgdlkbdpojaaDoor
open Go.ChangeShapes Go.WideShapes Go.ChangeAt Go.RowKit
open Go.Shelf
open Oc Fl Ls
set_option linter.unusedVariables false
attribute [local go_sem] Oper.semAt_some

theorem results_tmp {P : Program} {fn : Func} {u : Tmp} (h : fn.results = #[.tmp u]) (tmps : Array Value) (w : World) : (results fn tmps).run P w = .ok (tmps.getD u undef) w := by
  simp [results, h, go_sem]
theorem results_tmp2 {P : Program} {fn : Func} {u v : Tmp} (h : fn.results = #[.tmp u, .tmp v]) (tmps : Array Value) (w : World) : (results fn tmps).run P w = .ok (.tuple #[tmps.getD u undef, tmps.getD v undef]) w := by
  simp [results, h, go_sem]

/-- What a call has gathered in the cell R, behind the loops ds. -/
structure Its (w : World) (R : Nat) (ds : List Nat) (W : World) (v : Value) (xs : List ByteArray) : Prop where
  below : Below w.heap.size w W
  marks : Marks w.heap.size ds W
  cell : W.heap[R]? = some (.cells #[v] 22 (0, 0))
  own : W.ownsRow w.heap.size 9 1 v xs.length (tv xs)
/-- The row lies apart from a loop's own blocks. -/
def Apart (Bx : Nat) (v : Value) : Prop := ∀ g, v.ownBlock = some g → g < Bx ∨ Bx + 3 ≤ g
theorem own_cells {W : World} {b n : Nat} {e : TypeId} {sz : Nat} {v : Value} {xs : List Value} (h : W.ownsRow b e sz v n xs) {g : Nat} (hg : v.ownBlock = some g) : ∃ cur, W.heap[g]? = some (.cells cur e (0, 0)) := by
  rcases h.2 with ⟨rfl, _⟩ | ⟨g', cap, cur, rfl, hb, hh, rest⟩
  · cases hg
  · cases hg; exact ⟨cur, hh⟩
theorem Its.ne {w W : World} {R : Nat} {ds : List Nat} {v : Value} {xs : List ByteArray} (h : Its w R ds W v xs) {g : Nat} (hg : v.ownBlock = some g) : g ≠ R ∧ ∀ D ∈ ds, g ≠ D := by
  obtain ⟨cur, hc⟩ := own_cells h.own hg
  refine ⟨fun e => ?_, fun D hD e => ?_⟩
  · rw [e, h.cell] at hc; cases hc
  · rw [e, (h.marks.at_ D hD).2] at hc; cases hc
theorem Its.lt {w W : World} {R : Nat} {ds : List Nat} {v : Value} {xs : List ByteArray} (h : Its w R ds W v xs) : R < W.heap.size ∧ (∀ D ∈ ds, D < W.heap.size) ∧ ∀ g, v.ownBlock = some g → g < W.heap.size :=
  ⟨(Array.getElem?_eq_some_iff.1 h.cell).1, fun D hD => (Array.getElem?_eq_some_iff.1 (h.marks.at_ D hD).2).1, fun g hg => (h.own.lt g hg).2⟩
/-- All blocks that it leans on lie as they lay. -/
theorem Its.keep {w W W' : World} {R : Nat} {ds : List Nat} {v : Value} {xs : List ByteArray} (h : Its w R ds W v xs) (hb : Below w.heap.size w W') (hk : ∀ r, r = R ∨ r ∈ ds ∨ v.ownBlock = some r → W'.heap[r]? = W.heap[r]?) : Its w R ds W' v xs :=
  ⟨hb, ⟨fun D hD => ⟨(h.marks.at_ D hD).1, (hk D (.inr (.inl hD))).trans (h.marks.at_ D hD).2⟩, h.marks.once⟩, (hk R (.inl rfl)).trans h.cell, own_same h.own fun k e => hk k (.inr (.inr e))⟩
theorem Its.next {w W W' : World} {R : Nat} {ds : List Nat} {v : Value} {xs : List ByteArray} (h : Its w R ds W v xs) (hb : Below W.heap.size W W') : Its w R ds W' v xs :=
  h.keep (ahead h.below hb) fun r hr => hb.block r (by
    obtain ⟨h1, h2, h3⟩ := h.lt
    rcases hr with rfl | hr | hr
    · exact h1
    · exact h2 r hr
    · exact h3 r hr)
/-- One more, in a round of the loop whose box is Bx. -/
theorem gatherT {w W2 W3 : World} {R Bx : Nat} {ds : List Nat} {v : Value} {xs : List ByteArray} (x s : ByteArray) (ty : TypeId) (hI : Its w R ds W2 v xs) (hR : w.heap.size ≤ R) (hRB : R < Bx) (hds : ∀ D ∈ ds, D < Bx) (hB : Bx + 2 < W2.heap.size)
    (hbox : W2.cell? ⟨Bx, 0, none⟩ = some (.string s)) (hap : Apart Bx v) (hb : Below W2.heap.size W2 W3) (hl : xs.length ≤ 1000000) :
    ∃ q n c W6, (Builtin.append_ #[22, 22] ty #[v, .slice (some ⟨W3.heap.size, 0, none⟩) 1 1]).run Tryd.prog (W3.alloc (.cells #[.string x] 9)) = .ok (.slice q n c) W6 ∧
      W6.heap[R]? = some (.cells #[v] 22 (0, 0)) ∧ Held (Bx + 1) False W2 (W6.setCell ⟨R, 0, none⟩ (.slice q n c)) ∧ Its w R ds (W6.setCell ⟨R, 0, none⟩ (.slice q n c)) (.slice q n c) (xs ++ [x]) ∧
      (W6.setCell ⟨R, 0, none⟩ (.slice q n c)).cell? ⟨Bx, 0, none⟩ = some (.string s) ∧ Apart Bx (.slice q n c) ∧ W2.heap.size ≤ (W6.setCell ⟨R, 0, none⟩ (.slice q n c)).heap.size := by
  obtain ⟨o, ho⟩ : ∃ o : Obj, .cells #[.string x] 9 = o := ⟨_, rfl⟩
  have hb5 : Below W2.heap.size W2 (W3.alloc o) := ahead hb (below_box W3 o)
  have h5 := hI.next hb5
  have z3 := hb.size
  have z5 := hb5.size
  have hz0 := h5.below.size
  have ht := tx_one W3 x 9
  rw [ho] at ht
  obtain ⟨v', W6, r0, r1, r2⟩ := run_append_tx (W3.alloc o) ty w.heap.size v _ xs [x] h5.own ht (by simp; omega) hz0
  have hwh := append_where h5.own ht (by simp; omega) r0
  obtain ⟨q, n, c, rfl⟩ := own_slice r1
  have z6 := r2.size
  have hO : ∀ r, r < W2.heap.size → v.ownBlock ≠ some r → W6.heap[r]? = W2.heap[r]? := fun r hr hv => (r2.block r (by omega) (Ne.symm hv)).trans (hb5.block r hr)
  have hS : ∀ r, r < W2.heap.size → v.ownBlock ≠ some r → r ≠ R → (W6.setCell ⟨R, 0, none⟩ (.slice q n c)).heap[r]? = W2.heap[r]? := fun r hr hv hne => (Below.heap_setCell _ _ _ _ hne).trans (hO r hr hv)
  obtain ⟨l1, l2, l3⟩ := hI.lt
  have h6 : W6.heap[R]? = some (.cells #[v] 22 (0, 0)) := (hO R l1 (fun e => (hI.ne e).1 rfl)).trans hI.cell
  have hap' : Apart Bx (.slice q n c) := fun g hg => by
    rcases hwh with e | e
    · exact hap g (by rw [← e]; exact hg)
    · exact .inr (by have := e g hg; omega)
  have hne' : ∀ g, Value.ownBlock (.slice q n c) = some g → g ≠ R := fun g hg => by
    rcases hwh with e | e
    · exact (hI.ne (by rw [← e]; exact hg)).1
    · have := e g hg; omega
  have hnB : ∀ r, Bx ≤ r → r < Bx + 3 → v.ownBlock ≠ some r := fun r h1 h2 e => by have := hap r e; omega
  refine ⟨q, n, c, W6, by rw [ho]; exact r0, h6, ⟨by simp [World.setCell]; omega, hS _ (by omega) (hnB _ (by omega) (by omega)) (by omega), hS _ (by omega) (hnB _ (by omega) (by omega)) (by omega), fun h => h.elim⟩, ⟨?_, ?_, heap_set _ h6, ?_⟩, ?_, hap', by simp [World.setCell]; omega⟩
  · exact (h5.below.grown r2 hz0 (fun k hk => (h5.own.lt k hk).1)).setCell hR _
  · refine ⟨fun D hD => ⟨(hI.marks.at_ D hD).1, (hS D (l2 D hD) (fun e => (hI.ne e).2 D hD rfl) (fun e => ?_)).trans (hI.marks.at_ D hD).2⟩, hI.marks.once⟩
    have := (hI.marks.at_ D hD).2
    rw [e, hI.cell] at this
    cases this
  · exact own_same r1 (fun r e => Below.heap_setCell _ _ _ _ (hne' r e))
  · exact (World.cell?_of_block (hS Bx (by omega) (hnB _ (by omega) (by omega)) (by omega))).trans hbox

set_option maxRecDepth 100000 in
set_option maxHeartbeats 8000000 in
theorem items_any (vs : List ByteArray) (p : Option Addr) (c : Nat) (w : World) (hV : TX w (.slice p vs.length c) vs) (hb : bulk vs ≤ 100000) :
    Calls Tryd.prog 11 #[.slice p vs.length c] w fun e w' => ∃ v, e = .returned v ∧ TX w' v (items vs) ∧ Below w.heap.size w w' := by
  have HV := Lib.hid hV
  have hvl := bulk_len vs
  clear hV
  refine calls_of_marks Tryd.func11 rfl ?_
  simp only [Tryd.ntmps11, List.size_toArray, List.length_cons, List.length_nil, Nat.reduceAdd, Nat.reduceSub, Array.replicate_succ, Array.replicate_zero, List.push_toArray, List.append_toArray, List.nil_append, List.cons_append]
  go_wp2_with fail
  obtain ⟨I, hI⟩ : ∃ I : Act → World → Prop, I = fun a W => ∃ (k : Nat) (v u5 u10 u11 u12 u13 u14 u20 : Value) (ds : List Nat),
      a = { tmps := #[.slice p vs.length c, undef, .slice none 0 0, .pointer (some ⟨w.heap.size, 0, none⟩), undef, u5, undef, .slice p vs.length c, .int .i64 (vs.length : Int), .int .i64 (k : Int), u10, u11, u12, u13, u14, undef, undef, undef, undef, undef, u20, undef], defers := ds.map mk } ∧
      k ≤ vs.length ∧ Its w w.heap.size ds W v (items (vs.take k)) := ⟨_, rfl⟩
  refine wp_loop I (fun a _ => vs.length - (intOf (a.tmps.getD 9 undef)).toNat) ?_ ?_
  · rw [hI]
    exact ⟨0, .slice none 0 0, _, _, _, _, _, _, _, [], rfl, Nat.zero_le _, below_box _ _, Marks.nil _ _, new_one _ _ _, World.ownsRow_nil _ _ _ _⟩
  · intro a wr hinv
    rw [hI] at hinv
    obtain ⟨k, v, u5, u10, u11, u12, u13, u14, u20, ds, rfl, hk, hT⟩ := hinv
    have hDI := Lib.hid hI
    clear hI
    have HT := Lib.hid hT
    clear hT
    by_cases hlt : k < vs.length
    · obtain ⟨s, hs⟩ : ∃ s, vs[k]? = some s := ⟨_, List.getElem?_eq_getElem hlt⟩
      obtain ⟨-, ad, rfl, c0⟩ := (HV.out.below HT.out.below).at hs
      have hsz := bulk_mem (List.mem_of_getElem? hs)
      have hsz2 := Ls.bulk_succ hs
      have hsz3 := bulk_take vs (k + 1)
      have hit := items_succ hs
      have hil := items_len (vs.take k)
      have HIT := Lib.hid hit
      clear hs hit
      have k1 : (0 : Int) ≤ (k : Int) := by omega
      have k2 : (k : Int) < (vs.length : Int) := by omega
      go_wp2_with (go_at_call 21; refine (of_any _ _).mono ?_; rintro e w' ⟨rfl, rfl⟩)
      have hseq := items_seq wr.heap.size s (by omega)
      obtain ⟨W0, hW0⟩ : ∃ W0, wr.alloc (.cells #[.string s] 9) = W0 := ⟨_, rfl⟩
      have s0 : W0.heap.size = wr.heap.size + 1 := by rw [← hW0]; simp
      have bW : Below wr.heap.size wr W0 := by rw [← hW0]; exact below_box _ _
      have g0 : W0.heap[wr.heap.size]? = some (.cells #[.string s] 9 (0, 0)) := by rw [← hW0]; exact new_one _ _ _
      rw [hW0]
      clear hW0
      obtain ⟨l1, l2, l3⟩ := HT.out.lt
      have l0 := HT.out.below.size
      have HT0 := HT.out.next bW
      generalize hxs : items (vs.take k) = xs at *
      refine wp_range (wpIn_rangeR (gf := 32) rfl (enters_of Tryd.func32 (by kernel_rfl) rfl) hseq (fun j x hx => ?_)
        (fun j W => ∃ v, Its w w.heap.size ds W v (xs ++ (itmB s).take j) ∧ W.cell? ⟨wr.heap.size, 0, none⟩ = some (.string s) ∧ Apart wr.heap.size v ∧ wr.heap.size + 1 ≤ W.heap.size)
        (fun _ _ _ => False)
        ?_ ?_ (fun j W h => by obtain ⟨v, _, h, _⟩ := h; exact h) ⟨v, by simpa using HT0, (one_cell g0).1, fun g hg => .inl (l3 g hg), by omega⟩ ?round ?done ?stop)
      · obtain ⟨y, _, rfl⟩ := its_get hx; rfl
      · rintro j A B ⟨v, i1, i2, i3, i4⟩ hB
        rw [s0] at hB
        refine ⟨v, i1.keep (hB.below i1.below (by omega) i1.below.size) fun r hr => ?_, hB.cell i2 (by simp) (by simp; omega), i3, by have := hB.size; omega⟩
        obtain ⟨m1, m2, m3⟩ := i1.lt
        rcases hr with rfl | hr | hr
        · exact hB.block _ m1 (by omega) (by omega)
        · have := l2 r hr; exact hB.block r (m2 r hr) (by omega) (by omega)
        · have := i3 r hr; exact hB.block r (m3 r hr) (by omega) (by omega)
      · rintro co j A B h hB
        exact h.elim
      case round =>
        rintro j x W hx - -
        obtain ⟨y, hy, rfl⟩ := its_get hx
        have hyt : (itmB s).take (j + 1) = (itmB s).take j ++ [y] := by rw [List.take_add_one, hy]; rfl
        have hjl : (xs ++ (itmB s).take j).length ≤ 1000000 := by
          have := itmB_len s
          rw [List.length_append, List.length_take]; omega
        have HYT := Lib.hid hyt
        clear hx hy hyt
        gi_wp2_with fail
        refine ⟨trivial, ?_⟩
        rintro W2 ⟨v, i1, i2, i3, i4⟩ hsz
        rw [s0] at hsz ⊢
        obtain ⟨q, n, c', W6, g1, g2, g3, g4, g5, g6, g7⟩ := gatherT y s 22 i1 (Nat.le_refl _) l1 l2 (by omega) i2 i3 (Below.refl _ _) hjl
        obtain ⟨c0, c1⟩ := one_cell i1.cell
        obtain ⟨d0, d1⟩ := one_cell g2
        have R0 := Lib.hid g1
        rw [List.append_assoc, ← HYT.out] at g4
        have HE := Lib.hid (And.intro g3 (Exists.intro (p := fun v => Its w w.heap.size ds (W6.setCell ⟨w.heap.size, 0, none⟩ (.slice q n c')) v (xs ++ (itmB s).take (j + 1)) ∧ (W6.setCell ⟨w.heap.size, 0, none⟩ (.slice q n c')).cell? ⟨wr.heap.size, 0, none⟩ = some (.string s) ∧ Apart wr.heap.size v ∧ wr.heap.size + 1 ≤ (W6.setCell ⟨w.heap.size, 0, none⟩ (.slice q n c')).heap.size) _ ⟨g4, g5, g6, by omega⟩))
        have hlt2 : w.heap.size < W2.heap.size := i1.lt.1
        clear g1 g2 g3 g4 g5 g6 g7 i1 i2 i3 i4
        gi_wp2_with (gi_at_builtin; refine wpListIn_append_run rfl (.tmp 16) (.tmp 18) 22 rfl _ _ _ _ rfl rfl R0.out ?_)
        exact HE.out
      case done =>
        rintro W ⟨v', i1, i2, i3, i4⟩ hD
        rw [its_len, List.take_length, ← HIT.out] at i1
        rw [s0] at hD ⊢
        have i5 : Its w w.heap.size ((wr.heap.size + 1) :: ds) W v' (items (vs.take (k + 1))) := ⟨i1.below, i1.marks.cons (by omega) hD (fun D' hD' => by have := l2 D' hD'; omega), i1.cell, i1.own⟩
        have I5 := Lib.hid i5
        clear i1 i2 i3 i4 i5 hD HT0 HT hseq
        go_wp2_with fail
        refine ⟨?_, ?_⟩
        · rw [hDI.out]
          exact ⟨k + 1, v', _, _, _, _, _, _, _, (wr.heap.size + 1) :: ds, rfl, by omega, I5.out⟩
        · simp [intOf]; omega
      case stop =>
        rintro co j W _ h _
        exact h.elim
    · obtain rfl : k = vs.length := by omega
      rw [List.take_length] at HT
      obtain ⟨c0, c1⟩ := one_cell HT.out.cell
      go_wp2_with fail
      refine left_marks ds HT.out.below.size rfl HT.out.marks (fun W' => results_tmp rfl _ _) (fun W' hW' => ?_) (.inl rfl)
      exact ⟨_, rfl, RS.of_own (hW'.own HT.out.own), HT.out.below.trans hW'.below⟩

end Go.Proofs.YtjdbgdlkbdpojaaDoor
