/- What the document's clock answers. -/
import Derived.Test.YtcmkdeejofoibaaClkRows
import Derived.Test.YtcmkdeejofoibaaByteMem
import Derived.Deep.RegionLaw
namespace Go.Proofs.Ytcmkdeejofoibaa
open Go.ChangeShapes Go.WideShapes Go.ChangeAt Go.RowKit
open Ck
set_option linter.unusedVariables false
set_option maxRecDepth 100000

namespace Ck
theorem wo_take {l : List Tm} {k : Nat} {t : Tm} (id : Int) (h : l[k]? = some t) : wo (l.take (k + 1)) id = wo (l.take k) id ++ (if t.id == id then [] else [t]) := by
  rw [List.take_add_one, h]
  unfold wo
  rw [List.filter_append]
  cases hb : t.id == id <;> simp [hb]
theorem has_take {l : List Tm} {k : Nat} {t : Tm} (id : Int) (h : l[k]? = some t) : has (l.take (k + 1)) id = (has (l.take k) id || t.id == id) := by
  rw [List.take_add_one, h]
  unfold has
  simp
end Ck

/-- A clock of the document's own that grows: its box, the result's cell, what is gathered. -/
structure Out15 (w W : World) (now : Int) (p : Option Addr) (n c : Nat) (nw : Int) (v : Value) (xs : List Tm) : Prop where
  below : Below w.heap.size w W
  box : W.heap[w.heap.size]? = some (.cells #[.int .i64 now, .slice p n c] 28 (0, 0))
  res : W.heap[w.heap.size + 1]? = some (.cells #[.int .i64 0, .slice none 0 0] 28 (0, 0))
  out : W.heap[w.heap.size + 2]? = some (.cells #[.int .i64 nw, v] 28 (0, 0))
  own : W.ownsRow (w.heap.size + 3) 49 2 v xs.length (tmv xs)
abbrev ob15 (now : Int) (v : Value) : Obj := .cells #[.int .i64 now, v] 28
theorem Out15.made (w : World) (now : Int) (p : Option Addr) (n c : Nat) (nw : Int) : Out15 w (((w.alloc (ob15 now (.slice p n c))).alloc (ob15 0 (.slice none 0 0))).alloc (ob15 nw (.slice none 0 0))) now p n c nw (.slice none 0 0) [] := by
  have b0 := below_box w (ob15 now (.slice p n c))
  have b1 := below_box (w.alloc (ob15 now (.slice p n c))) (ob15 0 (.slice none 0 0))
  have b2 := below_box ((w.alloc (ob15 now (.slice p n c))).alloc (ob15 0 (.slice none 0 0))) (ob15 nw (.slice none 0 0))
  have z0 : (w.alloc (ob15 now (.slice p n c))).heap.size = w.heap.size + 1 := by simp
  have z1 : ((w.alloc (ob15 now (.slice p n c))).alloc (ob15 0 (.slice none 0 0))).heap.size = w.heap.size + 2 := by simp
  refine ⟨ahead (ahead b0 b1) b2, ?_, ?_, ?_, World.ownsRow_nil _ _ _ _⟩
  · rw [b2.block _ (by omega), b1.block _ (by omega)]; exact heap_alloc_new w _
  · rw [b2.block _ (by omega)]
    have := heap_alloc_new (w.alloc (ob15 now (.slice p n c))) (ob15 0 (.slice none 0 0))
    rw [z0] at this
    exact this
  · have := heap_alloc_new ((w.alloc (ob15 now (.slice p n c))).alloc (ob15 0 (.slice none 0 0))) (ob15 nw (.slice none 0 0))
    rw [z1] at this
    exact this
theorem Out15.far {w W : World} {now nw : Int} {p : Option Addr} {n c : Nat} {v : Value} {xs : List Tm} (h : Out15 w W now p n c nw v xs) {g : Nat} (hg : v.ownBlock = some g) : w.heap.size + 3 ≤ g := (h.own.lt g hg).1
/-- One timer more. -/
theorem Out15.more {w W W2 w3 : World} {now nw : Int} {p : Option Addr} {n c : Nat} {v v' : Value} {xs : List Tm} {t : Tm} (h : Out15 w W now p n c nw v xs) (hb : Below W.heap.size W W2) (hr : w3.ownsRow (w.heap.size + 3) 49 2 v' (xs ++ [t]).length (tmv (xs ++ [t]))) (hg : W2.grownBy w3 v.ownBlock) :
    Out15 w (w3.setCell ⟨w.heap.size + 2, 1, none⟩ v') now p n c nw v' (xs ++ [t]) := by
  have hlt := (Array.getElem?_eq_some_iff.1 h.out).1
  have hne : ∀ k, k < w.heap.size + 3 → some k ≠ v.ownBlock := fun k hk e => by have := h.far e.symm; omega
  have hk : ∀ k, k < w.heap.size + 3 → w3.heap[k]? = W.heap[k]? := fun k hk => (hg.block k (Nat.lt_of_lt_of_le (by omega) hb.size) (hne k hk)).trans (hb.block k (by omega))
  have hs : ∀ k, k ≠ w.heap.size + 2 → (w3.setCell ⟨w.heap.size + 2, 1, none⟩ v').heap[k]? = w3.heap[k]? := fun k hk => Below.heap_setCell _ _ _ _ hk
  refine ⟨?_, ?_, ?_, ?_, own_same hr fun g hg' => hs g (by have := (hr.lt g hg').1; omega)⟩
  · refine Below.setCell (p := ⟨w.heap.size + 2, 1, none⟩) ?_ (by show w.heap.size ≤ w.heap.size + 2; omega) _
    have b2 := ahead h.below hb
    exact b2.trans ⟨hg.os, hg.tape, hg.output, hg.size, fun k hk => hg.block k (by have := b2.size; omega) (hne k (by omega))⟩
  · rw [hs _ (by omega), hk _ (by omega)]; exact h.box
  · rw [hs _ (by omega), hk _ (by omega)]; exact h.res
  · have := heap_set (i := 1) v' ((hk (w.heap.size + 2) (by omega)).trans h.out)
    exact this

set_option maxHeartbeats 4000000 in
theorem rwithout_any (now id : Int) (l : List Tm) (p : Option Addr) (c : Nat) (w : World) (hL : TS w (.slice p l.length c) l) (hl : l.length ≤ 1000000) :
    Calls Try.prog 21 #[.agg #[.int .i64 now, .slice p l.length c], .int .i64 id] w fun e w' => ∃ q d, e = .returned (.tuple #[.agg #[.int .i64 now, .slice q (wo l id).length d], .bool (has l id)]) ∧ TS w' (.slice q (wo l id).length d) (wo l id) ∧ Below w.heap.size w w' ∧ ∀ g, (Value.slice q (wo l id).length d).ownBlock = some g → w.heap.size ≤ g ∧ g < w'.heap.size := by
  have HO := Lib.hid (Out15.made w now p l.length c now)
  have HL := Lib.hid hL
  obtain ⟨w0, hw0⟩ : ∃ w0, ((w.alloc (ob15 now (.slice p l.length c))).alloc (ob15 0 (.slice none 0 0))).alloc (ob15 now (.slice none 0 0)) = w0 := ⟨_, rfl⟩
  rw [hw0] at HO
  have W0 := Lib.hid hw0
  unfold ob15 at hw0
  clear hw0 hL
  go_enter Try.func21, Try.ntmps21
  go_wp2_with fail
  rw [W0.out]
  go_loopw [7, 8] (fun b i wr => ∃ (k : Nat) (v : Value), k ≤ l.length ∧ i = .int .i64 k ∧ b = .bool (has (l.take k) id) ∧ Hid (Out15 w wr now p l.length c now v (wo (l.take k) id))) (fun _ i _ => l.length - (intOf i).toNat)
  case atStart => exact ⟨0, _, Nat.zero_le _, rfl, rfl, HO⟩
  case round =>
    clear HO
    obtain ⟨k, v, hk, rfl, rfl, HB⟩ := hrel
    obtain ⟨⟨c0, c1⟩, -⟩ := two15 HB.out.box
    by_cases hlt : k < l.length
    · obtain ⟨t, ht⟩ : ∃ t, l[k]? = some t := ⟨_, List.getElem?_eq_getElem hlt⟩
      obtain ⟨-, ad, rfl, e0, e1⟩ := (HL.out.below HB.out.below).at ht
      have hht := has_take id ht
      have hwt := wo_take id ht
      by_cases hb : t.id = id
      · have hb' : (t.id == id) = true := beq_iff_eq.2 hb
        rw [hb', Bool.or_true] at hht
        rw [hb', if_pos rfl, List.append_nil] at hwt
        have HHT := Lib.hid hht
        have HWT := Lib.hid hwt
        clear ht hht hwt
        go_wp2_with fail
        go_roundw
        case rel => exact ⟨k + 1, v, by omega, by go_num, by rw [HHT.out], by rw [HWT.out]; exact HB⟩
        case measure => simp [intOf]; omega
      · have hb' : (t.id == id) = false := beq_eq_false_iff_ne.2 hb
        rw [hb', Bool.or_false] at hht
        rw [hb', if_neg (by decide)] at hwt
        have HHT := Lib.hid hht
        have HWT := Lib.hid hwt
        clear ht hht hwt
        obtain ⟨⟨d0, d1⟩, df⟩ := two15 HB.out.out
        have hx := HB.out.below.size
        have hlt2 := (Array.getElem?_eq_some_iff.1 HB.out.out).1
        obtain ⟨w2, hw2⟩ : ∃ w2, (wr.alloc (.cells #[.int .i64 t.id, .int .i64 t.due] 49)).drew = w2 := ⟨_, rfl⟩
        have b2 : Below wr.heap.size wr w2 := by rw [← hw2]; exact (below_box wr _).drew
        have hts : TS w2 (.slice (some ⟨wr.heap.size, 0, none⟩) 1 1) [t] := by rw [← hw2]; exact RS.below (ts_one wr t 49) ((Below.refl _ _).drew)
        have hwl := wo_len (l.take k) id
        have hw2s := b2.size
        obtain ⟨v', w3, hrun, hown, hg⟩ := run_append_tm w2 (26) (w.heap.size + 3) v (.slice (some ⟨wr.heap.size, 0, none⟩) 1 1) (wo (l.take k) id) [t] (own_same HB.out.own fun g hg => b2.block g (HB.out.own.lt g hg).2) hts (by simp at hwl ⊢; omega) (by omega)
        have hN := HB.out.more b2 hown hg
        rw [← HWT.out] at hN
        have HN := Lib.hid hN
        have hO := (hg.block (w.heap.size + 2) (by omega) (fun e => by have := HB.out.far e.symm; omega)).trans ((b2.block _ hlt2).trans HB.out.out)
        obtain ⟨⟨-, g1⟩, gf⟩ := two15 hO
        have d1' : wr.cell? ⟨w.heap.size + 1 + 1, 1, none⟩ = some v := d1
        have g1' : w3.cell? ⟨w.heap.size + 1 + 1, 1, none⟩ = some v := g1
        have gf' : w3.frozen? ⟨w.heap.size + 1 + 1, 1, none⟩ = false := gf 1
        have HR := Lib.hid hrun
        obtain ⟨id2, due⟩ := t
        subst hw2
        obtain ⟨pv, nv, cv, rfl⟩ := own_slice HB.out.own
        obtain ⟨pw, nw, cw, rfl⟩ := own_slice hown
        have hkl : (k : Int) < (l.length : Int) := by omega
        have hlt2' : w.heap.size + 1 + 1 < wr.heap.size := hlt2
        clear hrun hown hg hO hN hts b2 df d0 d1 g1 gf hw2s hwl hx hlt2 hb
        go_wp2_with fail
        go_region_law (refine step_append_run rfl (.tmp 28) (.tmp 34) 26 rfl (.slice pv nv cv) (.slice (some ⟨wr.heap.size, 0, none⟩) 1 1) (.slice pw nw cw) w3 (by simp [Act.eval]) (by simp [Act.eval]) HR.out ?_)
        all_goals
          go_wp2_with fail
          go_roundw
          case rel => exact ⟨k + 1, .slice pw nw cw, by omega, by go_num, by rw [HHT.out], HN⟩
          case measure => simp [intOf]; omega
    · obtain rfl : k = l.length := by omega
      rw [List.take_length] at *
      obtain ⟨⟨d0, d1⟩, df⟩ := two15 HB.out.out
      have d0' : wr.cell? ⟨w.heap.size + 1 + 1, 0, none⟩ = some (.int .i64 now) := d0
      have d1' : wr.cell? ⟨w.heap.size + 1 + 1, 1, none⟩ = some v := d1
      obtain ⟨⟨r0, r1⟩, rf⟩ := two15 HB.out.res
      have rf0 := rf 0
      have rf1 := rf 1
      have hset := heap_set (i := 1) v (heap_set (i := 0) (.int .i64 now) HB.out.res)
      have HS := Lib.hid hset
      have hb4 : Below w.heap.size w ((wr.setCell ⟨w.heap.size + 1, 0, none⟩ (.int .i64 now)).setCell ⟨w.heap.size + 1, 1, none⟩ v) := (HB.out.below.setCell (p := ⟨w.heap.size + 1, 0, none⟩) (by show w.heap.size ≤ w.heap.size + 1; omega) _).setCell (p := ⟨w.heap.size + 1, 1, none⟩) (by show w.heap.size ≤ w.heap.size + 1; omega) _
      have hts4 : TS ((wr.setCell ⟨w.heap.size + 1, 0, none⟩ (.int .i64 now)).setCell ⟨w.heap.size + 1, 1, none⟩ v) v (wo l id) := RS.of_own (own_same HB.out.own fun g hg => by
        have := HB.out.far hg
        exact (Below.heap_setCell _ _ _ _ (by show g ≠ w.heap.size + 1; omega)).trans (Below.heap_setCell _ _ _ _ (by show g ≠ w.heap.size + 1; omega)))
      obtain ⟨q, d, rfl, -⟩ := RS.slice hts4
      have HT4 := Lib.hid (And.intro hts4 (And.intro hb4 (fun g hg => show w.heap.size ≤ g ∧ g < ((wr.setCell ⟨w.heap.size + 1, 0, none⟩ (.int .i64 now)).setCell ⟨w.heap.size + 1, 1, none⟩ (.slice q (wo l id).length d)).heap.size by have := HB.out.own.lt g hg; simp [World.setCell]; omega)))
      clear hset hb4 hts4 d0 d1 df rf
      go_wp2_with fail
      refine bodyPost_ret (results_pair15 rfl _ _ (w.heap.size + 1) 28 _ (0, 0) _ rfl HS.out Try.underlying28 rfl (by kernel_rfl)) rfl ?_
      exact ⟨q, d, rfl, HT4.out.1, HT4.out.2.1, HT4.out.2.2⟩

end Go.Proofs.Ytcmkdeejofoibaa
