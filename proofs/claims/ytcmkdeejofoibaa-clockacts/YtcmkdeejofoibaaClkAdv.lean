/- What the document's Advance answers. -/
import Derived.Test.YtcmkdeejofoibaaClkLeft
namespace Go.Proofs.Ytcmkdeejofoibaa
open Go.ChangeShapes Go.WideShapes Go.ChangeAt Go.RowKit
open Ck
set_option linter.unusedVariables false
set_option maxRecDepth 100000

theorem append_tm9 (w : World) (ty : TypeId) (base : Nat) (v u : Value) (xs ys : List Tm) (hown : w.ownsRow base 49 2 v xs.length (tmv xs)) (hu : TS w u ys) (hb : xs.length + ys.length ≤ 1099511627776) (hbase : base ≤ w.heap.size) :
    ∃ v' w', (Builtin.append_ #[26, 26] ty #[v, u]).run Try.prog w = .ok v' w' ∧ w'.ownsRow base 49 2 v' (xs ++ ys).length (tmv (xs ++ ys)) ∧ w.grownBy w' v.ownBlock ∧ ∀ g, v'.ownBlock = some g → v.ownBlock = some g ∨ w.heap.size ≤ g := by
  obtain ⟨i0, hi, hz0, hz1, hz2⟩ := info_parts tm_info
  obtain ⟨v', w', r0, r1, r2, r3⟩ := append_own9 w 26 ty 49 i0 _ 2 16 Try.underlying26 hi hz0 hz1 hz2 rfl (by decide) base v u _ _ _ _ hown hu (tmv_one ys) (by omega) (by omega) hbase
  exact ⟨v', w', r0, by rw [List.length_append, ← tmv_app]; exact r1, r2, r3⟩
theorem append_iv9 (w : World) (ty : TypeId) (base : Nat) (v u : Value) (xs ys : List Int) (hown : w.ownsRow base 3 1 v xs.length (iv xs)) (hu : IS w u ys) (hb : xs.length + ys.length ≤ 1099511627776) (hbase : base ≤ w.heap.size) :
    ∃ v' w', (Builtin.append_ #[37, 37] ty #[v, u]).run Try.prog w = .ok v' w' ∧ w'.ownsRow base 3 1 v' (xs ++ ys).length (iv (xs ++ ys)) ∧ w.grownBy w' v.ownBlock ∧ ∀ g, v'.ownBlock = some g → v.ownBlock = some g ∨ w.heap.size ≤ g := by
  obtain ⟨i0, hi, hz0, hz1, hz2⟩ := info_parts int_info
  obtain ⟨v', w', r0, r1, r2, r3⟩ := append_own9 w 37 ty 3 i0 _ 1 8 Try.underlying37 hi hz0 hz1 hz2 rfl (by decide) base v u _ _ _ _ hown hu (iv_one ys) (by omega) (by omega) hbase
  exact ⟨v', w', r0, by rw [List.length_append, ← iv_app]; exact r1, r2, r3⟩

/-- A clock that grows, and numbers. -/
structure Adv15 (w W : World) (now : Int) (p : Option Addr) (n c : Nat) (nw : Int) (v u : Value) (xs : List Tm) (ys : List Int) : Prop where
  o : Out15 w W now p n c nw v xs
  fir : W.ownsRow (w.heap.size + 3) 3 1 u ys.length (iv ys)
  apart : ∀ g, v.ownBlock = some g → u.ownBlock ≠ some g
section
variable {w W W2 w3 : World} {now nw : Int} {p : Option Addr} {n c : Nat} {v u v' u' : Value} {xs : List Tm} {ys : List Int}
theorem Out15.keep (h : Out15 w W now p n c nw v xs) (hb : Below w.heap.size w W2) (hk : ∀ g, w.heap.size ≤ g → g < w.heap.size + 3 ∨ v.ownBlock = some g → W2.heap[g]? = W.heap[g]?) : Out15 w W2 now p n c nw v xs :=
  ⟨hb, (hk _ (by omega) (.inl (by omega))).trans h.box, (hk _ (by omega) (.inl (by omega))).trans h.res, (hk _ (by omega) (.inl (by omega))).trans h.out, own_same h.own fun g hg => hk g (by have := (h.own.lt g hg).1; omega) (.inr hg)⟩
theorem Out15.top (h : Out15 w W now p n c nw v xs) : w.heap.size + 3 ≤ W.heap.size := (Array.getElem?_eq_some_iff.1 h.out).1
theorem Adv15.below (h : Adv15 w W now p n c nw v u xs ys) (hb : Below W.heap.size W W2) : Adv15 w W2 now p n c nw v u xs ys := by
  have ht := h.o.top
  refine ⟨h.o.keep (ahead h.o.below hb) fun g h0 h1 => hb.block g ?_, own_same h.fir fun g hg => hb.block g (h.fir.lt g hg).2, h.apart⟩
  rcases h1 with h1 | h1
  · omega
  · exact (h.o.own.lt g h1).2
/-- A timer that stays. -/
theorem Adv15.more {t : Tm} (h : Adv15 w W now p n c nw v u xs ys) (hb : Below W.heap.size W W2) (hr : w3.ownsRow (w.heap.size + 3) 49 2 v' (xs ++ [t]).length (tmv (xs ++ [t]))) (hg : W2.grownBy w3 v.ownBlock) (hw : ∀ g, v'.ownBlock = some g → v.ownBlock = some g ∨ W2.heap.size ≤ g) :
    Adv15 w (w3.setCell ⟨w.heap.size + 2, 1, none⟩ v') now p n c nw v' u (xs ++ [t]) ys := by
  refine ⟨h.o.more hb hr hg, own_same h.fir fun g hg' => ?_, fun g hg' e => ?_⟩
  · have h1 := h.fir.lt g hg'
    refine (Below.heap_setCell _ _ _ _ (by show g ≠ w.heap.size + 2; omega)).trans ((hg.block g (by have := hb.size; omega) fun e => h.apart g e.symm hg').trans (hb.block g h1.2))
  · rcases hw g hg' with h1 | h1
    · exact h.apart g h1 e
    · have := (h.fir.lt g e).2
      have := hb.size
      omega
/-- One that fires. -/
theorem Adv15.fire {i : Int} (h : Adv15 w W now p n c nw v u xs ys) (hb : Below W.heap.size W W2) (hr : w3.ownsRow (w.heap.size + 3) 3 1 u' (ys ++ [i]).length (iv (ys ++ [i]))) (hg : W2.grownBy w3 u.ownBlock) (hw : ∀ g, u'.ownBlock = some g → u.ownBlock = some g ∨ W2.heap.size ≤ g) :
    Adv15 w w3 now p n c nw v u' xs (ys ++ [i]) := by
  have b2 := ahead h.o.below hb
  have ht := h.o.top
  have hz := hb.size
  have hfar : ∀ g, u.ownBlock = some g → w.heap.size + 3 ≤ g := fun g hg => (h.fir.lt g hg).1
  refine ⟨h.o.keep (b2.trans ⟨hg.os, hg.tape, hg.output, hg.size, fun k hk => hg.block k (by omega) (fun e => by have := hfar k e.symm; omega)⟩) fun g h0 h1 => ?_, hr, fun g hg' e => ?_⟩
  · have hlt : g < W.heap.size := by
      rcases h1 with h1 | h1
      · omega
      · exact (h.o.own.lt g h1).2
    refine (hg.block g (by omega) fun e => ?_).trans (hb.block g hlt)
    rcases h1 with h1 | h1
    · have := hfar g e.symm; omega
    · exact h.apart g h1 e.symm
  · rcases hw g e with h1 | h1
    · exact h.apart g hg' h1
    · have := (h.o.own.lt g hg').2
      omega
end

namespace Ck
theorem late_take {l : List Tm} {k : Nat} {t : Tm} (m : Int) (h : l[k]? = some t) : (l.take (k + 1)).filter (fun t => decide (m < t.due)) = (l.take k).filter (fun t => decide (m < t.due)) ++ (if m < t.due then [t] else []) := by
  rw [List.take_add_one, h, List.filter_append]
  by_cases hb : m < t.due <;> simp [hb]
theorem due_take {l : List Tm} {k : Nat} {t : Tm} (m : Int) (h : l[k]? = some t) : ((l.take (k + 1)).filter (fun t => decide (t.due ≤ m))).map Tm.id = ((l.take k).filter (fun t => decide (t.due ≤ m))).map Tm.id ++ (if t.due ≤ m then [t.id] else []) := by
  rw [List.take_add_one, h, List.filter_append, List.map_append]
  by_cases hb : t.due ≤ m <;> simp [hb]
end Ck

set_option maxHeartbeats 8000000 in
theorem radvance_any (x : Cs) (n : Int) (p : Option Addr) (c : Nat) (w : World) (hL : TS w (.slice p x.l.length c) x.l) (hl : x.l.length ≤ 1000000) (hv : ∀ g, (Value.slice p x.l.length c).ownBlock = some g → g < w.heap.size) (hs : Small x) :
    Calls Try.prog 14 #[.agg #[.int .i64 x.now, .slice p x.l.length c], .int .i64 n] w fun e w' => ∃ q d q2 d2, e = .returned (.tuple #[.agg #[.int .i64 (advC x n).now, .slice q (advC x n).l.length d], .slice q2 (advL x n).length d2, .int .i64 (advE n)]) ∧ TS w' (.slice q (advC x n).l.length d) (advC x n).l ∧ IS w' (.slice q2 (advL x n).length d2) (advL x n) ∧ Below w.heap.size w w' ∧ (∀ g, (Value.slice q (advC x n).l.length d).ownBlock = some g → g < w'.heap.size) ∧ ∀ g, (Value.slice q2 (advL x n).length d2).ownBlock = some g → w.heap.size ≤ g ∧ g < w'.heap.size := by
  obtain ⟨now, l⟩ := x
  obtain ⟨hn0, hn1, hd⟩ := hs
  simp only at hn0 hn1 hd hl hL hv
  unfold advC advL advE
  cases hb : badN n 0 with
  | true =>
    simp only [if_true]
    have hcond : n < 0 ∨ (0 ≤ n ∧ 1073741824 < n) := by unfold badN at hb; simp at hb; omega
    obtain ⟨w0, hw0⟩ : ∃ w0, (w.alloc (ob15 now (.slice p l.length c))).alloc (ob15 now (.slice p l.length c)) = w0 := ⟨_, rfl⟩
    have b0 : Below w.heap.size w w0 := by rw [← hw0]; exact ahead (below_box _ _) (below_box _ _)
    have h1 : w0.heap[w.heap.size + 1]? = some (ob15 now (.slice p l.length c)) := by
      rw [← hw0]
      have := heap_alloc_new (w.alloc (ob15 now (.slice p l.length c))) (ob15 now (.slice p l.length c))
      simpa using this
    have hz0 := b0.size
    have HF := Lib.hid (And.intro h1 (And.intro (hL.below b0) (And.intro b0 (fun g hg => show g < w0.heap.size by have := hv g hg; omega))))
    have W0 := Lib.hid hw0
    clear hw0 b0 h1 hz0 hL hv hd hn0 hn1 hb
    rcases hcond with h | ⟨h, h'⟩
    · go_enter Try.func14, Try.ntmps14
      go_wp2_with fail
      rw [W0.out]
      refine bodyPost_ret (results_triple15 rfl _ _ (w.heap.size + 1) 28 _ (0, 0) _ rfl HF.out.1 Try.underlying28 rfl (by kernel_rfl)) rfl ?_
      exact ⟨p, c, none, 0, rfl, HF.out.2.1, RS.nil _ _, HF.out.2.2.1, HF.out.2.2.2, fun g hg => by simp [Value.ownBlock] at hg⟩
    · have hnn : ¬ n < 0 := by omega
      go_enter Try.func14, Try.ntmps14
      go_wp2_with fail
      rw [W0.out]
      refine bodyPost_ret (results_triple15 rfl _ _ (w.heap.size + 1) 28 _ (0, 0) _ rfl HF.out.1 Try.underlying28 rfl (by kernel_rfl)) rfl ?_
      exact ⟨p, c, none, 0, rfl, HF.out.2.1, RS.nil _ _, HF.out.2.2.1, HF.out.2.2.2, fun g hg => by simp [Value.ownBlock] at hg⟩
  | false =>
    simp only [Bool.false_eq_true, if_false]
    have hcond : ¬ n < 0 ∧ ¬ 1073741824 < n := by unfold badN at hb; simp at hb; omega
    obtain ⟨h0, h1⟩ := hcond
    have hw : IntKind.i64.wrap (now + n) = now + n := IntWalk.i64_in _ (by omega)
    have HO := Lib.hid (Adv15.mk (u := .slice none 0 0) (ys := []) (Out15.made w now p l.length c (now + n)) (World.ownsRow_nil _ (w.heap.size + 3) 3 1) (fun g hg => by simp [Value.ownBlock] at hg))
    have HL := Lib.hid hL
    have HD := Lib.hid hd
    obtain ⟨m, hm⟩ : ∃ m, now + n = m := ⟨_, rfl⟩
    have hwm : IntKind.i64.wrap (now + n) = m := by rw [hw, hm]
    clear hw
    rw [hm] at HO ⊢
    obtain ⟨w0, hw0⟩ : ∃ w0, ((w.alloc (ob15 now (.slice p l.length c))).alloc (ob15 0 (.slice none 0 0))).alloc (ob15 m (.slice none 0 0)) = w0 := ⟨_, rfl⟩
    rw [hw0] at HO
    have W0 := Lib.hid hw0
    clear hw0 hL hd hb hm hv
    go_enter Try.func14, Try.ntmps14
    go_wp2_with fail
    rw [W0.out]
    go_loopw [8, 9] (fun u i wr => ∃ (k : Nat) (v : Value), k ≤ l.length ∧ i = .int .i64 k ∧ Hid (Adv15 w wr now p l.length c m v u ((l.take k).filter fun t => decide (m < t.due)) (((l.take k).filter fun t => decide (t.due ≤ m)).map Tm.id))) (fun _ i _ => l.length - (intOf i).toNat)
    case atStart => exact ⟨0, _, Nat.zero_le _, rfl, HO⟩
    case round =>
      clear HO
      obtain ⟨k, v, hk, rfl, HB⟩ := hrel
      obtain ⟨⟨c0, c1⟩, -⟩ := two15 HB.out.o.box
      obtain ⟨⟨d0, d1⟩, df⟩ := two15 HB.out.o.out
      have d0' : wr.cell? ⟨w.heap.size + 1 + 1, 0, none⟩ = some (.int .i64 m) := d0
      by_cases hlt : k < l.length
      · obtain ⟨t, ht⟩ : ∃ t, l[k]? = some t := ⟨_, List.getElem?_eq_getElem hlt⟩
        obtain ⟨-, ad, rfl, e0, e1⟩ := (HL.out.below HB.out.o.below).at ht
        have hlate := late_take m ht
        have hdue := due_take m ht
        have hkl : (k : Int) < (l.length : Int) := by omega
        have hbd : Below wr.heap.size wr wr.drew := (Below.refl _ _).drew
        have HBD := Lib.hid (HB.out.below hbd)
        have hl1 : ((l.take k).filter fun t => decide (m < t.due)).length ≤ 1000000 := Nat.le_trans (List.length_filter_le _ _) (by simp; omega)
        have hl2 : (((l.take k).filter fun t => decide (t.due ≤ m)).map Tm.id).length ≤ 1000000 := by rw [List.length_map]; exact Nat.le_trans (List.length_filter_le _ _) (by simp; omega)
        have hsz := HB.out.o.top
        by_cases hb : t.due ≤ m
        · rw [if_neg (by omega), List.append_nil] at hlate
          rw [if_pos hb] at hdue
          obtain ⟨w2, hw2⟩ : ∃ w2, wr.drew.alloc (.cells #[.int .i64 t.id] 3) = w2 := ⟨_, rfl⟩
          have b2 : Below wr.drew.heap.size wr.drew w2 := by rw [← hw2]; exact below_box _ _
          have his : IS w2 (.slice (some ⟨wr.heap.size, 0, none⟩) 1 1) [t.id] := by rw [← hw2]; exact is_one wr.drew t.id _
          have z2 := b2.size
          have zd : wr.drew.heap.size = wr.heap.size := rfl
          obtain ⟨u', w3, hrun, hown, hg, hwh⟩ := append_iv9 w2 (37) (w.heap.size + 3) _ _ _ _ (own_same HBD.out.fir fun g hg => b2.block g (HBD.out.fir.lt g hg).2) his (by simp at hl2 ⊢; omega) (by omega)
          have hN := HBD.out.fire b2 hown hg hwh
          rw [← hdue, ← hlate] at hN
          have HN := Lib.hid hN
          have HR := Lib.hid hrun
          obtain ⟨i1, due⟩ := t
          subst hw2
          clear hN hrun hown hg hwh his b2 z2 zd hlate hdue ht hl1 hl2 hbd d1 df
          go_wp2_with fail
          go_region
          all_goals
            go_wp2_with (at_builtin; refine wpList_append_run rfl (.tmp 38) (.tmp 45) 37 rfl _ _ _ _ rfl rfl HR.out ?_)
            go_roundw
            case rel => exact ⟨k + 1, v, by omega, by go_num, HN⟩
            case measure => simp [intOf]; omega
        · rw [if_pos (by omega)] at hlate
          rw [if_neg hb, List.append_nil] at hdue
          obtain ⟨w2, hw2⟩ : ∃ w2, (wr.drew.alloc (.cells #[.int .i64 t.id, .int .i64 t.due] 49)).drew = w2 := ⟨_, rfl⟩
          have b2 : Below wr.drew.heap.size wr.drew w2 := by rw [← hw2]; exact (below_box wr.drew _).drew
          have hts : TS w2 (.slice (some ⟨wr.heap.size, 0, none⟩) 1 1) [t] := by rw [← hw2]; exact RS.below (ts_one wr.drew t 49) ((Below.refl _ _).drew)
          have z2 := b2.size
          have zd : wr.drew.heap.size = wr.heap.size := rfl
          obtain ⟨v', w3, hrun, hown, hg, hwh⟩ := append_tm9 w2 (26) (w.heap.size + 3) _ _ _ _ (own_same HBD.out.o.own fun g hg => b2.block g (HBD.out.o.own.lt g hg).2) hts (by simp at hl1 ⊢; omega) (by omega)
          have hN := HBD.out.more b2 hown hg hwh
          rw [← hlate, ← hdue] at hN
          have HN := Lib.hid hN
          have hlt2 := (Array.getElem?_eq_some_iff.1 HB.out.o.out).1
          have hO := (hg.block (w.heap.size + 2) (by omega) (fun e => by have := HB.out.o.far e.symm; omega)).trans ((b2.block _ hlt2).trans HBD.out.o.out)
          obtain ⟨⟨-, g1⟩, gf⟩ := two15 hO
          have d1' : wr.cell? ⟨w.heap.size + 1 + 1, 1, none⟩ = some v := d1
          have g1' : w3.cell? ⟨w.heap.size + 1 + 1, 1, none⟩ = some v := g1
          have gf' : w3.frozen? ⟨w.heap.size + 1 + 1, 1, none⟩ = false := gf 1
          have hlt2' : w.heap.size + 1 + 1 < wr.heap.size := hlt2
          have HR := Lib.hid hrun
          obtain ⟨i1, due⟩ := t
          subst hw2
          obtain ⟨pv, nv, cv, rfl⟩ := own_slice HB.out.o.own
          obtain ⟨pw, nw, cw, rfl⟩ := own_slice hown
          clear hN hrun hown hg hwh hts b2 z2 zd hlate hdue ht hl1 hl2 hbd d1 df g1 gf hO hlt2
          go_wp2_with fail
          go_region
          all_goals
            go_wp2_with fail
            go_region_law (refine step_append_run rfl (.tmp 48) (.tmp 54) 26 rfl (.slice pv nv cv) (.slice (some ⟨wr.heap.size, 0, none⟩) 1 1) (.slice pw nw cw) w3 (by simp [Act.eval]) (by simp [Act.eval]) (HR.out) ?_)
          all_goals
            go_wp2_with fail
            go_roundw
            case rel => exact ⟨k + 1, .slice pw nw cw, by omega, by go_num, HN⟩
            case measure => simp [intOf]; omega
      · obtain rfl : k = l.length := by omega
        rw [List.take_length] at *
        have d1' : wr.cell? ⟨w.heap.size + 1 + 1, 1, none⟩ = some v := d1
        obtain ⟨⟨r0, r1⟩, rf⟩ := two15 HB.out.o.res
        have rf0 := rf 0
        have rf1 := rf 1
        obtain ⟨pv, cv, hv1, hv2, hv3⟩ := RS.slice (RS.of_own HB.out.o.own)
        obtain ⟨pu, cu, hu1, hu2, hu3⟩ := RS.slice (RS.of_own HB.out.fir)
        subst hv1 hu1
        obtain ⟨f1, f2, f3⟩ := fin15 (now := m) (v := .slice pv (l.filter fun t => decide (m < t.due)).length cv) HB.out.o.res (by omega) HB.out.o.below
        have hfar1 := fun g hg => HB.out.o.own.lt g hg
        have hfar2 := fun g hg => HB.out.fir.lt g hg
        obtain ⟨w5, hw5⟩ : ∃ w5, (wr.setCell ⟨w.heap.size + 1, 0, none⟩ (.int .i64 m)).setCell ⟨w.heap.size + 1, 1, none⟩ (.slice pv (l.filter fun t => decide (m < t.due)).length cv) = w5 := ⟨_, rfl⟩
        have hz5 : w5.heap.size = wr.heap.size := by rw [← hw5]; simp [World.setCell]
        rw [hw5] at f1 f2 f3
        have HQ := Lib.hid (And.intro f1 (And.intro (show TS w5 _ _ from RS.of_own (own_same HB.out.o.own fun g hg => f3 g (by have := (hfar1 g hg).1; omega))) (And.intro (show IS w5 _ _ from RS.of_own (own_same HB.out.fir fun g hg => f3 g (by have := (hfar2 g hg).1; omega))) (And.intro f2 (And.intro (fun g hg => show g < w5.heap.size by have := hfar1 g hg; omega) (fun g hg => show w.heap.size ≤ g ∧ g < w5.heap.size by have := hfar2 g hg; omega))))))
        have W5 := Lib.hid hw5
        clear hw5 hz5 f1 f2 f3 hfar1 hfar2 rf hv2 hv3 hu2 hu3 d0 d1 df
        go_wp2_with fail
        rw [W5.out]
        refine bodyPost_ret (results_triple15 rfl _ _ (w.heap.size + 1) 28 _ (0, 0) _ rfl HQ.out.1 Try.underlying28 rfl (by kernel_rfl)) rfl ?_
        exact ⟨pv, cv, pu, cu, rfl, HQ.out.2.1, HQ.out.2.2.1, HQ.out.2.2.2.1, HQ.out.2.2.2.2.1, HQ.out.2.2.2.2.2⟩

end Go.Proofs.Ytcmkdeejofoibaa
