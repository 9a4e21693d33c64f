/- The law BodyChunkings. -/
import Derived.Test.YtdbignianpkofaaDoorBodyExts
namespace Go.Proofs.YtdbignianpkofaaDoor
open Go.ChangeShapes Go.WideShapes Go.ChangeAt Go.RowKit
open Go.Shelf
open Oc Fl Bk Bd
set_option linter.unusedVariables false
set_option maxRecDepth 100000

theorem slc_info : (Tryd.prog.info? 22).map (fun i => (i.zero, i.size, i.bytes)) = some (some (.slice none 0 0), 1, 24) := by kernel_rfl

/-- Chunks that a call gathers: each is a part of bytes that lay there before. -/
structure ToldC (w wr : World) (v : Value) (L : List (List UInt8)) : Prop where
  own : ∃ us, wr.ownsRow w.heap.size 22 1 v L.length us ∧ us.length = L.length ∧ (∀ u ∈ us, u.oneCell' = true) ∧ ∀ (i : Nat) (u : Value) (x : List UInt8), us[i]? = some u → L[i]? = some x → RD w u x
  below : Below w.heap.size w wr
theorem ToldC.start (w wr : World) (h : Below w.heap.size w wr) : ToldC w wr (.slice none 0 0) [] := ⟨⟨[], World.ownsRow_nil _ _ _ _, rfl, (fun u h => by cases h), fun i u x hu => by simp at hu⟩, h⟩
theorem ToldC.next {w wr w' : World} {v : Value} {L : List (List UInt8)} (h : ToldC w wr v L) (hb : Below wr.heap.size wr w') : ToldC w w' v L := by
  obtain ⟨⟨us, h1, h2, h3, h4⟩, h5⟩ := h
  refine ⟨⟨us, ⟨h1.1, ?_⟩, h2, h3, h4⟩, ahead h5 hb⟩
  rcases h1.2 with h' | ⟨g, cap, cur, rfl, hb', hh, rest⟩
  · exact .inl h'
  · exact .inr ⟨g, cap, cur, rfl, hb', (hb.block g (Array.getElem?_eq_some_iff.1 hh).1).trans hh, rest⟩
theorem rs_one (W : World) (s : Value) (t : TypeId) : RS (W.alloc (.cells #[s] t)) 1 (.slice (some ⟨W.heap.size, 0, none⟩) 1 1) 1 [s] := by
  refine ⟨rfl, some ⟨W.heap.size, 0, none⟩, 1, rfl, Nat.le_refl _, by decide, (fun h => by cases h), fun ad hp i u hu => ?_⟩
  cases hp
  match i, hu with
  | 0, hu =>
    simp at hu
    subst hu
    rw [Addr.add_zero']
    rw [cell_of_row _ _ 0 #[s] _ _ (heap_alloc_new W _)]
    rfl
  | i + 1, hu => simp at hu
theorem ToldC.more {w wr : World} {v s : Value} {x : List UInt8} {L : List (List UInt8)} (h : ToldC w wr v L) (hx : RD w s x) (ty : TypeId) (hl : L.length ≤ 1000000) :
    ∃ v' w', (Builtin.append_ #[44, 44] ty #[v, .slice (some ⟨wr.heap.size, 0, none⟩) 1 1]).run Tryd.prog (wr.alloc (.cells #[s] 22)) = .ok v' w' ∧ ToldC w w' v' (L ++ [x]) := by
  have h1 := h.next (below_box wr (.cells #[s] 22))
  have hz := h1.below.size
  have hs : s.oneCell' = true := by obtain ⟨p, c, rfl, -⟩ := hx; rfl
  obtain ⟨i0, hi, hz0, hz1, hz2⟩ := info_parts slc_info
  obtain ⟨⟨us, o1, o2, o3, o4⟩, o5⟩ := h1
  obtain ⟨v', w', r0, r1, r2⟩ := run_append_rs (wr.alloc (.cells #[s] 22)) 44 ty 22 i0 _ 1 24 Tryd.underlying44 hi hz0 hz1 hz2 rfl (by decide) w.heap.size v _ _ _ _ _ o1 (rs_one wr s _) (fun u hu => by rw [List.mem_singleton.1 hu]; exact hs) (by omega) (by omega) hz
  refine ⟨v', w', r0, ⟨us ++ [s], by rw [List.length_append]; exact r1, by simp [o2], fun u hu => ?_, fun i u y hu hy => ?_⟩, o5.grown r2 hz (fun k hk => (o1.lt k hk).1)⟩
  · rcases List.mem_append.1 hu with hu | hu
    · exact o3 u hu
    · rw [List.mem_singleton.1 hu]; exact hs
  · by_cases hlt : i < us.length
    · rw [List.getElem?_append_left hlt] at hu
      rw [List.getElem?_append_left (by omega)] at hy
      exact o4 i u y hu hy
    · rw [List.getElem?_append_right (by omega)] at hu hy
      have h0 : i - us.length = 0 := by have := (List.getElem?_eq_some_iff.1 hu).1; simp at this; omega
      rw [h0] at hu
      rw [← o2, h0] at hy
      simp at hu hy
      subst hu
      subst hy
      exact hx
theorem ToldC.cs {w wr : World} {v : Value} {L : List (List UInt8)} (h : ToldC w wr v L) : CS wr v L := by
  obtain ⟨⟨us, h1, h2, h3, h4⟩, h5⟩ := h
  exact ⟨us, RS.of_own h1, h2, fun i u x hu hx => (h4 i u x hu hx).below h5⟩
theorem rest_len {L : List (List UInt8)} {R D : List UInt8} (h : L.flatten ++ R = D) : R.length ≤ D.length := by rw [← h]; simp

set_option maxHeartbeats 8000000 in
theorem chunkings8_walk (D C : List UInt8) (p q : Option Addr) (c d : Nat) (w : World) (hD : RD w (.slice p D.length c) D) (hC : RD w (.slice q C.length d) C) (hsp : Spans w) (hbd : Bound w) :
    Calls Tryd.prog 8 #[.slice p D.length c, .slice q C.length d] w fun e w' => e = .returned (.bool true) ∧ Below w.heap.size w w' := by
  have HWK := Lib.hid (wakes8 w hsp hbd)
  have HC := Lib.hid hC
  have HD := Lib.hid hD
  have HSP := Lib.hid hsp
  have HBD := Lib.hid hbd
  clear hC hD hsp hbd
  go_enter Tryd.func8, Tryd.ntmps8
  go_wp2_with fail
  refine HWK.out.mono ?_
  rintro e w1 ⟨rfl, hb1⟩
  have B1 := Lib.hid hb1
  clear hb1 HWK
  by_cases hn : 300 < D.length
  · have hn' : (300 : Int) < (D.length : Int) := by omega
    go_wp2_with fail
    go_ret
    exact ⟨rfl, B1.out⟩
  have hn' : ¬ (300 : Int) < (D.length : Int) := by omega
  by_cases hm : 20 < C.length
  · have hm' : (20 : Int) < (C.length : Int) := by omega
    go_wp2_with fail
    go_ret
    exact ⟨rfl, B1.out⟩
  have hm' : ¬ (20 : Int) < (C.length : Int) := by omega
  go_wp2_with fail
  go_loopw [5, 6, 26] (fun v rv i wr => ∃ (k : Nat) (L : List (List UInt8)) (R : List UInt8) (pr : Option Addr) (nr cr : Nat), k ≤ C.length ∧ i = .int .i64 k ∧ rv = .slice pr nr cr ∧ nr ≤ cr ∧ Hid (L.length = k ∧ R.length = nr ∧ ToldC w wr v L ∧ RD w (.slice pr nr cr) R ∧ L.flatten ++ R = D)) (fun _ _ i _ => C.length - (intOf i).toNat)
  case atStart =>
    refine ⟨0, [], D, p, D.length, c, Nat.zero_le _, rfl, rfl, ?_, Lib.hid ⟨rfl, rfl, ToldC.start w w1 B1.out, HD.out, rfl⟩⟩
    obtain ⟨_, _, e, q1, _⟩ := HD.out
    cases e
    exact q1
  case round =>
    obtain ⟨k, L, R, pr, nr, cr, hk, rfl, rfl, hnc, HH⟩ := hrel
    by_cases hlt : k < C.length
    · have hcw := HC.out.below HH.out.2.2.1.below
      obtain ⟨ad, rfl, c0⟩ := hcw.cellAt hlt
      generalize hbb : C[k] = b at *
      clear hbb hcw
      have b0 : (0 : Int) ≤ (b.toNat : Int) := by omega
      have b1 : (b.toNat : Int) ≤ 255 := by have := b.toNat_lt; omega
      have hq : IntKind.i64.wrap (b.toNat : Int) = (b.toNat : Int) := IntWalk.i64_in _ (by omega)
      obtain ⟨m, hm⟩ : ∃ m, min b.toNat nr = m := ⟨_, rfl⟩
      have hmin : min (b.toNat : Int) (nr : Int) = (m : Int) := by omega
      have hmn : m ≤ nr := by omega
      obtain ⟨h1, h2, h3, h4, h5⟩ := HH.out
      have hx := h4.part (i := 0) (j := m) (m := cr) (Nat.zero_le _) (by omega) (by omega) (Nat.le_refl _)
      rw [List.drop_zero] at hx
      obtain ⟨xv, hxv⟩ : ∃ xv, sliced pr 0 m cr 1 = xv := ⟨_, rfl⟩
      have hcx : ∀ W, (Instr.slice 22 (.slice pr nr cr) none (some (.int .i64 (m : Int))) none).run Tryd.prog W = .ok xv W := fun W => hxv ▸ cut_h pr nr cr m (by omega) W
      rw [hxv] at hx
      obtain ⟨px, cx, rfl, hxl, -⟩ := id hx
      have hxm : (R.take m).length = m := by rw [List.length_take, h2]; omega
      rw [hxm] at hx hcx hxl
      have hy := h4.part (i := m) (j := nr) (m := cr) hmn (by omega) hnc (Nat.le_refl _)
      obtain ⟨yv, hyv⟩ : ∃ yv, sliced pr m nr cr 1 = yv := ⟨_, rfl⟩
      have hcy : ∀ W, (Instr.slice 22 (.slice pr nr cr) (some (.int .i64 (m : Int))) none none).run Tryd.prog W = .ok yv W := fun W => hyv ▸ cut_l pr nr cr m hmn W
      rw [hyv] at hy
      have e2 : (R.take nr).drop m = R.drop m := by rw [← h2, List.take_length]
      rw [e2] at hy
      obtain ⟨pr', cr', rfl, hyl, -⟩ := id hy
      have hdl : (R.drop m).length = nr - m := by rw [List.length_drop, h2]
      rw [hdl] at hy hyl
      obtain ⟨v', w', r0, r1⟩ := h3.more hx 44 (by omega)
      have HN := Lib.hid (show (L ++ [R.take m]).length = k + 1 ∧ (R.drop m).length = nr - m ∧ ToldC w w' v' (L ++ [R.take m]) ∧ RD w (.slice pr' (nr - m) cr') (R.drop m) ∧ (L ++ [R.take m]).flatten ++ R.drop m = D from
        ⟨by simp [h1], hdl, r1, hy, by rw [← h5]; simp⟩)
      have HR := Lib.hid r0
      rw [hdl] at hcy
      clear r0 r1 hx hy hxv hyv e2 h1 h2 h3 h4 h5 hdl HH hm hxm
      go_wp2_with (at_builtin; refine wpList_append_run rfl (.tmp 35) (.tmp 39) 44 rfl _ _ _ _ rfl rfl HR.out ?_)
      go_roundw
      case rel => exact ⟨k + 1, _, _, _, _, _, by omega, by go_num, rfl, hyl, HN⟩
      case measure => simp [intOf]; omega
    · obtain rfl : k = C.length := by omega
      obtain ⟨h1, h2, h3, h4, h5⟩ := HH.out
      have hrl := rest_len h5
      obtain ⟨v', w', r0, r1⟩ := h3.more h4 44 (by omega)
      have hflat : (L ++ [R]).flatten = D := by rw [← h5]; simp
      have hLl : (L ++ [R]).length = C.length + 1 := by simp [h1]
      have hcs := r1.cs
      obtain ⟨pL, cL, rfl, -⟩ := hcs.slice
      have HCS := Lib.hid hcs
      have HFL := Lib.hid hflat
      have HLL := Lib.hid hLl
      have BB := Lib.hid r1.below
      have HR := Lib.hid r0
      have HPU := Lib.hid (rput8_any (L ++ [R]) [] [] pL none cL 0 w' hcs (RS.nil w' 2) (by rw [hLl]; omega) (by rw [hflat]; omega) (by simp) (by simp [bulk]))
      rw [hLl] at HPU HR
      clear r0 r1 hcs h1 h2 h3 h4 h5 hflat HH hLl
      go_wp2_with (at_builtin; refine wpList_append_run rfl (.tmp 45) (.tmp 47) 44 rfl _ _ _ _ rfl rfl HR.out ?_)
      refine HPU.out.mono ?_
      rintro e w3 ⟨sv, rfl, hs, hb3⟩
      have hbd := bod_len [] (L ++ [R]) [] (by rw [HFL.out]; omega)
      rw [HFL.out, HLL.out] at hbd
      simp only [List.length_nil, show (body []).length = 0 from rfl] at hbd
      have hb0 : 0 < (bod [] (L ++ [R]) []).length := by unfold bod; simp; omega
      have hown3 : ∀ g, sv.ownBlock = some g → g < w3.heap.size := by
        intro g hg
        obtain ⟨kk, e1, e2⟩ := hs.lt (fun e => by rw [e] at hb0; simp at hb0)
        rw [hg] at e1
        cases e1
        exact e2
      have BB3 := Lib.hid (ahead BB.out hb3)
      obtain ⟨ps, ks, rfl, -⟩ := id hs
      obtain ⟨nb, hnb⟩ : ∃ nb, (bod [] (L ++ [R]) []).length = nb := ⟨_, rfl⟩
      have HSC := Lib.hid (scan_bod0 (E := 0) (e := []) (cs := L ++ [R]) (nf := D.length) (by rw [HFL.out]) hnb w3 hs (by omega) (by decide) (.inl rfl) (by omega) hown3 (HSP.out.below BB3.out) (HBD.out.below BB3.out))
      rw [hnb] at HSC ⊢
      clear hs hb3 hbd hb0 hown3 hnb HPU
      go_wp2_with fail
      refine HSC.out.mono ?_
      rintro e w4 ⟨p1, c1, p2, c2, rfl, hd, hb4⟩
      rw [HFL.out] at hd
      obtain ⟨w5, hw5⟩ : ∃ w5, w4.alloc (.cells #[.slice p1 D.length c1, .slice p2 0 c2, .int .i64 (nb : Int)] 28) = w5 := ⟨_, rfl⟩
      have b5 : Below w4.heap.size w4 w5 := by rw [← hw5]; exact below_box _ _
      have g5 : w5.heap[w4.heap.size]? = some (.cells #[.slice p1 D.length c1, .slice p2 0 c2, .int .i64 (nb : Int)] 28 (0, 0)) := by rw [← hw5]; exact World.alloc_heap_new w4 _
      have z5 : w5.heap.size = w4.heap.size + 1 := by rw [← hw5]; simp
      have BB5 := Lib.hid (ahead (ahead BB3.out hb4) b5)
      have HRS := Lib.hid (rsame8_any w5 _ _ D D (hd.below b5) (HD.out.below BB5.out))
      rw [decide_eq_true rfl] at HRS
      obtain ⟨⟨y0, y1, y2⟩, -⟩ := three_cells8 g5
      have W5 := Lib.hid hw5
      clear hb4 b5 g5 hw5 hd HSC
      go_wp2_with fail
      rw [W5.out]
      refine HRS.out.mono ?_
      rintro e w6 ⟨rfl, m', rfl⟩
      go_wp2_with fail
      go_ret
      exact ⟨rfl, drewN_in BB5.out m'⟩

end Go.Proofs.YtdbignianpkofaaDoor
