/- The program's clock: Advance. -/
import Derived.Test.YtcmkdeejofoibaaClkAdvI
namespace Go.Proofs.Ytcmkdeejofoibaa
open Go.ChangeShapes Go.WideShapes Go.ChangeAt Go.RowKit
open Ck
set_option linter.unusedVariables false
set_option maxRecDepth 100000
attribute [local go_sem] Oper.semAt_some

theorem AdvI.start {R m : Nat} {x : Cs} {n : Int} {w w2 : World} (h : ClkAt R m x w) (hb : Below (((w.setCell ⟨R, 0, none⟩ (.int .i64 n)).alloc (.cells #[.pointer (some ⟨R, 0, none⟩)] 24)).alloc (.cells #[.slice none 0 0] 37)).heap.size (((w.setCell ⟨R, 0, none⟩ (.int .i64 n)).alloc (.cells #[.pointer (some ⟨R, 0, none⟩)] 24)).alloc (.cells #[.slice none 0 0] 37)) w2) (H : Nat) : AdvI w R m H n x.l [] w2 := by
  have hR := h.ltR
  have hm := h.ltm
  have zs : (w.setCell ⟨R, 0, none⟩ (.int .i64 n)).heap.size = w.heap.size := by simp [World.setCell]
  have ba := ahead (below_box (w.setCell ⟨R, 0, none⟩ (.int .i64 n)) (.cells #[.pointer (some ⟨R, 0, none⟩)] 24)) (below_box ((w.setCell ⟨R, 0, none⟩ (.int .i64 n)).alloc (.cells #[.pointer (some ⟨R, 0, none⟩)] 24)) (.cells #[.slice none 0 0] 37))
  have g0 := heap_alloc_new (w.setCell ⟨R, 0, none⟩ (.int .i64 n)) (.cells #[.pointer (some ⟨R, 0, none⟩)] 24)
  have g1 := heap_alloc_new ((w.setCell ⟨R, 0, none⟩ (.int .i64 n)).alloc (.cells #[.pointer (some ⟨R, 0, none⟩)] 24)) (.cells #[.slice none 0 0] 37)
  have bb := below_box ((w.setCell ⟨R, 0, none⟩ (.int .i64 n)).alloc (.cells #[.pointer (some ⟨R, 0, none⟩)] 24)) (.cells #[.slice none 0 0] 37)
  have hbox := (Below.heap_alloc (w.setCell ⟨R, 0, none⟩ (.int .i64 n)) (.cells #[.pointer (some ⟨R, 0, none⟩)] 24) R (by omega)).trans (heap_set (.int .i64 n) h.box)
  have hmap := (Below.heap_alloc (w.setCell ⟨R, 0, none⟩ (.int .i64 n)) (.cells #[.pointer (some ⟨R, 0, none⟩)] 24) m (by omega)).trans (Below.heap_setCell w ⟨R, 0, none⟩ (.int .i64 n) m (Ne.symm h.ne))
  have zb : ((w.setCell ⟨R, 0, none⟩ (.int .i64 n)).alloc (.cells #[.pointer (some ⟨R, 0, none⟩)] 24)).heap.size = w.heap.size + 1 := by simp [zs]
  have zc : (((w.setCell ⟨R, 0, none⟩ (.int .i64 n)).alloc (.cells #[.pointer (some ⟨R, 0, none⟩)] 24)).alloc (.cells #[.slice none 0 0] 37)).heap.size = w.heap.size + 2 := by simp [zs]
  rw [zb] at g1 bb
  rw [zs] at g0
  have hz2 := hb.size
  rw [zc] at hz2
  have hk : ∀ r, r < w.heap.size + 2 → w2.heap[r]? = _ := fun r hr => hb.block r (by omega)
  have hbox2 := ((hk R (by omega)).trans (bb.block R (by omega))).trans hbox
  have hmap2 := ((hk m (by omega)).trans (bb.block m (by omega))).trans hmap
  obtain ⟨D, ⟨es, clock, hb1, r⟩, hD⟩ := h.map
  refine ⟨⟨by simpa using hbox2, h.ne, D, ⟨es, clock, hmap2.trans hb1, r⟩, hD⟩, ((hk _ (by omega)).trans (bb.block _ (by omega))).trans g0, ⟨none, 0, 0, (hk _ (by omega)).trans g1, World.ownsRow_nil _ _ _ _⟩, ⟨hb.os, hb.tape, hb.output, by omega, fun r hr hn => ?_, fun k hk => .inl hk⟩, by omega, hR, hm⟩
  rw [hk r (by omega), bb.block r (by omega), Below.heap_alloc _ _ _ (by omega)]
  exact Below.heap_setCell w ⟨R, 0, none⟩ (.int .i64 n) r (fun e => hn (.inl e))

/-- Between two rounds: k timers have fired. B: the iterator's cell; D: the loop's blocks. -/
def AdvR (w : World) (R m : Nat) (now : Int) (L : List Tm) (B D H k : Nat) (W : World) : Prop :=
  (k = 0 → W.heap[B]? = some (.cells #[.pointer (some ⟨R, 0, none⟩)] 24 (0, 0))) ∧ AdvI w R m (max H (D + 2)) now (L.drop k) ((L.take k).map Tm.id) W ∧ ∀ t ∈ L.take k, t.due ≤ now
/-- At the first one that is not due. -/
def AdvX (w : World) (R m : Nat) (now : Int) (L : List Tm) (D H : Nat) (c : Code) (k : Nat) (W : World) : Prop :=
  c = .exit 0 ∧ ∃ j, AdvI w R m (max H (D + 2)) now (L.drop j) ((L.take j).map Tm.id) W ∧ (∀ t ∈ L.take j, t.due ≤ now) ∧ ∃ t, L[j]? = some t ∧ now < t.due

/-- What Advance answers. -/
def AdvQ (w : World) (R m : Nat) (now : Int) (L : List Tm) (e : Ending) (w' : World) : Prop :=
  ∃ (j : Nat) (p : Option Addr) (n c H D : Nat) (W : World), e = .returned (.tuple #[.slice p n c, .int .i64 0]) ∧ AdvI w R m H now (L.drop j) ((L.take j).map Tm.id) W ∧ W.cell? ⟨w.heap.size + 1, 0, none⟩ = some (.slice p n c) ∧ (∀ t ∈ L.take j, t.due ≤ now) ∧ (∀ t, L[j]? = some t → now < t.due) ∧ But D W w' ∧ w.heap.size + 2 ≤ D ∧ D + 2 ≤ H
theorem AdvQ.out {w w' : World} {R m : Nat} {now : Int} {L : List Tm} {e : Ending} (h : AdvQ w R m now L e w') (ho : L.Pairwise fun a b => lt a b = true) :
    ∃ p c, e = .returned (.tuple #[.slice p ((L.filter fun t => decide (t.due ≤ now)).map Tm.id).length c, .int .i64 0]) ∧ IS w' (.slice p ((L.filter fun t => decide (t.due ≤ now)).map Tm.id).length c) ((L.filter fun t => decide (t.due ≤ now)).map Tm.id) ∧ (∀ g, (Value.slice p ((L.filter fun t => decide (t.due ≤ now)).map Tm.id).length c).ownBlock = some g → w.heap.size ≤ g ∧ g < w'.heap.size) ∧
      ∃ N, C15 R ⟨now, L.filter fun t => decide (now < t.due)⟩ N w' ∧ Mv15 (fun g => g = R ∨ g = m) N w w' ∧ ∀ g, (Value.slice p ((L.filter fun t => decide (t.due ≤ now)).map Tm.id).length c).ownBlock = some g → ¬ N g := by
  obtain ⟨j, p, n, c, H, D, W, rfl, hi, hc, h1, h2, hb, hD, hH⟩ := h
  obtain ⟨e1, e2⟩ := fires_at ho h1 h2
  rw [e1, e2]
  generalize (L.take j).map Tm.id = out at *
  obtain ⟨p', n', c', hc', hrow'⟩ := hi.cell
  have := one15 hc'
  rw [hc] at this
  cases this
  have hi2 := hi.but hb hD hH
  have hrow := own_same hrow' fun g hg => hb.block g (hrow'.lt g hg).2 (by have := (hrow'.lt g hg).1; omega) (by have := (hrow'.lt g hg).1; omega)
  have hrs : IS w' (.slice p n c) out := RS.of_own hrow
  obtain ⟨h0, p', c', e, h3⟩ := id hrs
  cases e
  have hR := hi.hR
  have hm := hi.hm
  exact ⟨p, c, rfl, hrs, fun g hg => ⟨by have := (hrow.lt g hg).1; omega, (hrow.lt g hg).2⟩, _, ⟨m, rfl, hi2.clk⟩, hi2.mv, fun g hg hn => by have := (hrow.lt g hg).1; rcases hn with rfl | rfl <;> omega⟩

set_option maxHeartbeats 4000000 in
set_option maxRecDepth 100000 in
theorem advance15_any {R : Nat} {x : Cs} {M : Nat → Prop} (n : Int) (w : World) (h : C15 R x M w) (hf : Fit x) :
    Calls Try.prog 13 #[.pointer (some ⟨R, 0, none⟩), .int .i64 n] w fun e w' => ∃ p c, e = .returned (.tuple #[.slice p (advL x n).length c, .int .i64 (advE n)]) ∧ IS w' (.slice p (advL x n).length c) (advL x n) ∧ (∀ g, (Value.slice p (advL x n).length c).ownBlock = some g → w.heap.size ≤ g ∧ g < w'.heap.size) ∧ ∃ N, C15 R (advC x n) N w' ∧ Mv15 M N w w' ∧ ∀ g, (Value.slice p (advL x n).length c).ownBlock = some g → ¬ N g := by
  obtain ⟨m, rfl, h⟩ := h
  have hR := h.ltR
  have hm := h.ltm
  unfold advL advE advC
  cases hb : badN n 0 with
  | true =>
    rw [if_pos rfl, if_pos rfl, if_pos rfl]
    have hcond : n < 0 ∨ (0 ≤ n ∧ 1073741824 < n) := by unfold badN at hb; simp at hb; omega
    have bb := below_box w (.cells #[.pointer (some ⟨R, 0, none⟩)] 24)
    have HE := Lib.hid (And.intro (h.below bb) bb)
    clear h hf hb bb
    rcases hcond with hn | ⟨hn, hn'⟩
    · refine calls_of_marks Try.func13 rfl ?_
      simp only [Try.ntmps13, List.size_toArray, List.length_cons, List.length_nil, Nat.reduceAdd, Nat.reduceSub, Array.replicate_succ, Array.replicate_zero, List.push_toArray, List.append_toArray, List.nil_append, List.cons_append]
      go_wp2_with fail
      refine left_plain rfl (results_tmp2 rfl _ _ _) ?_ (.inl rfl)
      exact ⟨none, 0, rfl, RS.nil _ _, fun g hg => by simp [Value.ownBlock] at hg, _, ⟨m, rfl, HE.out.1⟩, Mv15.of_below HE.out.2, fun g hg => by simp [Value.ownBlock] at hg⟩
    · have hnn : ¬ n < 0 := by omega
      refine calls_of_marks Try.func13 rfl ?_
      simp only [Try.ntmps13, List.size_toArray, List.length_cons, List.length_nil, Nat.reduceAdd, Nat.reduceSub, Array.replicate_succ, Array.replicate_zero, List.push_toArray, List.append_toArray, List.nil_append, List.cons_append]
      go_wp2_with fail
      refine left_plain rfl (results_tmp2 rfl _ _ _) ?_ (.inl rfl)
      exact ⟨none, 0, rfl, RS.nil _ _, fun g hg => by simp [Value.ownBlock] at hg, _, ⟨m, rfl, HE.out.1⟩, Mv15.of_below HE.out.2, fun g hg => by simp [Value.ownBlock] at hg⟩
  | false =>
    rw [if_neg (by decide), if_neg (by decide), if_neg (by decide)]
    have hcond : ¬ n < 0 ∧ ¬ 1073741824 < n := by unfold badN at hb; simp at hb; omega
    obtain ⟨hn0, hn1⟩ := hcond
    have hw : IntKind.i64.wrap (x.now + n) = x.now + n := IntWalk.i64_in _ (by have := hf.now0; have := hf.now1; omega)
    have hb0 := below_box w (.cells #[.pointer (some ⟨R, 0, none⟩)] 24)
    obtain ⟨⟨c0, c1⟩, -⟩ := two15 h.box
    obtain ⟨⟨d0, d1⟩, df⟩ := two15 ((hb0.block R hR).trans h.box)
    have df0 := df 0
    obtain ⟨now', hnow⟩ : ∃ now', x.now + n = now' := ⟨_, rfl⟩
    have hw2 : wrap64 (x.now + n) = now' := by have := hf.now0; have := hf.now1; unfold wrap64; omega
    rw [hnow]
    suffices hS : Calls Try.prog 13 #[.pointer (some ⟨R, 0, none⟩), .int .i64 n] w (AdvQ w R m now' x.l) from hS.mono fun e w' hq => hq.out hf.ok.ord
    have HF := Lib.hid (And.intro h hf)
    clear h hf hb hb0 df hnow hw
    refine calls_of_marks Try.func13 rfl ?_
    simp only [Try.ntmps13, List.size_toArray, List.length_cons, List.length_nil, Nat.reduceAdd, Nat.reduceSub, Array.replicate_succ, Array.replicate_zero, List.push_toArray, List.append_toArray, List.nil_append, List.cons_append]
    have HS := Lib.hid (fun (w2 : World) (hb : Below _ _ w2) => AdvI.start (n := now') HF.out.1 (w2 := w2) hb)
    have hok : Ok ⟨now', x.l⟩ := ⟨HF.out.2.ok.ord, HF.out.2.ok.ids⟩
    have hlen : x.l.length ≤ 1000000 := by have := HF.out.2.len; omega
    have HID := Lib.hid HF.out.2.idw
    have HLN := Lib.hid HF.out.2.len
    have HO := Lib.hid (And.intro hok.ids hok.ord)
    have HK := Lib.hid hok
    generalize x.l = L at *
    clear HF
    go_wp2_with fail
    clear c0 c1 d0 d1 df0 hw2
    refine (timers15_any _).mono ?_
    rintro e w2 ⟨B, rfl, hB, hBz, hb2⟩
    have HI := Lib.hid (HS.out w2 hb2)
    clear hb2 HS
    have hz2 : w.heap.size + 2 ≤ w2.heap.size := (HI.out 0).top
    have hB1 : w.heap.size + 2 ≤ B := by simp [World.setCell] at hBz; exact hBz
    have hB2 : B < w2.heap.size := (Array.getElem?_eq_some_iff.1 hB).1
    clear hBz
    go_wp2_with fail
    refine wp_range (wpIn_rangeH (gf := 22) rfl (enters_of Try.func22 (by kernel_rfl) rfl) (timers_seq R m ⟨now', L⟩ B hok hlen) (fun k y hy => ?_)
      (AdvR w R m now' L B w2.heap.size) (AdvX w R m now' L w2.heap.size)
      ?_ ?_ (fun A hA => ⟨hA.1 rfl, by have := hA.2.1.clk; simpa using this⟩) (fun H => ⟨fun _ => hB, by have := HI.out (max H (w2.heap.size + 2)); simpa using this, fun t ht => by simp at ht⟩) ?round ?done ?stop)
    · rw [List.getElem?_map] at hy
      obtain ⟨t, -, rfl⟩ := Option.map_eq_some_iff.1 hy
      rfl
    · rintro H k A B' ⟨h1, h2, h3⟩ hb
      exact ⟨fun hk => hb.heap (h1 hk) (by omega) (by omega), h2.but hb (by omega) (Nat.le_max_right _ _), h3⟩
    · rintro H co k A B' ⟨h0, j, h2, h3, h4⟩ hb
      exact ⟨h0, j, h2.but hb (by omega) (Nat.le_max_right _ _), h3, h4⟩
    case round =>
      rintro H k y W hy - hH hHW
      rw [List.getElem?_map] at hy
      obtain ⟨t, ht, rfl⟩ := Option.map_eq_some_iff.1 hy
      obtain ⟨hkl, hke⟩ := List.getElem?_eq_some_iff.1 ht
      have hcut : L.drop k = t :: L.drop (k + 1) := by rw [List.drop_eq_getElem_cons hkl, hke]
      have htk : L.take (k + 1) = L.take k ++ [t] := by rw [List.take_add_one, ht]; rfl
      have HC := Lib.hid hcut
      have HT := Lib.hid htk
      have HG := Lib.hid ht
      clear hcut htk hke ht
      gi_wp2_with fail
      rintro W2 hi2 hsz
      obtain ⟨-, hi2, hle⟩ := hi2
      rw [Nat.max_eq_left hH] at hi2
      have e1 := one15 hi2.ptr
      obtain ⟨⟨b0, b1⟩, bf⟩ := two15 hi2.clk.box
      have hiw := HID.out t (List.mem_of_getElem? HG.out)
      by_cases hd : now' < t.due
      · have HX := Lib.hid (And.intro hi2 (And.intro hle hd))
        clear hi2 hle HI hB
        gi_wp2_with fail
        exact ⟨Held.refl _ _ _, rfl, k, by rw [Nat.max_eq_left hH]; exact HX.out.1, HX.out.2.1, t, HG.out, HX.out.2.2⟩
      · obtain ⟨D, hown, hD⟩ := hi2.clk.map
        have hkey := Maps.keyOf_int_mk Try.underlying3 (wf_id hiw.1 hiw.2)
        have HN := Lib.hid (show ∀ t ∈ L.take (k + 1), t.due ≤ now' from fun s hs => by
          rw [HT.out] at hs
          rcases List.mem_append.1 hs with hs | hs
          · exact hle s hs
          · obtain rfl : s = t := by simpa using hs
            omega)
        change MapIs D (L.drop k) at hD
        rw [HC.out] at hi2 hD
        have hm1 : ((L.take k).map Tm.id).length ≤ 1000000 := by have := HLN.out; simp; omega
        have HX := Lib.hid (And.intro hi2 (And.intro hD hm1))
        have HO1 := Lib.hid (show wo (t :: L.drop (k + 1)) t.id = L.drop (k + 1) from wo_head (by rw [← HC.out]; exact HO.out.1.sublist (List.drop_sublist k L)))
        clear hi2 hle HI hB hD hm1 hiw
        have HZ := Lib.hid (And.intro hH hsz)
        obtain ⟨id, due⟩ := t
        clear hok hlen hkl hB1 hB2 HID HLN HO HK
        gi_wp2_with (first | (gi_at_delete; refine wpListIn_delete_own _ rfl _ _ 59 3 rfl 2 law15 Try.underlying59 _ m _ D rfl hown _ _ rfl hkey ?_; intro w3 hown3 hturn3; (obtain ⟨p, q, c, p', q', c', w4, f0, f1, ⟨f2, f3⟩, f4, f5, f6⟩ := HX.out.1.step hown3 (by have := HX.out.2.1.del id; rw [HO1.out] at this; exact this) hturn3 HX.out.2.2 (by have := HZ.out.1; omega) HZ.out.2); (have HR := Lib.hid f1); (have HE := Lib.hid (And.intro f4 (And.intro f5 f6))); clear f1 f4 f5 f6 hown3 hturn3 hown hkey) | (gi_at_builtin; refine wpListIn_append_run rfl (.tmp 38) (.tmp 40) 37 rfl _ _ _ _ rfl rfl HR.out ?_))
        exact ⟨HeldH.of_all HZ.out.1 HE.out.2.2 (fun r h0 h1 => HE.out.2.1 r (by omega) h1), fun hk => by omega, by rw [Nat.max_eq_left HZ.out.1, HT.out, List.map_append]; exact HE.out.1, HN.out⟩
    case done =>
      rintro H W hi hD
      rw [List.length_map] at hi
      obtain ⟨-, hi, hle⟩ := hi
      have hi0 := hi
      obtain ⟨p, q, c, hc, -⟩ := hi0.cell
      have e1 := one15 hc
      have HX := Lib.hid (And.intro hi (And.intro hle e1))
      clear hi hle hi0 hc HI hB hok hlen HID HLN HO HK
      go_wp2_with fail
      refine left_mark rfl hD (results_tmp2 rfl _ _ _) ?_ (.inl rfl)
      exact ⟨L.length, p, q, c, _, w2.heap.size, W, rfl, HX.out.1, HX.out.2.2, HX.out.2.1, fun t ht => by simp at ht, But.putObj _ _ (.inl rfl) _, hz2, Nat.le_max_right _ _⟩
    case stop =>
      rintro H co k W - hi hD
      obtain ⟨rfl, j, hi, hle, t, ht, hlt⟩ := hi
      refine wpIn_wide.2 ?_
      have hi0 := hi
      obtain ⟨p, q, c, hc, -⟩ := hi0.cell
      have e1 := one15 hc
      have HX := Lib.hid (And.intro hi (And.intro hle (And.intro e1 (And.intro ht hlt))))
      clear hi hle hi0 hc HI hB hok hlen HID HLN HO HK ht hlt
      go_wp2_with fail
      refine left_mark rfl hD (results_tmp2 rfl _ _ _) ?_ (.inl rfl)
      exact ⟨j, p, q, c, _, w2.heap.size, W, rfl, HX.out.1, HX.out.2.2.1, HX.out.2.1, fun s hs => by rw [HX.out.2.2.2.1] at hs; cases hs; exact HX.out.2.2.2.2, But.putObj _ _ (.inl rfl) _, hz2, Nat.le_max_right _ _⟩

end Go.Proofs.Ytcmkdeejofoibaa
