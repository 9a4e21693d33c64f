/- What the document's Set answers: the walk. -/
import Derived.Test.YtcmkdeejofoibaaClkSet
import Derived.Deep.QuietTactic
import Derived.BigQuiet
namespace Go.Proofs.Ytcmkdeejofoibaa
open Go.ChangeShapes Go.WideShapes Go.ChangeAt Go.RowKit
open Ck
set_option linter.unusedVariables false
set_option maxRecDepth 100000

set_option maxHeartbeats 16000000 in
theorem rset_any (x : Cs) (id n : Int) (p : Option Addr) (c : Nat) (w : World) (hL : TS w (.slice p x.l.length c) x.l) (hl : x.l.length ≤ 1000000) (hv : ∀ g, (Value.slice p x.l.length c).ownBlock = some g → g < w.heap.size) (hs : Small x) :
    Calls Try.prog 10 #[.agg #[.int .i64 x.now, .slice p x.l.length c], .int .i64 id, .int .i64 n] w fun e w' => ∃ q d, e = .returned (.tuple #[.agg #[.int .i64 x.now, .slice q (setC x id n).l.length d], .int .i64 (setE n)]) ∧ TS w' (.slice q (setC x id n).l.length d) (setC x id n).l ∧ Below w.heap.size w w' ∧ ∀ g, (Value.slice q (setC x id n).l.length d).ownBlock = some g → g < w'.heap.size := by
  obtain ⟨now, l⟩ := x
  obtain ⟨hn0, hn1, hd⟩ := hs
  simp only at hn0 hn1 hd hl hL hv
  unfold setC setE
  cases hb : badN n 1 with
  | true =>
    simp only [if_true]
    have hcond : n < 1 ∨ (1 ≤ n ∧ 1073741824 < n) := by unfold badN at hb; simp at hb; omega
    obtain ⟨w0, hw0⟩ : ∃ w0, (w.alloc (ob15 now (.slice p l.length c))).alloc (ob15 now (.slice p l.length c)) = w0 := ⟨_, rfl⟩
    have b0 : Below w.heap.size w w0 := by rw [← hw0]; exact ahead (below_box _ _) (below_box _ _)
    have h1 : w0.heap[w.heap.size + 1]? = some (ob15 now (.slice p l.length c)) := by
      rw [← hw0]
      have := heap_alloc_new (w.alloc (ob15 now (.slice p l.length c))) (ob15 now (.slice p l.length c))
      simpa using this
    have hz0 := b0.size
    have HF := Lib.hid (And.intro h1 (And.intro (hL.below b0) (And.intro b0 (fun g hg => show g < w0.heap.size by have := hv g hg; omega))))
    have W0 := Lib.hid hw0
    clear hw0 b0 h1 hz0 hL hv hd hn0 hn1 hb
    rcases hcond with h | ⟨h, h'⟩
    · go_enter Try.func10, Try.ntmps10
      go_wp2_with fail
      rw [W0.out]
      refine bodyPost_ret (results_pair15 rfl _ _ (w.heap.size + 1) 28 _ (0, 0) _ rfl HF.out.1 Try.underlying28 rfl (by kernel_rfl)) rfl ?_
      exact ⟨p, c, rfl, HF.out.2⟩
    · have hnn : ¬ n < 1 := by omega
      go_enter Try.func10, Try.ntmps10
      go_wp2_with fail
      rw [W0.out]
      refine bodyPost_ret (results_pair15 rfl _ _ (w.heap.size + 1) 28 _ (0, 0) _ rfl HF.out.1 Try.underlying28 rfl (by kernel_rfl)) rfl ?_
      exact ⟨p, c, rfl, HF.out.2⟩
  | false =>
    simp only [Bool.false_eq_true, if_false]
    have hcond : ¬ n < 1 ∧ ¬ 1073741824 < n := by unfold badN at hb; simp at hb; omega
    obtain ⟨h0, h1⟩ := hcond
    have hw : IntKind.i64.wrap (now + n) = now + n := IntWalk.i64_in _ (by omega)
    obtain ⟨m, hm⟩ : ∃ m, now + n = m := ⟨_, rfl⟩
    have hwm : IntKind.i64.wrap (now + n) = m := by rw [hw, hm]
    rw [hm]
    obtain ⟨w0, hw0⟩ : ∃ w0, (w.alloc (ob15 now (.slice p l.length c))).alloc (ob15 0 (.slice none 0 0)) = w0 := ⟨_, rfl⟩
    have b0 : Below w.heap.size w w0 := by rw [← hw0]; exact ahead (below_box _ _) (below_box _ _)
    have z0 : w0.heap.size = w.heap.size + 2 := by rw [← hw0]; simp
    have g0 : w0.heap[w.heap.size]? = some (ob15 now (.slice p l.length c)) := by rw [← hw0, (below_box (w.alloc (ob15 now (.slice p l.length c))) _).block _ (by simp)]; exact heap_alloc_new w _
    have g1 : w0.heap[w.heap.size + 1]? = some (ob15 0 (.slice none 0 0)) := by
      rw [← hw0]
      have := heap_alloc_new (w.alloc (ob15 now (.slice p l.length c))) (ob15 0 (.slice none 0 0))
      simpa using this
    have HW := Lib.hid (rwithout_any now id l p c w0 (hL.below b0) hl)
    have HS := Lib.hid (And.intro (And.intro g0 g1) (And.intro b0 z0))
    obtain ⟨⟨c0, c1⟩, -⟩ := two15 g0
    have W0 := Lib.hid hw0
    have hlw := wo_len l id
    clear hw0 b0 z0 g0 g1 hL hv hd hb hw hm
    generalize wo l id = ls at *
    go_enter Try.func10, Try.ntmps10
    go_wp2_with fail
    rw [W0.out]
    refine HW.out.mono ?_
    rintro e w1 ⟨q, d, rfl, hT, hb1, ho⟩
    have hz0 := HS.out.2.2
    have z1 := hb1.size
    have hlt1 : w.heap.size + 1 < w1.heap.size := by omega
    have hlt0 : w.heap.size < w1.heap.size := by omega
    obtain ⟨⟨x0, x1⟩, -⟩ := two15 ((hb1.block _ (by omega)).trans HS.out.1.1)
    have HRES := Lib.hid ((hb1.block _ (by omega)).trans HS.out.1.2)
    have HB1 := Lib.hid (ahead HS.out.2.1 hb1)
    have HT := Lib.hid hT
    have HO := Lib.hid (Ins15.made w1 now q ls.length d ⟨id, m⟩)
    obtain ⟨wI, hwI⟩ : ∃ wI, ((w1.alloc (ob15 now (.slice q ls.length d))).alloc (obT ⟨id, m⟩)).alloc (ob15 now (.slice none 0 0)) = wI := ⟨_, rfl⟩
    rw [hwI] at HO
    have WI := Lib.hid hwI
    clear hT hb1 ho z1 hz0 hwI HW c0 c1 HS
    go_wp2_with fail
    rw [WI.out]
    go_loopw [12, 13] (fun b i wr => ∃ (k : Nat) (v : Value), k ≤ ls.length ∧ i = .int .i64 k ∧ b = .bool (ptK ⟨id, m⟩ (ls.take k)) ∧ Hid (Ins15 w1 wr now q ls.length d ⟨id, m⟩ v (insK ⟨id, m⟩ (ls.take k)))) (fun _ i _ => ls.length - (intOf i).toNat)
    case atStart => exact ⟨0, _, Nat.zero_le _, rfl, rfl, HO⟩
    case round =>
      clear HO
      obtain ⟨k, v, hk, rfl, rfl, HB⟩ := hrel
      obtain ⟨⟨x0, x1⟩, -⟩ := two15 HB.out.box
      obtain ⟨⟨t0, t1⟩, -⟩ := two15 HB.out.tm
      obtain ⟨pv, nv, cv, rfl⟩ := own_slice HB.out.own
      have hlk := insK_len ⟨id, m⟩ (ls.take k)
      have hlk2 : (insK ⟨id, m⟩ (ls.take k)).length ≤ 1000001 := by simp at hlk; omega
      clear hlk
      by_cases hlt : k < ls.length
      · obtain ⟨x, hx⟩ : ∃ x, ls[k]? = some x := ⟨_, List.getElem?_eq_getElem hlt⟩
        obtain ⟨-, ad, rfl, e0, e1⟩ := (HT.out.below HB.out.below).at hx
        have hkl : (k : Int) < (ls.length : Int) := by omega
        have htk : ls.take (k + 1) = ls.take k ++ [x] := by rw [List.take_add_one, hx]; rfl
        have hins := insK_snoc ⟨id, m⟩ x (ls.take k)
        have hptk := ptK_snoc ⟨id, m⟩ x (ls.take k)
        rw [← htk] at hins hptk
        have HX := Lib.hid hx
        clear hx htk
        cases hpt : ptK ⟨id, m⟩ (ls.take k) with
        | true =>
          rw [hpt, if_pos rfl] at hins
          rw [hpt, Bool.true_or] at hptk
          obtain ⟨⟨d0, d1⟩, df⟩ := two15 HB.out.out
          have d1' : wr.cell? ⟨w1.heap.size + 1 + 1, 1, none⟩ = some (.slice pv nv cv) := d1
          have hlt2 : w1.heap.size + 1 + 1 < wr.heap.size := (Array.getElem?_eq_some_iff.1 HB.out.out).1
          have HBD := Lib.hid HB.out.drew
          clear d0 d1 df

          have HI := Lib.hid hins
          have HP := Lib.hid hptk
          obtain ⟨w2, hw2⟩ : ∃ w2, (wr.drew.alloc (obT x)).drew = w2 := ⟨_, rfl⟩
          have b2 : Below wr.drew.heap.size wr.drew w2 := by rw [← hw2]; exact (below_box wr.drew _).drew
          have hts : TS w2 (.slice (some ⟨wr.drew.heap.size, 0, none⟩) 1 1) [x] := by rw [← hw2]; exact RS.below (ts_one wr.drew x 49) ((Below.refl _ _).drew)
          obtain ⟨p', n', c', w3, hrun, o1, of, o0, hN⟩ := HBD.out.more b2 hts hlk2
          rw [← HI.out] at hN
          have HN := Lib.hid hN
          have HR := Lib.hid hrun
          obtain ⟨i2, due⟩ := x
          subst hw2
          clear hN hrun hts b2 hins hptk hlk2
          go_wp2_with fail
          go_region
          all_goals
            go_wp2_with fail
            go_region_law (refine step_append_run rfl (.tmp 84) (.tmp 90) 26 rfl (.slice pv nv cv) (.slice (some ⟨wr.heap.size, 0, none⟩) 1 1) (.slice p' n' c') w3 (by simp [Act.eval]) (by simp [Act.eval]) HR.out ?_)
          all_goals
            go_wp2_with fail
            go_roundw
            case rel => exact ⟨k + 1, .slice p' n' c', by omega, by go_num, by rw [HP.out], HN⟩
            case measure => simp [intOf]; omega
        | false =>
          rw [hpt, if_neg (by decide)] at hins
          rw [hpt, Bool.false_or] at hptk
          clear hpt
          have hdef : lt ⟨id, m⟩ x = (decide (m < x.due) || decide (m = x.due) && decide (id < x.id)) := rfl
          by_cases ha : m < x.due
          · rw [hdef, decide_eq_true ha, Bool.true_or] at hins hptk
            rw [if_pos rfl] at hins
            clear hdef
            obtain ⟨⟨d0, d1⟩, df⟩ := two15 HB.out.out
            have d1' : wr.cell? ⟨w1.heap.size + 1 + 1, 1, none⟩ = some (.slice pv nv cv) := d1
            have hlt2 : w1.heap.size + 1 + 1 < wr.heap.size := (Array.getElem?_eq_some_iff.1 HB.out.out).1
            have HBD := Lib.hid HB.out.drew
            clear d0 d1 df

            have HI := Lib.hid hins
            have HP := Lib.hid hptk
            have ba : Below wr.drew.heap.size wr.drew (wr.drew.alloc (obT ⟨id, m⟩)) := below_box _ _
            obtain ⟨p1, n1, c1, w3, hrun, o1, of, o0, hA⟩ := HBD.out.more ba (ts_one wr.drew ⟨id, m⟩ 49) hlk2
            have HR := Lib.hid hrun
            obtain ⟨wa, hwa⟩ : ∃ wa, w3.setCell ⟨w1.heap.size + 2, 1, none⟩ (.slice p1 n1 c1) = wa := ⟨_, rfl⟩
            rw [hwa] at hA
            have HA := Lib.hid hA
            have hwa' : w3.setCell ⟨w1.heap.size + 1 + 1, 1, none⟩ (.slice p1 n1 c1) = wa := hwa
            have WA := Lib.hid hwa'
            obtain ⟨w2, hw2⟩ : ∃ w2, (wa.alloc (obT x)).drew = w2 := ⟨_, rfl⟩
            have b2 : Below wa.heap.size wa w2 := by rw [← hw2]; exact (below_box wa _).drew
            have hts : TS w2 (.slice (some ⟨wa.heap.size, 0, none⟩) 1 1) [x] := by rw [← hw2]; exact RS.below (ts_one wa x 49) ((Below.refl _ _).drew)
            obtain ⟨p2, n2, c2, w4, hrun2, o2, of2, o20, hN⟩ := hA.more b2 hts (by have := insK_len ⟨id, m⟩ (ls.take k); simp at this ⊢; omega)
            rw [← HI.out] at hN
            have HN := Lib.hid hN
            have HR2 := Lib.hid hrun2
            obtain ⟨⟨y0, y1⟩, -⟩ := two15 hA.box
            obtain ⟨⟨-, z1⟩, -⟩ := two15 hA.out
            have z1' : wa.cell? ⟨w1.heap.size + 1 + 1, 1, none⟩ = some (.slice p1 n1 c1) := z1
            have hltA : w1.heap.size + 1 + 1 < wa.heap.size := (Array.getElem?_eq_some_iff.1 hA.out).1
            obtain ⟨-, ad2, had2, f0, f1⟩ := (HT.out.below hA.below).at HX.out
            obtain rfl := Option.some.inj had2
            obtain ⟨i2, due⟩ := x
            subst hw2
            clear hN hrun hrun2 hts b2 ba hA hwa hwa' hins hptk hlk2 z1 had2
            go_wp2_with fail
            go_region
            all_goals
              go_wp2_with (at_builtin; refine wpList_append_run rfl (.tmp 78) (.tmp 80) 26 rfl (.slice pv nv cv) (.slice (some ⟨wr.heap.size, 0, none⟩) 1 1) (.slice p1 n1 c1) w3 rfl rfl HR.out ?_)
              rw [WA.out]
              go_region_law (refine step_append_run rfl (.tmp 84) (.tmp 90) 26 rfl (.slice p1 n1 c1) (.slice (some ⟨wa.heap.size, 0, none⟩) 1 1) (.slice p2 n2 c2) w4 (by simp [Act.eval]) (by simp [Act.eval]) HR2.out ?_)
            all_goals
              go_wp2_with fail
              go_roundw
              case rel => exact ⟨k + 1, .slice p2 n2 c2, by omega, by go_num, by rw [HP.out], HN⟩
              case measure => simp [intOf]; omega
          · have ha' : decide (m < x.due) = false := decide_eq_false ha
            by_cases he : m = x.due
            · have he1 : (x.due == m) = true := beq_iff_eq.2 he.symm
              by_cases hi : id < x.id
              · rw [hdef, ha', decide_eq_true he, decide_eq_true hi] at hins hptk
                simp only [Bool.false_or, Bool.and_true, if_true] at hins hptk
                clear hdef he ha'
                have HI := Lib.hid hins
                have HP := Lib.hid hptk
                have HLK := Lib.hid hlk2
                clear hins hptk hlk2
                obtain ⟨i2, due⟩ := x
                go_wp2_with fail
                go_quiet (fail)
                obtain ⟨wd, hwd⟩ : ∃ wd, wr.drewN nq = wd := ⟨_, rfl⟩
                have HBD := Lib.hid (HB.out.drewN nq)
                rw [hwd] at HBD ⊢
                clear x0 x1 t0 t1 e0 e1 hwd
                obtain ⟨⟨x0, x1⟩, -⟩ := two15 HBD.out.box
                obtain ⟨⟨t0, t1⟩, -⟩ := two15 HBD.out.tm
                obtain ⟨⟨-, d1⟩, -⟩ := two15 HBD.out.out
                have d1' : wd.cell? ⟨w1.heap.size + 1 + 1, 1, none⟩ = some (.slice pv nv cv) := d1
                have hlt2 : w1.heap.size + 1 + 1 < wd.heap.size := (Array.getElem?_eq_some_iff.1 HBD.out.out).1
                obtain ⟨-, ad3, had3, e0, e1⟩ := (HT.out.below HBD.out.below).at HX.out
                obtain rfl := Option.some.inj had3
                clear d1 had3

                have ba : Below wd.heap.size wd (wd.alloc (obT ⟨id, m⟩)) := below_box _ _
                obtain ⟨p1, n1, c1, w3, hrun, o1, of, o0, hA⟩ := HBD.out.more ba (ts_one wd ⟨id, m⟩ 49) HLK.out
                have HR := Lib.hid hrun
                obtain ⟨wa, hwa⟩ : ∃ wa, w3.setCell ⟨w1.heap.size + 2, 1, none⟩ (.slice p1 n1 c1) = wa := ⟨_, rfl⟩
                rw [hwa] at hA
                have hwa' : w3.setCell ⟨w1.heap.size + 1 + 1, 1, none⟩ (.slice p1 n1 c1) = wa := hwa
                have WA := Lib.hid hwa'
                obtain ⟨w2, hw2⟩ : ∃ w2, (wa.alloc (obT ⟨i2, due⟩)).drew = w2 := ⟨_, rfl⟩
                have b2 : Below wa.heap.size wa w2 := by rw [← hw2]; exact (below_box wa _).drew
                have hts : TS w2 (.slice (some ⟨wa.heap.size, 0, none⟩) 1 1) [⟨i2, due⟩] := by rw [← hw2]; exact RS.below (ts_one wa ⟨i2, due⟩ 49) ((Below.refl _ _).drew)
                obtain ⟨p2, n2, c2, w4, hrun2, o2, of2, o20, hN⟩ := hA.more b2 hts (by have := insK_len ⟨id, m⟩ (ls.take k); simp at this ⊢; omega)
                rw [← HI.out] at hN
                have HN := Lib.hid hN
                have HR2 := Lib.hid hrun2
                obtain ⟨⟨y0, y1⟩, -⟩ := two15 hA.box
                obtain ⟨⟨-, z1⟩, -⟩ := two15 hA.out
                have z1' : wa.cell? ⟨w1.heap.size + 1 + 1, 1, none⟩ = some (.slice p1 n1 c1) := z1
                have hltA : w1.heap.size + 1 + 1 < wa.heap.size := (Array.getElem?_eq_some_iff.1 hA.out).1
                obtain ⟨-, ad2, had2, f0, f1⟩ := (HT.out.below hA.below).at HX.out
                obtain rfl := Option.some.inj had2
                subst hw2
                clear hN hrun hrun2 hts b2 ba hA hwa hwa' z1 had2
                go_wp2_with (at_builtin; refine wpList_append_run rfl (.tmp 78) (.tmp 80) 26 rfl (.slice pv nv cv) (.slice (some ⟨wd.heap.size, 0, none⟩) 1 1) (.slice p1 n1 c1) w3 rfl rfl HR.out ?_)
                rw [WA.out]
                go_region_law (refine step_append_run rfl (.tmp 84) (.tmp 90) 26 rfl (.slice p1 n1 c1) (.slice (some ⟨wa.heap.size, 0, none⟩) 1 1) (.slice p2 n2 c2) w4 (by simp [Act.eval]) (by simp [Act.eval]) HR2.out ?_)
                all_goals
                  go_wp2_with fail
                  go_roundw
                  case rel => exact ⟨k + 1, .slice p2 n2 c2, by omega, by go_num, by rw [HP.out], HN⟩
                  case measure => simp [intOf]; omega
              · rw [hdef, ha', decide_eq_true he, decide_eq_false hi] at hins hptk
                simp only [Bool.false_or, Bool.and_false, Bool.false_eq_true, if_false] at hins hptk
                clear hdef he ha'
                have HI := Lib.hid hins
                have HP := Lib.hid hptk
                have HLK := Lib.hid hlk2
                clear hins hptk hlk2
                obtain ⟨i2, due⟩ := x
                go_wp2_with fail
                go_quiet (fail)
                obtain ⟨wd, hwd⟩ : ∃ wd, wr.drewN nq = wd := ⟨_, rfl⟩
                have HBD := Lib.hid (HB.out.drewN nq)
                rw [hwd] at HBD ⊢
                clear x0 x1 t0 t1 e0 e1 hwd
                obtain ⟨⟨x0, x1⟩, -⟩ := two15 HBD.out.box
                obtain ⟨⟨t0, t1⟩, -⟩ := two15 HBD.out.tm
                obtain ⟨⟨-, d1⟩, -⟩ := two15 HBD.out.out
                have d1' : wd.cell? ⟨w1.heap.size + 1 + 1, 1, none⟩ = some (.slice pv nv cv) := d1
                have hlt2 : w1.heap.size + 1 + 1 < wd.heap.size := (Array.getElem?_eq_some_iff.1 HBD.out.out).1
                obtain ⟨-, ad3, had3, e0, e1⟩ := (HT.out.below HBD.out.below).at HX.out
                obtain rfl := Option.some.inj had3
                clear d1 had3

                obtain ⟨w2, hw2⟩ : ∃ w2, (wd.alloc (obT ⟨i2, due⟩)).drew = w2 := ⟨_, rfl⟩
                have b2 : Below wd.heap.size wd w2 := by rw [← hw2]; exact (below_box wd _).drew
                have hts : TS w2 (.slice (some ⟨wd.heap.size, 0, none⟩) 1 1) [⟨i2, due⟩] := by rw [← hw2]; exact RS.below (ts_one wd ⟨i2, due⟩ 49) ((Below.refl _ _).drew)
                obtain ⟨p', n', c', w3, hrun, o1, of, o0, hN⟩ := HBD.out.more b2 hts HLK.out
                rw [← HI.out] at hN
                have HN := Lib.hid hN
                have HR := Lib.hid hrun
                subst hw2
                clear hN hrun hts b2
                go_wp2_with fail
                go_region_law (refine step_append_run rfl (.tmp 84) (.tmp 90) 26 rfl (.slice pv nv cv) (.slice (some ⟨wd.heap.size, 0, none⟩) 1 1) (.slice p' n' c') w3 (by simp [Act.eval]) (by simp [Act.eval]) HR.out ?_)
                all_goals
                  go_wp2_with fail
                  go_roundw
                  case rel => exact ⟨k + 1, .slice p' n' c', by omega, by go_num, by rw [HP.out], HN⟩
                  case measure => simp [intOf]; omega
            · have he1 : (x.due == m) = false := beq_eq_false_iff_ne.2 (Ne.symm he)
              rw [hdef, ha', decide_eq_false he] at hins hptk
              simp only [Bool.false_or, Bool.false_and, Bool.false_eq_true, if_false] at hins hptk
              have HA := Lib.hid (And.intro ha he)
              clear hdef he ha' ha he1
              have HI := Lib.hid hins
              have HP := Lib.hid hptk
              have HLK := Lib.hid hlk2
              clear hins hptk hlk2
              obtain ⟨i2, due⟩ := x
              go_wp2_with fail
              have q1 : decide (m < due) = false := decide_eq_false (by have := HA.out.1; omega)
              have q3 : (due == m) = false := beq_eq_false_iff_ne.2 (by have := HA.out.2; omega)
              go_quiet (fail)
              clear q1 q3
              obtain ⟨wd, hwd⟩ : ∃ wd, wr.drewN nq = wd := ⟨_, rfl⟩
              have HBD := Lib.hid (HB.out.drewN nq)
              rw [hwd] at HBD ⊢
              clear x0 x1 t0 t1 e0 e1 hwd
              obtain ⟨⟨x0, x1⟩, -⟩ := two15 HBD.out.box
              obtain ⟨⟨t0, t1⟩, -⟩ := two15 HBD.out.tm
              obtain ⟨⟨-, d1⟩, -⟩ := two15 HBD.out.out
              have d1' : wd.cell? ⟨w1.heap.size + 1 + 1, 1, none⟩ = some (.slice pv nv cv) := d1
              have hlt2 : w1.heap.size + 1 + 1 < wd.heap.size := (Array.getElem?_eq_some_iff.1 HBD.out.out).1
              obtain ⟨-, ad3, had3, e0, e1⟩ := (HT.out.below HBD.out.below).at HX.out
              obtain rfl := Option.some.inj had3
              clear d1 had3

              obtain ⟨w2, hw2⟩ : ∃ w2, (wd.alloc (obT ⟨i2, due⟩)).drew = w2 := ⟨_, rfl⟩
              have b2 : Below wd.heap.size wd w2 := by rw [← hw2]; exact (below_box wd _).drew
              have hts : TS w2 (.slice (some ⟨wd.heap.size, 0, none⟩) 1 1) [⟨i2, due⟩] := by rw [← hw2]; exact RS.below (ts_one wd ⟨i2, due⟩ 49) ((Below.refl _ _).drew)
              obtain ⟨p', n', c', w3, hrun, o1, of, o0, hN⟩ := HBD.out.more b2 hts HLK.out
              rw [← HI.out] at hN
              have HN := Lib.hid hN
              have HR := Lib.hid hrun
              subst hw2
              clear hN hrun hts b2
              go_wp2_with fail
              go_region_law (refine step_append_run rfl (.tmp 84) (.tmp 90) 26 rfl (.slice pv nv cv) (.slice (some ⟨wd.heap.size, 0, none⟩) 1 1) (.slice p' n' c') w3 (by simp [Act.eval]) (by simp [Act.eval]) HR.out ?_)
              all_goals
                go_wp2_with fail
                go_roundw
                case rel => exact ⟨k + 1, .slice p' n' c', by omega, by go_num, by rw [HP.out], HN⟩
                case measure => simp [intOf]; omega
      · obtain rfl : k = ls.length := by omega
        rw [List.take_length] at *
        have HIN := Lib.hid (ins_is ⟨id, m⟩ ls)
        cases hpt : ptK ⟨id, m⟩ ls with
        | true =>
          rw [hpt, if_pos rfl] at HIN
          have HF := HB
          obtain ⟨pz, cz, hz1, -, -⟩ := RS.slice (RS.of_own HB.out.own)
          simp only [Value.slice.injEq] at hz1
          obtain ⟨rfl, rfl, rfl⟩ := hz1
          have bz := ahead HB1.out HB.out.below
          have hres3 : wr.heap[w.heap.size + 1]? = some (ob15 0 (.slice none 0 0)) := (HB.out.below.block _ (by omega)).trans HRES.out
          obtain ⟨f1, f2, f3⟩ := fin15 (now := now) (v := .slice pv (insK (⟨id, m⟩ : Tm) ls).length cv) hres3 (by omega) bz
          obtain ⟨w5, hw5⟩ : ∃ w5, (wr.setCell ⟨w.heap.size + 1, 0, none⟩ (.int .i64 now)).setCell ⟨w.heap.size + 1, 1, none⟩ (.slice pv (insK (⟨id, m⟩ : Tm) ls).length cv) = w5 := ⟨_, rfl⟩
          have hz5 : w5.heap.size = wr.heap.size := by rw [← hw5]; simp [World.setCell]
          rw [hw5] at f1 f2 f3
          have hlo := fun g hg => HF.out.own.lt g hg
          have HQ := Lib.hid (And.intro f1 (And.intro (show TS w5 _ _ from RS.of_own (own_same HF.out.own fun g hg => f3 g (by have := (hlo g hg).1; omega))) (And.intro f2 (fun g hg => show g < w5.heap.size by have := hlo g hg; omega))))
          have W5 := Lib.hid hw5
          obtain ⟨⟨d0, d1⟩, -⟩ := two15 HF.out.out
          have d0' : wr.cell? ⟨w1.heap.size + 1 + 1, 0, none⟩ = some (.int .i64 now) := d0
          have d1' : wr.cell? ⟨w1.heap.size + 1 + 1, 1, none⟩ = some (.slice pv (insK (⟨id, m⟩ : Tm) ls).length cv) := d1
          obtain ⟨⟨r0, r1⟩, rf⟩ := two15 hres3
          have rf0 := rf 0
          have rf1 := rf 1
          clear f1 f2 f3 hw5 hz5 hlo rf d0 d1 hres3 bz
          clear hpt hlk2
          go_wp2_with fail
          rw [W5.out]
          refine bodyPost_ret (results_pair15 rfl _ _ (w.heap.size + 1) 28 _ (0, 0) _ rfl HQ.out.1 Try.underlying28 rfl (by kernel_rfl)) rfl ?_
          rw [HIN.out]
          exact ⟨_, _, rfl, HQ.out.2⟩
        | false =>
          rw [hpt, if_neg (by decide)] at HIN
          obtain ⟨⟨u0, u1⟩, -⟩ := two15 HB.out.out
          have u1' : wr.cell? ⟨w1.heap.size + 1 + 1, 1, none⟩ = some (.slice pv nv cv) := u1
          have ba : Below wr.heap.size wr (wr.alloc (obT ⟨id, m⟩)) := below_box _ _
          have hlt2 : w1.heap.size + 1 + 1 < wr.heap.size := (Array.getElem?_eq_some_iff.1 HB.out.out).1
          obtain ⟨p1, n1, c1, w3, hrun, o1, of, o0, hA⟩ := HB.out.more ba (ts_one wr ⟨id, m⟩ 49) hlk2
          have HR := Lib.hid hrun
          obtain ⟨zs, hzs⟩ : ∃ zs, insK (⟨id, m⟩ : Tm) ls ++ [(⟨id, m⟩ : Tm)] = zs := ⟨_, rfl⟩
          rw [hzs] at hA HIN
          clear hzs
          obtain ⟨wa, hwa⟩ : ∃ wa, w3.setCell ⟨w1.heap.size + 2, 1, none⟩ (.slice p1 n1 c1) = wa := ⟨_, rfl⟩
          rw [hwa] at hA
          have hwa' : w3.setCell ⟨w1.heap.size + 1 + 1, 1, none⟩ (.slice p1 n1 c1) = wa := hwa
          have WA := Lib.hid hwa'
          obtain ⟨pz, cz, hz1, -, -⟩ := RS.slice (RS.of_own hA.own)
          simp only [Value.slice.injEq] at hz1
          obtain ⟨rfl, rfl, rfl⟩ := hz1
          have HF := Lib.hid hA
          have bz := ahead HB1.out hA.below
          have hres3 : wa.heap[w.heap.size + 1]? = some (ob15 0 (.slice none 0 0)) := (hA.below.block _ (by omega)).trans HRES.out
          obtain ⟨f1, f2, f3⟩ := fin15 (now := now) (v := .slice p1 zs.length c1) hres3 (by omega) bz
          obtain ⟨w5, hw5⟩ : ∃ w5, (wa.setCell ⟨w.heap.size + 1, 0, none⟩ (.int .i64 now)).setCell ⟨w.heap.size + 1, 1, none⟩ (.slice p1 zs.length c1) = w5 := ⟨_, rfl⟩
          have hz5 : w5.heap.size = wa.heap.size := by rw [← hw5]; simp [World.setCell]
          rw [hw5] at f1 f2 f3
          have hlo := fun g hg => HF.out.own.lt g hg
          have HQ := Lib.hid (And.intro f1 (And.intro (show TS w5 _ _ from RS.of_own (own_same HF.out.own fun g hg => f3 g (by have := (hlo g hg).1; omega))) (And.intro f2 (fun g hg => show g < w5.heap.size by have := hlo g hg; omega))))
          have W5 := Lib.hid hw5
          obtain ⟨⟨d0, d1⟩, -⟩ := two15 HF.out.out
          have d0' : wa.cell? ⟨w1.heap.size + 1 + 1, 0, none⟩ = some (.int .i64 now) := d0
          have d1' : wa.cell? ⟨w1.heap.size + 1 + 1, 1, none⟩ = some (.slice p1 zs.length c1) := d1
          obtain ⟨⟨r0, r1⟩, rf⟩ := two15 hres3
          have rf0 := rf 0
          have rf1 := rf 1
          clear f1 f2 f3 hw5 hz5 hlo rf d0 d1 hres3 bz
          have hne : w.heap.size + 1 ≠ w1.heap.size + 1 + 1 := by omega
          have hres3w : w3.heap[w.heap.size + 1]? = some (ob15 0 (.slice none 0 0)) := by
            have h3 : wa.heap[w.heap.size + 1]? = some (ob15 0 (.slice none 0 0)) := (hA.below.block _ (by omega)).trans HRES.out
            rw [← hwa'] at h3
            exact (Below.heap_setCell _ _ _ _ hne).symm.trans h3
          obtain ⟨⟨rw0, rw1⟩, rwf⟩ := two15 hres3w
          have rwf0 := rwf 0
          have rwf1 := rwf 1
          clear hpt hlk2 hrun hA hwa hwa' ba u0 u1 hres3w rwf d0' d1' r0 r1 rf0 rf1
          go_wp2_with (at_builtin; refine wpList_append_run rfl (.tmp 96) (.tmp 98) 26 rfl (.slice pv nv cv) (.slice (some ⟨wr.heap.size, 0, none⟩) 1 1) _ w3 rfl rfl HR.out ?_)
          rw [WA.out, W5.out]
          refine bodyPost_ret (results_pair15 rfl _ _ (w.heap.size + 1) 28 _ (0, 0) _ rfl HQ.out.1 Try.underlying28 rfl (by kernel_rfl)) rfl ?_
          rw [HIN.out]
          exact ⟨_, _, rfl, HQ.out.2⟩

end Go.Proofs.Ytcmkdeejofoibaa
