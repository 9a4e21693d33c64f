/- The law BodyCuts. -/
import Derived.Test.YtdbignianpkofaaDoorBodyPuts
namespace Go.Proofs.YtdbignianpkofaaDoor
open Go.ChangeShapes Go.WideShapes Go.ChangeAt Go.RowKit
open Go.Shelf
open Oc Fl Bk Bd
set_option linter.unusedVariables false
set_option maxRecDepth 100000

theorem go_bod_cut {l : Lim} {cs : List (List UInt8)} {fs : List Fld} (hc : cs.flatten.length ≤ 4611686018427387903) (hr : rights fs = true) (hf : fs.length ≤ l.fields) (hb : (body fs).length ≤ l.bytes) {k : Nat} (hk : k < (bod [] cs fs).length) :
    ∃ s' d, go l (sz [] 0 0) ((bod [] cs fs).take k) 0 = (s', k, 4) ∧ cs.flatten = s'.data ++ d := by
  obtain ⟨s', h1, h2, h3⟩ := go_bod (e := []) (.inl rfl) (fun c h => Nat.le_trans (flat_mem h) hc) hr hf hb []
  rw [List.append_nil] at h1
  have h := go_cut l (sz [] 0 0) (bod [] cs fs) 0 k (by rw [h1]) (by rw [h1]; simp only; omega)
  rw [h1] at h
  obtain ⟨e1, d, e2⟩ := h
  refine ⟨(go l (sz [] 0 0) ((bod [] cs fs).take k) 0).1, d, Prod.ext rfl (by rw [e1, Nat.zero_add]), ?_⟩
  rw [← h2]
  exact e2
theorem bod_pos (e : List UInt8) (cs : List (List UInt8)) (fs : List Fld) : 0 < (bod e cs fs).length := by unfold bod; simp; omega

theorem scan_part {tv : Value} {l : Lim} {T : List UInt8} {s' : St} {k : Nat} (hgo : go l (sz [] 0 0) T 0 = (s', k, 4)) (w : World) (hT : RD w tv T) (hl : T.length ≤ 1099511627776) (hlm : l.ext ≤ 65536 ∧ l.fields ≤ 65536 ∧ l.bytes ≤ 65536) (hv : ∀ g, tv.ownBlock = some g → g < w.heap.size) (hsp : Spans w) (hbd : Bound w) :
    Calls Tryd.prog 10 #[tv, limv l] w fun x w' => ∃ p1 c1 p2 c2, x = .returned (.tuple #[.agg #[.slice p1 0 c1, .slice p2 0 c2, .int .i64 0], .int .i64 (k : Int), .int .i64 4]) ∧ RD w' (.slice p1 0 c1) [] ∧ FS w' (.slice p2 0 c2) [] ∧ Below w.heap.size w w' := by
  refine (scan8_any w hT hl hlm hv hsp hbd).mono ?_
  rintro x w' ⟨s1, k1, e1, dv, gv, hgo1, rfl, hbl, hd, hg⟩
  rw [hgo] at hgo1
  simp only [Prod.mk.injEq] at hgo1
  obtain ⟨rfl, rfl, rfl⟩ := hgo1
  rw [if_neg (by decide)] at hd hg
  obtain ⟨p1, c1, rfl, q1⟩ := id hd
  obtain ⟨p2, c2, rfl, q2⟩ := RS.slice hg
  exact ⟨p1, c1, p2, c2, rfl, hd, hg, hbl⟩
theorem pay_part {tv : Value} {l : Lim} {T : List UInt8} {s' : St} {k e : Nat} (hgo : go l (sz [] 0 0) T 0 = (s', k, e)) (w : World) (hT : RD w tv T) (hl : T.length ≤ 1099511627776) (hlm : l.ext ≤ 65536 ∧ l.fields ≤ 65536 ∧ l.bytes ≤ 65536) (hv : ∀ g, tv.ownBlock = some g → g < w.heap.size) (hsp : Spans w) (hbd : Bound w) :
    Calls Tryd.prog 14 #[tv, limv l] w fun x w' => ∃ p1 c1, x = .returned (.slice p1 s'.data.length c1) ∧ RD w' (.slice p1 s'.data.length c1) s'.data ∧ Below w.heap.size w w' := by
  refine (payload8_any w hT hl hlm hv hsp hbd).mono ?_
  rintro x w' ⟨dv, rfl, hd, hb⟩
  rw [hgo] at hd
  obtain ⟨p1, c1, rfl, q1⟩ := id hd
  exact ⟨p1, c1, rfl, hd, hb⟩

theorem rd_none {W W' : World} {v : Value} (h : RD W v []) : RD W' v [] := by
  obtain ⟨p, c, e, h1, h2, h3, h4⟩ := h
  exact ⟨p, c, e, h1, h2, h3, fun ad hp i b hb => by simp at hb⟩
theorem fs_none {W W' : World} {v : Value} (h : FS W v []) : FS W' v [] := by
  obtain ⟨h0, p, c, e, h1, h2, h3, h4⟩ := h
  exact ⟨h0, p, c, e, h1, h2, h3, fun ad hp i b hb => by simp [fv] at hb⟩
theorem rd_front {W : World} {p : Option Addr} {n c : Nat} {P D : List UInt8} {xs : List UInt8} (h : RD W (.slice p n c) xs) (hx : xs = P ++ D) : P.length ≤ c ∧ RD W (sliced p 0 P.length c 1) P := by
  have hn := h.len
  have hnc : n ≤ c := by obtain ⟨_, _, e, q1, _⟩ := id h; cases e; omega
  have hl : P.length ≤ xs.length := by rw [hx]; simp
  refine ⟨by omega, ?_⟩
  have := h.part (i := 0) (j := P.length) (m := c) (by omega) hl (by omega) (Nat.le_refl _)
  rw [List.drop_zero, hx, List.take_left] at this
  exact this

set_option maxHeartbeats 8000000 in
theorem cuts8_walk (cs : List (List UInt8)) (fs : List Fld) (cut : Nat) (hcut : cut ≤ 65535) (p q : Option Addr) (c d : Nat) (w : World) (hC : CS w (.slice p cs.length c) cs) (hF : FS w (.slice q fs.length d) fs)
    (hcb : ∀ x ∈ cs, x.length ≤ 140737488355328) (hfl : fs.length ≤ 140737488355328) (hfb : ∀ f ∈ fs, f.name.size ≤ 140737488355328 ∧ f.value.size ≤ 140737488355328) (hsp : Spans w) (hbd : Bound w) :
    Calls Tryd.prog 5 #[.slice p cs.length c, .slice q fs.length d, .int .u16 (cut : Int)] w fun e w' => e = .returned (.bool true) ∧ Below w.heap.size w w' := by
  have HWK := Lib.hid (wakes8 w hsp hbd)
  have HC := Lib.hid hC
  have HF := Lib.hid hF
  have HSP := Lib.hid hsp
  have HBD := Lib.hid hbd
  have HCB := Lib.hid hcb
  have HFB := Lib.hid hfb
  clear hC hF hsp hbd hcb hfb
  go_enter Tryd.func5, Tryd.ntmps5
  go_wp2_with fail
  refine HWK.out.mono ?_
  rintro e w1 ⟨rfl, hb1⟩
  have HGR := Lib.hid (great_any fs q d w1 (HF.out.below hb1) hfl HFB.out)
  have B1 := Lib.hid hb1
  clear hb1 HWK
  by_cases hg : 2000 < bulk fs
  · rw [decide_eq_true hg] at HGR
    go_wp2_with fail
    refine HGR.out.mono ?_
    rintro e w2 ⟨rfl, hb2⟩
    have B2 := Lib.hid (ahead B1.out hb2)
    clear hb2
    go_wp2_with fail
    go_ret
    exact ⟨rfl, B2.out⟩
  rw [decide_eq_false hg] at HGR
  have hbk : bulk fs ≤ 2000 := by omega
  have hfl2 := bulk_len fs
  clear hg
  by_cases hn : 10 < cs.length
  · have hn' : (10 : Int) < (cs.length : Int) := by omega
    go_wp2_with fail
    refine HGR.out.mono ?_
    rintro e w2 ⟨rfl, hb2⟩
    have B2 := Lib.hid (ahead B1.out hb2)
    clear hb2
    go_wp2_with fail
    go_ret
    exact ⟨rfl, B2.out⟩
  have hn' : ¬ (10 : Int) < (cs.length : Int) := by omega
  go_wp2_with fail
  refine HGR.out.mono ?_
  rintro e w2 ⟨rfl, hb2⟩
  have B2 := Lib.hid (ahead B1.out hb2)
  clear hb2 HGR B1
  go_wp2_with fail
  go_loopw [7, 31] (fun n i wr => ∃ (k : Nat), k ≤ cs.length ∧ i = .int .i64 k ∧ n = .int .i64 ((cs.take k).flatten.length : Int) ∧ (cs.take k).flatten.length ≤ 500 ∧ Hid (Below w.heap.size w wr)) (fun _ i _ => cs.length - (intOf i).toNat)
  case atStart => exact ⟨0, Nat.zero_le _, rfl, rfl, by simp, B2⟩
  case round =>
    obtain ⟨k, hk, rfl, rfl, h5, HB⟩ := hrel
    by_cases hlt : k < cs.length
    · obtain ⟨x, hx⟩ : ∃ x, cs[k]? = some x := ⟨_, List.getElem?_eq_getElem hlt⟩
      obtain ⟨-, ad, pu, cu, rfl, c0, hu⟩ := (HC.out.below HB.out).at hx
      have hxb := HCB.out x (List.mem_of_getElem? hx)
      have hs := flat_snoc hx
      have hw : IntKind.i64.wrap (((cs.take k).flatten.length : Int) + (x.length : Int)) = ((cs.take (k + 1)).flatten.length : Int) := by rw [hs]; push_cast; exact IntWalk.i64_in _ (by omega)
      clear hu hx
      generalize (cs.take k).flatten.length = n0 at *
      generalize hn1 : (cs.take (k + 1)).flatten.length = n1 at *
      by_cases h6 : 500 < n1
      · have h6' : (500 : Int) < (n1 : Int) := by omega
        clear hn1
        go_wp2_with fail
        go_ret
        exact ⟨rfl, HB.out⟩
      · have h6' : ¬ (500 : Int) < (n1 : Int) := by omega
        have HN1 := Lib.hid hn1
        clear hn1
        go_wp2_with fail
        go_roundw
        case rel => exact ⟨k + 1, by omega, by go_num, by rw [HN1.out]; congr 1; omega, by rw [HN1.out]; omega, HB⟩
        case measure => simp [intOf]; omega
    · obtain rfl : k = cs.length := by omega
      rw [List.take_length] at *
      generalize hnf : cs.flatten.length = nf at *
      have HNF := Lib.hid hnf
      clear B2 hnf
      go_wp2_with fail
      go_loopw [44] (fun i wq => ∃ (k : Nat), k ≤ fs.length ∧ i = .int .i64 k ∧ Hid (rights (fs.take k) = true) ∧ Hid (Below w.heap.size w wq)) (fun i _ => fs.length - (intOf i).toNat)
      case atStart => exact ⟨0, Nat.zero_le _, rfl, Lib.hid rfl, HB⟩
      case round =>
        clear HB
        obtain ⟨k, hk, rfl, HR, HB⟩ := hrel
        by_cases hlt : k < fs.length
        · obtain ⟨f, hf⟩ : ∃ f, fs[k]? = some f := ⟨_, List.getElem?_eq_getElem hlt⟩
          obtain ⟨-, ad, rfl, c0, c1⟩ := ((HF.out).below HB.out).at hf
          have hfz := bulk_mem (List.mem_of_getElem? hf)
          have HRI : Hid (∀ W, _) := Lib.hid fun W => rright_any f W (by omega) (by omega)
          cases hr : right f
          · rw [hr] at HRI
            clear hf hr
            obtain ⟨x, y⟩ := f
            go_wp2_with fail
            refine (HRI.out _).mono ?_
            rintro e w3 ⟨rfl, hb3⟩
            replace HB := Lib.hid (ahead (ahead HB.out (below_box _ _)) hb3)
            clear hb3 c0 c1 HRI
            go_wp2_with fail
            go_ret
            exact ⟨rfl, HB.out⟩
          · have HR2 := Lib.hid (show rights (fs.take (k + 1)) = true by rw [rights_take8 hf, HR.out, hr]; rfl)
            rw [hr] at HRI
            clear hf hr
            obtain ⟨x, y⟩ := f
            go_wp2_with fail
            refine (HRI.out _).mono ?_
            rintro e w3 ⟨rfl, hb3⟩
            replace HB := Lib.hid (ahead (ahead HB.out (below_box _ _)) hb3)
            clear hb3 c0 c1 HRI
            go_wp2_with fail
            go_roundw
            case rel => exact ⟨k + 1, by omega, by go_num, HR2, HB⟩
            case measure => simp [intOf]; omega
        · obtain rfl : k = fs.length := by omega
          rw [List.take_length] at *
          have HPU := Lib.hid (rput8_any cs [] fs p q c d wr (HC.out.below HB.out) (HF.out.below HB.out) (by omega) (by rw [HNF.out]; exact h5) (by simp) hbk)
          go_wp2_with fail
          refine HPU.out.mono ?_
          rintro e w3 ⟨sv, rfl, hs, hb3⟩
          have B3 := Lib.hid (ahead HB.out hb3)
          have hbd := bod_len [] cs fs (by rw [HNF.out]; omega)
          rw [HNF.out] at hbd
          have hbl := body_len fs
          have hbz : (bod [] cs fs).length ≤ 9000 := by simp only [List.length_nil] at hbd; omega
          have hb0 := bod_pos [] cs fs
          obtain ⟨ps, ks, rfl, -⟩ := id hs
          have HRD := Lib.hid hs
          obtain ⟨k, hk⟩ : ∃ k, cut % (bod [] cs fs).length = k := ⟨_, rfl⟩
          have hkl : k < (bod [] cs fs).length := by rw [← hk]; exact Nat.mod_lt _ hb0
          obtain ⟨s', D', hgo, hpre⟩ := go_bod_cut (l := ⟨0, fs.length, 65536⟩) (by rw [HNF.out]; omega) HR.out (Nat.le_refl _) (by simp only; omega) hkl
          have hrem : ((cut : Int)).tmod ((bod [] cs fs).length : Int) = (k : Int) := by rw [Int.tmod_eq_emod_of_nonneg (by omega), ← hk]; push_cast; rfl
          obtain ⟨uv, huv⟩ : ∃ uv, sliced ps 0 k ks 1 = uv := ⟨_, rfl⟩
          have hkc : k ≤ ks := by obtain ⟨_, _, e, q1, _⟩ := hs; cases e; omega
          have hcw : ∀ W, (Instr.slice 22 (.slice ps (bod [] cs fs).length ks) none (some (.int .i64 (k : Int))) none).run Tryd.prog W = .ok uv W := fun W => huv ▸ cut_h ps (bod [] cs fs).length ks k hkc W
          have hpart := hs.part (i := 0) (j := k) (m := ks) (by omega) (by omega) hkc (Nat.le_refl _)
          rw [huv, List.drop_zero] at hpart
          have hown : ∀ g, uv.ownBlock = some g → g < w3.heap.size := by
            intro g hg
            rw [← huv] at hg
            obtain ⟨ad', rfl, rfl⟩ := sliced_ownBlock hg
            obtain ⟨x, hx⟩ : ∃ x, (bod [] cs fs)[0]? = some x := ⟨_, List.getElem?_eq_getElem hb0⟩
            obtain ⟨kk, e1, e2⟩ := hs.lt (fun e => by rw [e] at hb0; simp at hb0)
            cases e1
            exact e2
          have hw0 : IntKind.i64.wrap (cut : Int) = (cut : Int) := IntWalk.i64_in _ (by omega)
          have hnb : ¬ ((bod [] cs fs).length : Int) = 0 := by omega
          have hw1 : IntKind.i64.wrap (k : Int) = (k : Int) := IntWalk.i64_in _ (by omega)
          obtain ⟨w4, hw4⟩ : ∃ w4, w3.alloc (obLim 0 (fs.length : Int) 65536) = w4 := ⟨_, rfl⟩
          have b4 : Below w3.heap.size w3 w4 := by rw [← hw4]; exact below_box _ _
          have z4 : w4.heap.size = w3.heap.size + 1 := by rw [← hw4]; simp
          have g4 : w4.heap[w3.heap.size]? = some (.cells #[.int .i64 0, .int .i64 (fs.length : Int), .int .i64 65536] 24 (0, 0)) := by rw [← hw4]; exact World.alloc_heap_new w3 _
          have B4 := Lib.hid (ahead (ahead HB.out hb3) b4)
          have KL : Hid (∀ W, Below w4.heap.size w4 W → W.cell? ⟨w3.heap.size, 0, none⟩ = some (.int .i64 0) ∧ W.cell? ⟨w3.heap.size, 1, none⟩ = some (.int .i64 (fs.length : Int)) ∧ W.cell? ⟨w3.heap.size, 2, none⟩ = some (.int .i64 65536)) := Lib.hid fun W hW => (three_cells8 ((hW.block _ (by omega)).trans g4)).1
          have HP := Lib.hid (hpart.below b4)
          have hown4 : Hid (∀ g, uv.ownBlock = some g → g < w4.heap.size) := Lib.hid fun g hg => by have := hown g hg; omega
          have hTk : ((bod [] cs fs).take k).length ≤ 1099511627776 := by simp; omega
          have hfl65 : fs.length ≤ 65536 := by omega
          have HSC : Hid (∀ W, Below w4.heap.size w4 W → _) := Lib.hid fun W hW => scan_part (l := ⟨0, fs.length, 65536⟩) hgo W (HP.out.below hW) hTk ⟨Nat.zero_le _, hfl65, Nat.le_refl _⟩ (own_lt W hown4.out hW.size) (HSP.out.below (ahead B4.out hW)) (HBD.out.below (ahead B4.out hW))
          have HPA : Hid (∀ W, Below w4.heap.size w4 W → _) := Lib.hid fun W hW => pay_part (l := ⟨0, fs.length, 65536⟩) hgo W (HP.out.below hW) hTk ⟨Nat.zero_le _, hfl65, Nat.le_refl _⟩ (own_lt W hown4.out hW.size) (HSP.out.below (ahead B4.out hW)) (HBD.out.below (ahead B4.out hW))
          have HJ : Hid (∀ W, Below w4.heap.size w4 W → _) := Lib.hid fun W hW => rjoin8_is cs nf HNF.out p c W (HC.out.below (ahead B4.out hW)) (by omega) (by omega)
          unfold limv at HSC HPA
          have W4 := Lib.hid hw4
          have HPRE := Lib.hid hpre
          have BA : Hid (Below w4.heap.size w4 w4.drew) := Lib.hid (drew_below8 w4)
          have hz6 : w4.heap.size ≤ w3.heap.size + 1 := by omega
          clear hs hb3 hw4 b4 g4 hpart hown HPU HB hgo hbd hbl hk hkc huv hTk hpre
          generalize hbn : (bod [] cs fs).length = nb at *
          clear hbn
          go_wp2_with fail
          rw [W4.out]
          go_region_held3 (fun W => W.cell? ⟨w3.heap.size, 0, none⟩ = some (.int .i64 0) ∧ W.cell? ⟨w3.heap.size, 1, none⟩ = some (.int .i64 (fs.length : Int)) ∧ W.cell? ⟨w3.heap.size, 2, none⟩ = some (.int .i64 65536))
            ((refine KL.out _ ?_; first | with_reducible exact BA.out | exact ahead BA.out (below_box _ _) | exact (below_box w4 _).drew | exact (((ahead BA.out (below_box _ _)).setCell hz5 _).setCell hz5 _).setCell hz5 _ | exact ((BA.out.setCell hz6 _).setCell hz6 _).setCell hz6 _))
            ((go_at_call 10; refine (HSC.out _ (by first | exact BA.out | exact (below_box w4 _).drew)).mono ?_; rintro e w5 ⟨p1, c1, p2, c2, rfl, hd, hg, hb'⟩; have HD := Lib.hid hd; have HG := Lib.hid hg; clear hd hg; have HB' := Lib.hid hb';
              replace BA : Hid (Below w4.heap.size w4 w5) := Lib.hid (by first | exact ahead BA.out hb' | exact ahead (below_box w4 _).drew hb'); have hz5 := BA.out.size; clear hb'
              try (have hq9 : w5.heap[w3.heap.size + 1]? = some (.cells #[.slice none 0 0, .slice none 0 0, .int .i64 0] 28 (0, 0)) := (HB'.out.block _ (by simp; omega)).trans (by rw [← z4]; exact World.alloc_heap_new w4 _); obtain ⟨⟨q0, q1, q2⟩, q3, q4, q5⟩ := three_cells8 hq9; have HQ9 := Lib.hid hq9; clear hq9)))
          all_goals
            have HD9 : Hid (∀ W, RD W (.slice p1 0 c1) []) := Lib.hid fun W => rd_none HD.out
            have HG9 : Hid (∀ W, FS W (.slice p2 0 c2) []) := Lib.hid fun W => fs_none HG.out
            obtain ⟨P, hP⟩ : ∃ P, s'.data = P := ⟨_, rfl⟩
            rw [hP] at HPA HPRE
            clear HD HG HB' hP HSC
          all_goals
            first
            | (obtain ⟨w9, hw9⟩ : ∃ w9, w5.alloc (.cells #[.slice p1 0 c1, .slice p2 0 c2, .int .i64 0] 28) = w9 := ⟨_, rfl⟩
               rw [hw9]
               have g9 : w9.heap[w5.heap.size]? = some (.cells #[.slice p1 0 c1, .slice p2 0 c2, .int .i64 0] 28 (0, 0)) := by rw [← hw9]; exact World.alloc_heap_new w5 _
               have b9 : Below w4.heap.size w4 w9 := by rw [← hw9]; exact ahead BA.out (below_box _ _)
               simp only [hw9] at *
               generalize w5.heap.size = R at *)
            | (obtain ⟨w9, hw9⟩ : ∃ w9, ((w5.setCell ⟨w3.heap.size + 1, 0, none⟩ (.slice p1 0 c1)).setCell ⟨w3.heap.size + 1, 1, none⟩ (.slice p2 0 c2)).setCell ⟨w3.heap.size + 1, 2, none⟩ (.int .i64 0) = w9 := ⟨_, rfl⟩
               rw [hw9]
               have g9 : w9.heap[w3.heap.size + 1]? = some (.cells #[.slice p1 0 c1, .slice p2 0 c2, .int .i64 0] 28 (0, 0)) := by rw [← hw9]; exact three_set8 HQ9.out _ _ _
               have b9 : Below w4.heap.size w4 w9 := by rw [← hw9]; exact below_set3 BA.out hz6 _ _ _
               simp only [hw9] at *
               clear q0 q1 q2 q3 q4 q5 HQ9
               obtain ⟨R, hR⟩ : ∃ R, w3.heap.size + 1 = R := ⟨_, rfl⟩
               rw [hR] at g9
               simp only [hR])
            have hR9 : R < w9.heap.size := (Array.getElem?_eq_some_iff.1 g9).1
            have B9 := Lib.hid b9
            have K9 : Hid (∀ W, Below w9.heap.size w9 W → W.cell? ⟨R, 0, none⟩ = some (.slice p1 0 c1) ∧ W.cell? ⟨R, 1, none⟩ = some (.slice p2 0 c2) ∧ W.cell? ⟨R, 2, none⟩ = some (.int .i64 0)) := Lib.hid fun W hW => (three_cells8 ((hW.block _ hR9).trans g9)).1
            clear b9 g9 BA hz5
            have BA : Hid (Below w9.heap.size w9 w9.drew) := Lib.hid (drew_below8 w9)
            try clear hR
            have KN : Hid (∀ W, Below w9.heap.size w9 W → W.cell? ⟨w3.heap.size, 0, none⟩ = some (.int .i64 0) ∧ W.cell? ⟨w3.heap.size, 1, none⟩ = some (.int .i64 (fs.length : Int)) ∧ W.cell? ⟨w3.heap.size, 2, none⟩ = some (.int .i64 65536)) := Lib.hid fun W hW => KL.out W (ahead B9.out hW)
            clear KL
            go_wp2_with fail
            go_region_held3 (fun W => W.cell? ⟨w3.heap.size, 0, none⟩ = some (.int .i64 0) ∧ W.cell? ⟨w3.heap.size, 1, none⟩ = some (.int .i64 (fs.length : Int)) ∧ W.cell? ⟨w3.heap.size, 2, none⟩ = some (.int .i64 65536))
              ((refine KN.out _ ?_; with_reducible exact BA.out))
              (first
              | (go_at_call 14; refine (HPA.out _ (ahead B9.out BA.out)).mono ?_; rintro e w6 ⟨p3, c3, rfl, hp, hb'⟩; have HQ := Lib.hid hp; replace BA := Lib.hid (ahead BA.out hb'); clear hb' hp)
              | (go_at_call 22; refine (HJ.out _ (ahead B9.out BA.out)).mono ?_; rintro e w7 ⟨pj, kj, rfl, hj, hb'⟩; have HDJ := Lib.hid hj; replace HQ := Lib.hid (HQ.out.below hb'); replace BA := Lib.hid (ahead BA.out hb'); clear hb' hj))
          all_goals
            obtain ⟨y0, y1, y2⟩ := K9.out _ BA.out
            obtain ⟨hPj, hfr⟩ := rd_front HDJ.out HPRE.out
            obtain ⟨uj, huj⟩ : ∃ uj, sliced pj 0 P.length kj 1 = uj := ⟨_, rfl⟩
            rw [huj] at hfr
            have hcj : ∀ W, (Instr.slice 22 (.slice pj nf kj) none (some (.int .i64 (P.length : Int))) none).run Tryd.prog W = .ok uj W := fun W => huj ▸ cut_h pj nf kj P.length hPj W
            have hPn : (P.length : Int) ≤ (nf : Int) := by rw [← HNF.out, HPRE.out, List.length_append]; omega
            have HFR := Lib.hid hfr
            have HLS : Hid (∀ W, _) := Lib.hid fun W => lsame_true (n := 0) (D := []) (fs := []) W (HD9.out W) (HG9.out W) (RD.nil W) (RS.nil W 2) (by decide)
            unfold bodyv at HLS
            clear hfr huj hPj KN HPA HJ K9
            go_wp2_with fail
            refine (HLS.out _).mono ?_
            rintro e w8 ⟨rfl, hb8⟩
            have HRS := Lib.hid (rsame8_any w8 _ _ P P (HQ.out.below hb8) (HFR.out.below hb8))
            rw [decide_eq_true rfl] at HRS
            replace BA := Lib.hid (ahead BA.out hb8)
            clear hb8 y0 y1 y2
            go_wp2_with fail
            refine HRS.out.mono ?_
            rintro e w11 ⟨rfl, m', rfl⟩
            go_wp2_with fail
            go_ret
            exact ⟨rfl, drewN_in (ahead (ahead B4.out B9.out) BA.out) m'⟩

end Go.Proofs.YtdbignianpkofaaDoor
