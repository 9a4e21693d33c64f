/- The law BodyPuts. -/
import Derived.Test.YtdbignianpkofaaDoorBodyPut
import Derived.Test.YtdbignianpkofaaDoorBodyLimits
namespace Go.Proofs.YtdbignianpkofaaDoor
open Go.ChangeShapes Go.WideShapes Go.ChangeAt Go.RowKit
open Go.Shelf
open Oc Fl Bk Bd
set_option linter.unusedVariables false
set_option maxRecDepth 100000

theorem rights_take8 {l : List Fld} {k : Nat} {f : Fld} (h : l[k]? = some f) : rights (l.take (k + 1)) = (rights (l.take k) && right f) := by
  rw [List.take_add_one, h]; simp [rights]
theorem flat_snoc {L : List (List UInt8)} {k : Nat} {x : List UInt8} (h : L[k]? = some x) : (L.take (k + 1)).flatten.length = (L.take k).flatten.length + x.length := by rw [List.take_add_one, h]; simp

/-- A body's text, and more behind it, scanned. -/
theorem scan_bod {tv : Value} {l : Lim} {e : List UInt8} {cs : List (List UInt8)} {fs : List Fld} {M : List UInt8} (w : World) (hT : RD w tv (bod e cs fs ++ M)) (hl : (bod e cs fs ++ M).length ≤ 1099511627776) (hlm : l.ext ≤ 65536 ∧ l.fields ≤ 65536 ∧ l.bytes ≤ 65536)
    (he : Ext l e) (hc : cs.flatten.length ≤ 4611686018427387903) (hr : rights fs = true) (hf : fs.length ≤ l.fields) (hb : (body fs).length ≤ l.bytes) (hv : ∀ g, tv.ownBlock = some g → g < w.heap.size) (hsp : Spans w) (hbd : Bound w) :
    Calls Tryd.prog 10 #[tv, limv l] w fun x w' => ∃ p1 c1 p2 c2, x = .returned (.tuple #[.agg #[.slice p1 cs.flatten.length c1, .slice p2 fs.length c2, .int .i64 ((bod e cs fs).length : Int)], .int .i64 ((bod e cs fs).length : Int), .int .i64 0]) ∧ RD w' (.slice p1 cs.flatten.length c1) cs.flatten ∧ FS w' (.slice p2 fs.length c2) fs ∧ Below w.heap.size w w' := by
  refine (scan8_any w hT hl hlm hv hsp hbd).mono ?_
  rintro x w' ⟨s1, k1, e1, dv, gv, hgo, rfl, hbl, hd, hg⟩
  obtain ⟨s', h1, h2, h3⟩ := go_bod he (fun c h => Nat.le_trans (flat_mem h) hc) hr hf hb M
  rw [h1] at hgo
  simp only [Prod.mk.injEq] at hgo
  obtain ⟨rfl, rfl, rfl⟩ := hgo
  rw [if_pos rfl] at hd hg
  rw [h2] at hd
  rw [h3] at hg
  obtain ⟨p1, c1, rfl, q1⟩ := id hd
  obtain ⟨p2, c2, rfl, q2⟩ := RS.slice hg
  exact ⟨p1, c1, p2, c2, rfl, hd, hg, hbl⟩

theorem rjoin8_is (cs : List (List UInt8)) (nf : Nat) (hnf : cs.flatten.length = nf) (p : Option Addr) (c : Nat) (w : World) (hC : CS w (.slice p cs.length c) cs) (hl : nf ≤ 1000000) (hn : cs.length ≤ 1000000) :
    Calls Tryd.prog 22 #[.slice p cs.length c] w fun x w' => ∃ pj kj, x = .returned (.slice pj nf kj) ∧ RD w' (.slice pj nf kj) cs.flatten ∧ Below w.heap.size w w' := by
  subst hnf
  refine (rjoin8_any cs p c w hC hl hn).mono ?_
  rintro x w' ⟨v, rfl, h1, h2⟩
  obtain ⟨pj, kj, rfl, -⟩ := id h1
  exact ⟨pj, kj, rfl, h1, h2⟩

/-- Bytes, and more, in a row of the call's own. -/
theorem own_two {u v : Value} {xs ys : List UInt8} (w : World) (hu : RD w u xs) (hv : RD w v ys) (hx : xs.length ≤ 100000) (hy : ys.length ≤ 100000) :
    ∃ v1 w1 v2 w2, (Builtin.append_ #[22, 22] 22 #[.slice (some ⟨w.heap.size, 0, none⟩) 0 0, u]).run Tryd.prog (w.alloc (.cells #[] 5)) = .ok v1 w1 ∧
      (Builtin.append_ #[22, 22] 22 #[v1, v]).run Tryd.prog w1 = .ok v2 w2 ∧ RD w2 v2 (xs ++ ys) ∧ Below w.heap.size w w2 ∧ (∀ g, v2.ownBlock = some g → g < w2.heap.size) := by
  have hown : (w.alloc (.cells #[] 5)).ownsRow w.heap.size 5 1 (.slice (some ⟨w.heap.size, 0, none⟩) 0 0) 0 (bv []) := World.ownsRow_made w #[] 0 (Nat.le_refl _) (by decide) rfl
  have b0 : Below w.heap.size w (w.alloc (.cells #[] 5)) := below_box _ _
  obtain ⟨v1, w1, r0, r1, r2⟩ := run_append_rd (w.alloc (.cells #[] 5)) 22 w.heap.size _ _ 0 [] xs hown (hu.below b0) (by simp; omega) (by simp)
  have b1 : Below w.heap.size w w1 := b0.grown r2 (by simp) (fun r e => by cases e; exact Nat.le_refl _)
  obtain ⟨v2, w2, s0, s1, s2⟩ := run_append_rd w1 22 w.heap.size _ _ _ _ ys r1 (hv.below b1) (by simp; omega) b1.size
  have b2 : Below w.heap.size w w2 := b1.grown s2 b1.size (fun k hk => (r1.lt k hk).1)
  refine ⟨v1, w1, v2, w2, r0, s0, by simpa using RD.of_own s1, b2, fun g hg => (s1.lt g hg).2⟩

set_option maxHeartbeats 8000000 in
theorem puts8_walk (cs : List (List UInt8)) (fs : List Fld) (M : List UInt8) (p q r : Option Addr) (c d m : Nat) (w : World) (hC : CS w (.slice p cs.length c) cs) (hF : FS w (.slice q fs.length d) fs) (hM : RD w (.slice r M.length m) M)
    (hcb : ∀ x ∈ cs, x.length ≤ 140737488355328) (hfl : fs.length ≤ 140737488355328) (hfb : ∀ f ∈ fs, f.name.size ≤ 140737488355328 ∧ f.value.size ≤ 140737488355328) (hsp : Spans w) (hbd : Bound w) :
    Calls Tryd.prog 4 #[.slice p cs.length c, .slice q fs.length d, .slice r M.length m] w fun e w' => e = .returned (.bool true) ∧ Below w.heap.size w w' := by
  have HWK := Lib.hid (wakes8 w hsp hbd)
  have HC := Lib.hid hC
  have HF := Lib.hid hF
  have HM := Lib.hid hM
  have HSP := Lib.hid hsp
  have HBD := Lib.hid hbd
  have HCB := Lib.hid hcb
  have HFB := Lib.hid hfb
  clear hC hF hM hsp hbd hcb hfb
  go_enter Tryd.func4, Tryd.ntmps4
  go_wp2_with fail
  refine HWK.out.mono ?_
  rintro e w1 ⟨rfl, hb1⟩
  have HGR := Lib.hid (great_any fs q d w1 (HF.out.below hb1) hfl HFB.out)
  have B1 := Lib.hid hb1
  clear hb1 HWK
  by_cases hg : 2000 < bulk fs
  · rw [decide_eq_true hg] at HGR
    go_wp2_with fail
    refine HGR.out.mono ?_
    rintro e w2 ⟨rfl, hb2⟩
    have B2 := Lib.hid (ahead B1.out hb2)
    clear hb2
    go_wp2_with fail
    go_ret
    exact ⟨rfl, B2.out⟩
  rw [decide_eq_false hg] at HGR
  have hbk : bulk fs ≤ 2000 := by omega
  have hfl2 := bulk_len fs
  clear hg
  by_cases hn : 10 < cs.length
  · have hn' : (10 : Int) < (cs.length : Int) := by omega
    go_wp2_with fail
    refine HGR.out.mono ?_
    rintro e w2 ⟨rfl, hb2⟩
    have B2 := Lib.hid (ahead B1.out hb2)
    clear hb2
    go_wp2_with fail
    go_ret
    exact ⟨rfl, B2.out⟩
  have hn' : ¬ (10 : Int) < (cs.length : Int) := by omega
  by_cases hm : 100 < M.length
  · have hm' : (100 : Int) < (M.length : Int) := by omega
    go_wp2_with fail
    refine HGR.out.mono ?_
    rintro e w2 ⟨rfl, hb2⟩
    have B2 := Lib.hid (ahead B1.out hb2)
    clear hb2
    go_wp2_with fail
    go_ret
    exact ⟨rfl, B2.out⟩
  have hm' : ¬ (100 : Int) < (M.length : Int) := by omega
  go_wp2_with fail
  refine HGR.out.mono ?_
  rintro e w2 ⟨rfl, hb2⟩
  have B2 := Lib.hid (ahead B1.out hb2)
  clear hb2 HGR B1
  go_wp2_with fail
  go_loopw [7, 32] (fun n i wr => ∃ (k : Nat), k ≤ cs.length ∧ i = .int .i64 k ∧ n = .int .i64 ((cs.take k).flatten.length : Int) ∧ (cs.take k).flatten.length ≤ 500 ∧ Hid (Below w.heap.size w wr)) (fun _ i _ => cs.length - (intOf i).toNat)
  case atStart => exact ⟨0, Nat.zero_le _, rfl, rfl, by simp, B2⟩
  case round =>
    obtain ⟨k, hk, rfl, rfl, h5, HB⟩ := hrel
    by_cases hlt : k < cs.length
    · obtain ⟨x, hx⟩ : ∃ x, cs[k]? = some x := ⟨_, List.getElem?_eq_getElem hlt⟩
      obtain ⟨-, ad, pu, cu, rfl, c0, hu⟩ := (HC.out.below HB.out).at hx
      have hxb := HCB.out x (List.mem_of_getElem? hx)
      have hs := flat_snoc hx
      have hw : IntKind.i64.wrap (((cs.take k).flatten.length : Int) + (x.length : Int)) = ((cs.take (k + 1)).flatten.length : Int) := by rw [hs]; push_cast; exact IntWalk.i64_in _ (by omega)
      clear hu hx
      generalize (cs.take k).flatten.length = n0 at *
      generalize hn1 : (cs.take (k + 1)).flatten.length = n1 at *
      by_cases h6 : 500 < n1
      · have h6' : (500 : Int) < (n1 : Int) := by omega
        clear hn1
        go_wp2_with fail
        go_ret
        exact ⟨rfl, HB.out⟩
      · have h6' : ¬ (500 : Int) < (n1 : Int) := by omega
        have HN1 := Lib.hid hn1
        clear hn1
        go_wp2_with fail
        go_roundw
        case rel => exact ⟨k + 1, by omega, by go_num, by rw [HN1.out]; congr 1; omega, by rw [HN1.out]; omega, HB⟩
        case measure => simp [intOf]; omega
    · obtain rfl : k = cs.length := by omega
      rw [List.take_length] at *
      generalize hnf : cs.flatten.length = nf at *
      have HNF := Lib.hid hnf
      clear B2 hnf
      go_wp2_with fail
      go_loopw [45] (fun i wq => ∃ (k : Nat), k ≤ fs.length ∧ i = .int .i64 k ∧ Hid (rights (fs.take k) = true) ∧ Hid (Below w.heap.size w wq)) (fun i _ => fs.length - (intOf i).toNat)
      case atStart => exact ⟨0, Nat.zero_le _, rfl, Lib.hid rfl, HB⟩
      case round =>
        clear HB
        obtain ⟨k, hk, rfl, HR, HB⟩ := hrel
        by_cases hlt : k < fs.length
        · obtain ⟨f, hf⟩ : ∃ f, fs[k]? = some f := ⟨_, List.getElem?_eq_getElem hlt⟩
          obtain ⟨-, ad, rfl, c0, c1⟩ := ((HF.out).below HB.out).at hf
          have hfz := bulk_mem (List.mem_of_getElem? hf)
          have HRI : Hid (∀ W, _) := Lib.hid fun W => rright_any f W (by omega) (by omega)
          cases hr : right f
          · rw [hr] at HRI
            clear hf hr
            obtain ⟨x, y⟩ := f
            go_wp2_with fail
            refine (HRI.out _).mono ?_
            rintro e w3 ⟨rfl, hb3⟩
            replace HB := Lib.hid (ahead (ahead HB.out (below_box _ _)) hb3)
            clear hb3 c0 c1 HRI
            go_wp2_with fail
            go_ret
            exact ⟨rfl, HB.out⟩
          · have HR2 := Lib.hid (show rights (fs.take (k + 1)) = true by rw [rights_take8 hf, HR.out, hr]; rfl)
            rw [hr] at HRI
            clear hf hr
            obtain ⟨x, y⟩ := f
            go_wp2_with fail
            refine (HRI.out _).mono ?_
            rintro e w3 ⟨rfl, hb3⟩
            replace HB := Lib.hid (ahead (ahead HB.out (below_box _ _)) hb3)
            clear hb3 c0 c1 HRI
            go_wp2_with fail
            go_roundw
            case rel => exact ⟨k + 1, by omega, by go_num, HR2, HB⟩
            case measure => simp [intOf]; omega
        · obtain rfl : k = fs.length := by omega
          rw [List.take_length] at *
          have HPU := Lib.hid (rput8_any cs [] fs p q c d wr (HC.out.below HB.out) (HF.out.below HB.out) (by omega) (by rw [HNF.out]; exact h5) (by simp) hbk)
          go_wp2_with fail
          refine HPU.out.mono ?_
          rintro e w3 ⟨sv, rfl, hs, hb3⟩
          have B3 := Lib.hid (ahead HB.out hb3)
          have hbd := bod_len [] cs fs (by rw [HNF.out]; omega)
          rw [HNF.out] at hbd
          have hbl := body_len fs
          have hbz : (bod [] cs fs).length ≤ 9000 := by simp only [List.length_nil] at hbd; omega
          obtain ⟨v1, w4, v2, w5, r1, r2, hrd, hb5, hown⟩ := own_two w3 hs (HM.out.below B3.out) (by omega) (by omega)
          have HS := Lib.hid hs
          obtain ⟨ps, ks, rfl, -⟩ := hs
          have HR1 := Lib.hid r1
          have HR2 := Lib.hid r2
          have HRD := Lib.hid hrd
          have B5 := Lib.hid (ahead B3.out hb5)
          have hbf := body_len fs
          have HSC := Lib.hid (scan_bod (l := ⟨0, fs.length, 65536⟩) (e := []) (cs := cs) (fs := fs) (M := M) w5 hrd (by simp; omega) (by simp; omega) (.inl rfl) (by rw [HNF.out]; omega) HR.out (Nat.le_refl _) (by simp only; omega) hown (HSP.out.below B5.out) (HBD.out.below B5.out))
          obtain ⟨pv, kv, rfl, -⟩ := hrd
          unfold limv at HSC
          rw [HNF.out] at HSC
          clear hb3 r1 r2 hb5 hown HPU HB
          rw [List.length_append] at HR2 HSC
          generalize hbn : (bod [] cs fs).length = nb at *
          have HBN := Lib.hid hbn
          clear hbn
          go_wp2_with (at_builtin; first | refine wpList_append_run rfl (.tmp 57) (.tmp 58) 22 rfl _ _ _ _ rfl rfl HR1.out ?_ | refine wpList_append_run rfl (.tmp 59) (.tmp 60) 22 rfl _ _ _ _ rfl rfl HR2.out ?_)
          refine HSC.out.mono ?_
          rintro e w6 ⟨p1, c1, p2, c2, rfl, hd, hg, hb6⟩
          obtain ⟨w7, hw7⟩ : ∃ w7, w6.alloc (.cells #[.slice p1 nf c1, .slice p2 fs.length c2, .int .i64 (nb : Int)] 28) = w7 := ⟨_, rfl⟩
          have b7 : Below w6.heap.size w6 w7 := by rw [← hw7]; exact below_box _ _
          have z7 : w7.heap.size = w6.heap.size + 1 := by rw [← hw7]; simp
          have j7 : w7.heap[w6.heap.size]? = some (.cells #[.slice p1 nf c1, .slice p2 fs.length c2, .int .i64 (nb : Int)] 28 (0, 0)) := by rw [← hw7]; exact World.alloc_heap_new w6 _
          have B7 := Lib.hid (ahead (ahead B5.out hb6) b7)
          have KT : Hid (∀ W, Below w7.heap.size w7 W → W.cell? ⟨w6.heap.size, 0, none⟩ = some (.slice p1 nf c1) ∧ W.cell? ⟨w6.heap.size, 1, none⟩ = some (.slice p2 fs.length c2) ∧ W.cell? ⟨w6.heap.size, 2, none⟩ = some (.int .i64 (nb : Int))) := Lib.hid fun W hW => (three_cells8 ((hW.block _ (by omega)).trans j7)).1
          have D1 := Lib.hid (hd.below b7)
          have F1 := Lib.hid (hg.below b7)
          have F2 := Lib.hid (HF.out.below B7.out)
          have HJ : Hid (∀ W, Below w7.heap.size w7 W → _) := Lib.hid fun W hW => rjoin8_is cs nf HNF.out p c W (HC.out.below (ahead B7.out hW)) (by omega) (by omega)
          have BA : Hid (Below w7.heap.size w7 w7.drew) := Lib.hid (drew_below8 w7)
          have W7 := Lib.hid hw7
          clear hb6 b7 j7 hw7 hd hg HSC HR1 HR2 HRD HS
          go_wp2_with fail
          rw [W7.out]
          go_region_held3 (fun W => W.cell? ⟨w6.heap.size, 0, none⟩ = some (.slice p1 nf c1) ∧ W.cell? ⟨w6.heap.size, 1, none⟩ = some (.slice p2 fs.length c2) ∧ W.cell? ⟨w6.heap.size, 2, none⟩ = some (.int .i64 (nb : Int)))
            ((refine KT.out _ ?_; with_reducible exact BA.out))
            (first
            | (go_at_call 22; refine (HJ.out _ BA.out).mono ?_; rintro e w' ⟨pj, kj, rfl, hj, hb'⟩; have HDJ := Lib.hid hj; clear hj; replace BA := Lib.hid (ahead BA.out hb'); clear hb')
            | (go_at_call 13; refine (lsame_true (n := nb) _ (D1.out.below BA.out) (F1.out.below BA.out) HDJ.out (F2.out.below BA.out) (by omega)).mono ?_; rintro e w' ⟨rfl, hb'⟩; replace BA := Lib.hid (ahead BA.out hb'); clear hb'))
          all_goals
            go_wp2_with fail
            go_ret
            exact ⟨rfl, ahead B7.out BA.out⟩

end Go.Proofs.YtdbignianpkofaaDoor
