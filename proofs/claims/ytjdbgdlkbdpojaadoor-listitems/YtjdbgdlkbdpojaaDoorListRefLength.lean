/- What the document's Length answers. -/
import Derived.Test.YtjdbgdlkbdpojaaDoorListRef
import Derived.Test.YtjdbgdlkbdpojaaDoorListNumber
namespace Go.Proofs.YtjdbgdlkbdpojaaDoor
open Go.ChangeShapes Go.WideShapes Go.ChangeAt Go.RowKit
open Go.Shelf
open Oc Fl Ls
set_option linter.unusedVariables false

theorem str_size (w : World) : (sizeOf (Tryd.prog.elem 22)).run Tryd.prog w = .ok 1 w := by
  obtain ⟨i0, hi, hz0, hz1, hz2⟩ := info_parts str_info
  have he : Tryd.prog.elem 22 = 9 := by kernel_rfl
  rw [he]
  simp [sizeOf, typeInfo, hi, hz1]
/-- One of the texts, as a slice of it alone. -/
theorem tx_cut {W : World} {l : List ByteArray} {ad : Addr} {c i : Nat} {s : ByteArray} (h : TX W (.slice (some ad) l.length c) l) (hi : l[i]? = some s) :
    ∃ p' c', (∀ W', (Instr.slice 22 (.slice (some ad) l.length c) (some (.int .i64 (i : Int))) (some (.int .i64 ((i : Int) + 1))) none).run Tryd.prog W' = .ok (.slice p' 1 c') W') ∧
      ∀ W', TX W' (.slice (some ad) l.length c) l → TX W' (.slice p' [s].length c') [s] := by
  have hlt : i < l.length := (List.getElem?_eq_some_iff.1 hi).1
  obtain ⟨h0, p', c', e, h1, h2, h3, h4⟩ := h
  cases e
  refine ⟨some (ad.add i), c - i, fun W' => ?_, fun W' h' => ?_⟩
  · rw [run_slice_lh W' 22 _ _ _ Tryd.underlying22 .i64 .i64 (i : Int) ((i : Int) + 1) (by omega) (by omega) (by omega), str_size]
    have e1 : ((i : Int) + 1).toNat = i + 1 := by omega
    have e2 : ¬ c = i := by omega
    simp only [Result.andThen, sliced, e1, Int.toNat_natCast, if_neg e2, Option.map_some, Nat.mul_one]
    congr 2
    omega
  · obtain ⟨-, ad', e', hc⟩ := h'.at hi
    cases e'
    refine ⟨rfl, some (ad.add i), c - i, rfl, by simp; omega, by omega, (fun h => by cases h), fun ad'' h'' j u hu => ?_⟩
    cases h''
    cases j with
    | zero => cases hu; rw [Addr.add_zero']; exact hc
    | succ j => simp [tv] at hu

set_option maxRecDepth 100000 in
set_option maxHeartbeats 8000000 in
theorem rlength_any (vs : List ByteArray) (p : Option Addr) (c : Nat) (w : World) (hV : TX w (.slice p vs.length c) vs) (hb : Ls.bulk vs ≤ 100000) :
    Calls Tryd.prog 16 #[.slice p vs.length c] w fun e w' => e = .returned (.tuple #[.int .u64 ((Ls.length vs).1 : Nat), .int .i64 ((Ls.length vs).2 : Nat)]) ∧ Below w.heap.size w w' := by
  have HV := Lib.hid hV
  have hvl := bulk_len vs
  clear hV
  by_cases hv0 : vs.length = 0
  · have hcn : Ls.length vs = (0, 7) := by unfold Ls.length; rw [if_pos (List.eq_nil_of_length_eq_zero hv0)]
    have HCN := Lib.hid hcn
    rw [hv0]
    clear hcn hv0
    go_enter Tryd.func16, Tryd.ntmps16
    go_wp2_with fail
    go_ret2
    rw [HCN.out]
    exact ⟨rfl, Below.refl _ _⟩
  have hz0 : ((vs.length : Int) == 0) = false := beq_eq_false_iff_ne.2 (by omega)
  have HR : Hid (Ls.length vs = finR (goVR ⟨false, true, 0, false⟩ vs)) := Lib.hid (length_ref fun e => hv0 (by rw [e]; rfl))
  have HBAD : Hid (∀ k, goVR ⟨false, true, 0, false⟩ (vs.take (k + 1)) = none → Ls.length vs = (0, 2)) := Lib.hid fun k h => by
    rw [HR.out]
    conv => lhs; rw [← List.take_append_drop (k + 1) vs, goVR_app, h]
    rfl
  go_enter Tryd.func16, Tryd.ntmps16
  go_wp2_with fail
  go_loopw [4, 5, 6, 7] (fun b l n i wr => ∃ (k : Nat) (u : Sr), k ≤ vs.length ∧ b = .bool u.big ∧ l = .bool u.al ∧ n = .int .u64 (u.n : Nat) ∧ i = .int .i64 k ∧ u.on = decide (0 < k) ∧ u.n ≤ 4611686018427387903 ∧ Hid (goVR ⟨false, true, 0, false⟩ (vs.take k) = some u) ∧ Hid (Below w.heap.size w wr)) (fun _ _ _ i _ => vs.length - (intOf i).toNat)
  case atStart => exact ⟨0, ⟨false, true, 0, false⟩, Nat.zero_le _, rfl, rfl, rfl, rfl, rfl, by decide, Lib.hid rfl, Lib.hid (Below.refl _ _)⟩
  case round =>
    obtain ⟨k, u, hk, rfl, rfl, rfl, rfl, hon, hun, HA, HB⟩ := hrel
    by_cases hlt : k < vs.length
    · obtain ⟨s, hs⟩ : ∃ s, vs[k]? = some s := ⟨_, List.getElem?_eq_getElem hlt⟩
      have hVr := HV.out.below HB.out
      obtain ⟨-, ad, rfl, c0⟩ := hVr.at hs
      obtain ⟨p', c', hcut, htx⟩ := tx_cut hVr hs
      have hsz := bulk_mem (List.mem_of_getElem? hs)
      have HI := Lib.hid (ritems_any [s] p' c' wr (htx wr hVr) (by rw [bulk_cons]; simp [Ls.bulk]; omega))
      rw [show items [s] = itmB s by simp [items]] at HI
      rw [show [s].length = 1 from rfl] at HI
      have HGO : Hid (goVR ⟨false, true, 0, false⟩ (vs.take (k + 1)) = if itmB s = [] then none else goIR u (itmB s)) := Lib.hid (by
        rw [List.take_add_one, hs, Option.toList_some, goVR_app, HA.out]
        show goVR u [s] = _
        rw [goVR_cons]
        split
        · rfl
        · cases goIR u (itmB s) <;> rfl)
      have HSZ : Hid (∀ t, t ∈ itmB s → t.size ≤ 100000) := Lib.hid fun t ht => by have := (itmB_size ht).1; omega
      have hil := itmB_len s
      clear hs hVr htx c0 HA
      have k1 : (0 : Int) ≤ (k : Int) := by omega
      have k2 : (k : Int) < (vs.length : Int) := by omega
      have hil2 : (itmB s).length ≤ 100001 := by omega
      generalize itmB s = l at *
      go_wp2_with fail
      refine HI.out.mono ?_
      rintro e w1 ⟨v, rfl, hT⟩
      obtain ⟨pu, cu, rfl, -, -⟩ := RS.slice (RS.of_own hT.own)
      have HX : Hid (TX w1 (.slice pu l.length cu) l) := Lib.hid (RS.of_own hT.own)
      have HB1 := Lib.hid (ahead HB.out hT.below)
      clear hT HI hcut HB
      by_cases hl0 : l.length = 0
      · have HN := Lib.hid (HBAD.out k (by rw [HGO.out, if_pos (List.eq_nil_of_length_eq_zero hl0)]))
        rw [hl0]
        clear hl0
        go_wp2_with fail
        go_ret2
        rw [HN.out]
        exact ⟨rfl, HB1.out⟩
      · have hlz : ((l.length : Int) == 0) = false := beq_eq_false_iff_ne.2 (by omega)
        have HGO2 : Hid (goVR ⟨false, true, 0, false⟩ (vs.take (k + 1)) = goIR u l) := Lib.hid (by rw [HGO.out, if_neg (fun e => hl0 (by rw [e]; rfl))])
        clear HGO
        go_wp2_with fail
        go_loopw [4, 5, 6, 9] (fun b l' n j wr2 => ∃ (m : Nat) (u' : Sr), m ≤ l.length ∧ b = .bool u'.big ∧ l' = .bool u'.al ∧ n = .int .u64 (u'.n : Nat) ∧ j = .int .i64 m ∧ u'.on = decide (0 < k + m) ∧ u'.n ≤ 4611686018427387903 ∧ Hid (goIR u (l.take m) = some u') ∧ Hid (Below w1.heap.size w1 wr2)) (fun _ _ _ j _ => l.length - (intOf j).toNat)
        case atStart => exact ⟨0, u, Nat.zero_le _, rfl, rfl, rfl, rfl, by simpa using hon, hun, Lib.hid rfl, Lib.hid (Below.refl _ _)⟩
        case round =>
          obtain ⟨m, u', hm, rfl, rfl, rfl, rfl, hon', hun', HG, HB2⟩ := hrel
          by_cases hmt : m < l.length
          · obtain ⟨y, hy⟩ : ∃ y, l[m]? = some y := ⟨_, List.getElem?_eq_getElem hmt⟩
            obtain ⟨-, ad2, rfl, d0⟩ := (HX.out.below HB2.out).at hy
            have hyz := HSZ.out y (List.mem_of_getElem? hy)
            have hyt : l.take (m + 1) = l.take m ++ [y] := by rw [List.take_add_one, hy]; rfl
            have HG1 : Hid (goIR u (l.take (m + 1)) = if (num y.data.toList).2 = 2 then none else some (nextR u' (num y.data.toList))) := Lib.hid (by rw [hyt, goIR_app, HG.out]; exact goIR_one _ _)
            have HGB : Hid ((num y.data.toList).2 = 2 → Ls.length vs = (0, 2)) := Lib.hid fun h2 => HBAD.out k (by
              rw [HGO2.out]
              conv => lhs; rw [← List.take_append_drop (m + 1) l, goIR_app, HG1.out, if_pos h2]
              rfl)
            have HNM : Hid (∀ W, _) := Lib.hid fun W => rnumber_any y W (by omega)
            have hnl := num_le y.data.toList
            generalize num y.data.toList = nx at *
            obtain ⟨x1, x2⟩ := nx
            obtain ⟨hx1, hx2⟩ := hnl
            dsimp only at *
            unfold top at hx1
            clear hy hyt HG
            have m1 : (0 : Int) ≤ (m : Int) := by omega
            have m2 : (m : Int) < (l.length : Int) := by omega
            obtain ⟨bg, al, n, on⟩ := u'
            dsimp only at hon' hun' ⊢
            have hno : (nextR ⟨bg, al, n, on⟩ (x1, x2)).on = decide (0 < k + (m + 1)) := by simp [nextR]; omega
            have hnn : (nextR ⟨bg, al, n, on⟩ (x1, x2)).n = x1 := rfl
            have hb2 : (nextR ⟨bg, al, n, on⟩ (x1, x2)).big = (bg || x2 == 3) := rfl
            have ha2 : (nextR ⟨bg, al, n, on⟩ (x1, x2)).al = (al && !(on && x1 != n)) := rfl
            have hx2' : x2 = 2 ∨ x2 = 0 ∨ x2 = 3 := by omega
            clear hx2
            rcases hx2' with rfl | hx2
            · have HN := Lib.hid (HGB.out rfl)
              have HB3 := Lib.hid (ahead HB1.out HB2.out)
              clear hno hnn hb2 ha2
              go_wp2_with (go_at_call 18; refine (HNM.out _).mono ?_; rintro e w' ⟨rfl, rfl⟩)
              go_ret2
              rw [HN.out]
              exact ⟨rfl, HB3.out⟩
            · have hx22 : x2 ≠ 2 := by omega
              rw [if_neg hx22] at HG1
              clear hx22 HGB
              generalize nextR ⟨bg, al, n, on⟩ (x1, x2) = un at *
              have HNB := Lib.hid hb2
              have HNA := Lib.hid ha2
              have HNN := Lib.hid hnn
              have HNO := Lib.hid hno
              clear hb2 ha2 hnn hno
              by_cases hz : k + m = 0
              · have hz1 : (k : Int) + (m : Int) ≤ 0 := by omega
                have hof : on = false := by rw [hon']; exact decide_eq_false (by omega)
                subst hof
                clear hon' hz
                rcases hx2 with rfl | rfl
                · clear hun
                  go_wp2_with (go_at_call 18; refine (HNM.out _).mono ?_; rintro e w' ⟨rfl, rfl⟩)
                  go_roundw
                  case rel => exact ⟨m + 1, un, by omega, by rw [HNB.out]; simp, by rw [HNA.out]; simp, by rw [HNN.out], by go_num, HNO.out, by rw [HNN.out]; omega, HG1, HB2⟩
                  case measure => simp [intOf]; omega
                · clear hun
                  go_wp2_with (go_at_call 18; refine (HNM.out _).mono ?_; rintro e w' ⟨rfl, rfl⟩)
                  go_roundw
                  case rel => exact ⟨m + 1, un, by omega, by rw [HNB.out]; simp, by rw [HNA.out]; simp, by rw [HNN.out], by go_num, HNO.out, by rw [HNN.out]; omega, HG1, HB2⟩
                  case measure => simp [intOf]; omega
              · have hz1 : 0 < (k : Int) + (m : Int) := by omega
                have hof : on = true := by rw [hon']; exact decide_eq_true (by omega)
                subst hof
                clear hon' hz
                by_cases hxn : x1 = n
                · have hxb : ((x1 : Int) != (n : Int)) = false := by rw [hxn]; simp
                  have HXN : Hid ((x1 != n) = false) := Lib.hid (by rw [hxn]; simp)
                  clear hxn
                  rcases hx2 with rfl | rfl
                  · clear hun
                    go_wp2_with (go_at_call 18; refine (HNM.out _).mono ?_; rintro e w' ⟨rfl, rfl⟩)
                    go_roundw
                    case rel => exact ⟨m + 1, un, by omega, by rw [HNB.out]; simp, by rw [HNA.out, HXN.out]; simp, by rw [HNN.out], by go_num, HNO.out, by rw [HNN.out]; omega, HG1, HB2⟩
                    case measure => simp [intOf]; omega
                  · clear hun
                    go_wp2_with (go_at_call 18; refine (HNM.out _).mono ?_; rintro e w' ⟨rfl, rfl⟩)
                    go_roundw
                    case rel => exact ⟨m + 1, un, by omega, by rw [HNB.out]; simp, by rw [HNA.out, HXN.out]; simp, by rw [HNN.out], by go_num, HNO.out, by rw [HNN.out]; omega, HG1, HB2⟩
                    case measure => simp [intOf]; omega
                · have hxb : ((x1 : Int) != (n : Int)) = true := by simp; omega
                  have HXN : Hid ((x1 != n) = true) := Lib.hid (by simp [hxn])
                  clear hxn
                  rcases hx2 with rfl | rfl
                  · clear hun
                    go_wp2_with (go_at_call 18; refine (HNM.out _).mono ?_; rintro e w' ⟨rfl, rfl⟩)
                    go_roundw
                    case rel => exact ⟨m + 1, un, by omega, by rw [HNB.out]; simp, by rw [HNA.out, HXN.out]; simp, by rw [HNN.out], by go_num, HNO.out, by rw [HNN.out]; omega, HG1, HB2⟩
                    case measure => simp [intOf]; omega
                  · clear hun
                    go_wp2_with (go_at_call 18; refine (HNM.out _).mono ?_; rintro e w' ⟨rfl, rfl⟩)
                    go_roundw
                    case rel => exact ⟨m + 1, un, by omega, by rw [HNB.out]; simp, by rw [HNA.out, HXN.out]; simp, by rw [HNN.out], by go_num, HNO.out, by rw [HNN.out]; omega, HG1, HB2⟩
                    case measure => simp [intOf]; omega
          · obtain rfl : m = l.length := by omega
            rw [List.take_length, ← HGO2.out] at HG
            have HB3 := Lib.hid (ahead HB1.out HB2.out)
            have hon2 : u'.on = decide (0 < k + 1) := by rw [hon']; simp; omega
            go_wp2_with fail
            go_roundw
            case rel => exact ⟨k + 1, u', by omega, rfl, rfl, rfl, by go_num, hon2, hun', HG, HB3⟩
            case measure => simp [intOf]; omega
    · obtain rfl : k = vs.length := by omega
      rw [List.take_length] at HA
      rw [HA.out] at HR
      obtain ⟨bg, al, n, on⟩ := u
      dsimp only at hon hun ⊢
      clear HA HBAD hon
      cases bg with
      | true =>
        go_wp2_with fail
        go_ret2
        rw [HR.out]
        exact ⟨rfl, HB.out⟩
      | false =>
        cases al with
        | true =>
          go_wp2_with fail
          go_ret2
          rw [HR.out]
          exact ⟨rfl, HB.out⟩
        | false =>
          go_wp2_with fail
          go_ret2
          rw [HR.out]
          exact ⟨rfl, HB.out⟩

end Go.Proofs.YtjdbgdlkbdpojaaDoor
