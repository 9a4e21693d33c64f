/- The law EnchunkParts. -/
import Derived.Test.YtjolpnjmelifbaaDoorEncParts
import Derived.Test.YtjolpnjmelifbaaDoorBytesOpen
namespace Go.Proofs.YtjolpnjmelifbaaDoor
open Go.ChangeShapes Go.WideShapes Go.ChangeAt Go.RowKit Go.Deep
open Oc Fl Bk Bd
set_option linter.unusedVariables false
set_option maxRecDepth 100000

theorem Own10.at {w w' : World} {v : Value} {xs : List UInt8} (h : Own10 w w' v xs) : ∃ p n c, v = .slice p n c ∧ n = xs.length := by
  obtain ⟨p, c, rfl⟩ := h.slice
  exact ⟨p, _, c, rfl, rfl⟩

set_option maxHeartbeats 8000000 in
theorem parts10_walk (xs : List UInt8) (fs : List Fld) (p q : Option Addr) (c d : Nat) (w : World) (hX : RD w (.slice p xs.length c) xs) (hF : FS w (.slice q fs.length d) fs)
    (hfl : fs.length ≤ 140737488355328) (hfb : ∀ f ∈ fs, f.name.size ≤ 140737488355328 ∧ f.value.size ≤ 140737488355328) (hsp : Spans w) (hz : Tz w) :
    Calls Tryd.prog 3 #[.slice p xs.length c, .slice q fs.length d] w fun e w' => e = .returned (.bool true) ∧ Below w.heap.size w w' := by
  have HWK := Lib.hid (wakes10 w hz)
  have HX := Lib.hid hX
  have HF := Lib.hid hF
  have HSP := Lib.hid hsp
  have HZ := Lib.hid hz
  have HFB := Lib.hid hfb
  have hxl : xs.length ≤ 9223372036854775807 := by
    obtain ⟨_, _, e, h1, h2, _⟩ := hX
    cases e
    simp only [maxLen] at h2
    omega
  clear hX hF hsp hz hfb
  go_enter Tryd.func3, Tryd.ntmps3
  go_wp2_with fail
  refine HWK.out.mono ?_
  rintro e w1 ⟨rfl, hb1⟩
  have HGR := Lib.hid (great_any fs q d w1 (HF.out.below hb1) hfl HFB.out)
  have B1 := Lib.hid hb1
  clear hb1 HWK
  by_cases hn : 500 < xs.length
  · have hn' : (500 : Int) < (xs.length : Int) := by omega
    clear HGR
    go_wp2_with fail
    go_ret
    exact ⟨rfl, B1.out⟩
  have hn' : ¬ (500 : Int) < (xs.length : Int) := by omega
  by_cases hg : 2000 < bulk fs
  · rw [decide_eq_true hg] at HGR
    go_wp2_with fail
    refine HGR.out.mono ?_
    rintro e w2 ⟨rfl, hb2⟩
    have B2 := Lib.hid (ahead B1.out hb2)
    clear hb2
    go_wp2_with fail
    go_ret
    exact ⟨rfl, B2.out⟩
  rw [decide_eq_false hg] at HGR
  have hbk : bulk fs ≤ 2000 := by omega
  clear hg
  go_wp2_with fail
  refine HGR.out.mono ?_
  rintro e w2 ⟨rfl, hb2⟩
  have b2 := ahead B1.out hb2
  have HL := Lib.hid (last_any fs q d w2 (HF.out.below b2) hbk (HSP.out.below b2))
  have B2 := Lib.hid b2
  clear hb2 b2 HGR B1
  go_wp2_with fail
  refine HL.out.mono ?_
  rintro e w3 ⟨v3, rfl, hO3⟩
  have b3 := ahead B2.out hO3.below
  have HR := Lib.hid (rlast_any fs q d w3 (HF.out.below b3) hbk)
  have B3 := Lib.hid b3
  have D3 := Lib.hid hO3.rd
  obtain ⟨p3, n3, c3, rfl, hn3⟩ := hO3.at
  clear hO3 b3 HL hn3
  go_wp2_with fail
  refine HR.out.mono ?_
  rintro e w4 ⟨v4, rfl, hO4⟩
  have b4 := ahead B3.out hO4.below
  have HC := Lib.hid (chunk_any xs p c w4 (HX.out.below b4) (by omega) (HZ.out.below b4))
  have B4 := Lib.hid b4
  have D4 := Lib.hid hO4.rd
  have E3 := Lib.hid (D3.out.below hO4.below)
  obtain ⟨p4, n4, c4, rfl, hn4⟩ := hO4.at
  clear hO4 b4 HR hn4 D3
  go_wp2_with fail
  refine HC.out.mono ?_
  rintro e w5 ⟨v5, rfl, hO5⟩
  have b5 := ahead B4.out hO5.below
  have HRC := Lib.hid (rchunk_any xs p c w5 (HX.out.below b5) (by omega))
  have B5 := Lib.hid b5
  have D5 := Lib.hid hO5.rd
  have E4 := Lib.hid (D4.out.below hO5.below)
  have F3 := Lib.hid (E3.out.below hO5.below)
  obtain ⟨p5, n5, c5, rfl, hn5⟩ := hO5.at
  rw [ck_len] at hn5
  have HN5 := Lib.hid hn5
  clear hO5 b5 HC D4 E3 hn5
  go_wp2_with fail
  refine HRC.out.mono ?_
  rintro e w6 ⟨v6, rfl, hO6⟩
  have b6 := ahead B5.out hO6.below
  have B6 := Lib.hid b6
  have E5 := Lib.hid (D5.out.below hO6.below)
  have F4 := Lib.hid (E4.out.below hO6.below)
  have G3 := Lib.hid (F3.out.below hO6.below)
  have HZ6 := Lib.hid (HZ.out.below b6)
  have D6 := Lib.hid hO6.rd
  obtain ⟨p6, n6, c6, rfl, hn6⟩ := hO6.at
  have HS := Lib.hid (same10 w6 p5 p6 n5 c5 n6 c6 _ E5.out D6.out)
  clear hO6 b6 HRC D5 E4 F3 hn6
  go_wp2_with fail
  refine HS.out.mono ?_
  rintro e w7 ⟨rfl, hb7⟩
  have HK := Lib.hid (cost_any xs.length (by omega) w7 (HZ6.out.below hb7))
  have hn5 := HN5.out
  have hsub : IntKind.i64.wrap ((n5 : Int) - (xs.length : Int)) = (cst xs.length : Int) := by rw [IntWalk.i64_in _ (by unfold cst at hn5; have := Hx.put_len16 xs.length (by omega); split at hn5 <;> omega)]; omega
  generalize cst xs.length = cs at *
  have B7 := Lib.hid (ahead B6.out hb7)
  have K3 := Lib.hid (G3.out.below hb7)
  have K4 := Lib.hid (F4.out.below hb7)
  clear hb7 HS hn5 HN5
  go_wp2_with fail
  refine HK.out.mono ?_
  rintro e w8 ⟨rfl, hb8⟩
  have HS2 := Lib.hid (same10 w8 p3 p4 n3 c3 n4 c4 _ (K3.out.below hb8) (K4.out.below hb8))
  have B8 := Lib.hid (ahead B7.out hb8)
  clear hb8 HK
  cases hr : rights fs with
  | false =>
    rw [putE_no hr]
    clear hr
    go_wp2_with fail
    refine HS2.out.mono ?_
    rintro e w9 ⟨rfl, hb9⟩
    have B9 := Lib.hid (ahead B8.out hb9)
    clear hb9
    go_wp2_with fail
    go_ret
    exact ⟨rfl, B9.out⟩
  | true =>
    rw [putE_yes hr]
    clear hr
    go_wp2_with fail
    refine HS2.out.mono ?_
    rintro e w9 ⟨rfl, hb9⟩
    have B9 := Lib.hid (ahead B8.out hb9)
    clear hb9
    go_wp2_with fail
    go_ret
    exact ⟨rfl, B9.out⟩

set_option maxRecDepth 100000 in
theorem parts10_data {H : Type} {enc : TypeId × Value → H} {W : World} {base : Nat} {v0 v1 : Value} {d0 d1 : DataW H} {p0 p1 : List MemPlace} (u0 : Value.okWide Tryd.prog W .any base 22 v0) (h0 : DataW.Trod enc Tryd.prog W 0 (fun _ => true) true 22 v0 d0 p0)
    (u1 : Value.okWide Tryd.prog W .any base 23 v1) (h1 : DataW.Trod enc Tryd.prog W 0 (fun _ => true) true 23 v1 d1 p1)
    (hz : (DataW.weightsEach Tryd.prog [22, 23] [d0, d1]).all (· ≤ reachBytes) = true) (hsp : Spans W) (htz : Tz W) :
    Calls Tryd.prog 3 #[v0, v1] W fun e w' => e = .returned (.bool true) ∧ Below W.heap.size W w' := by
  obtain ⟨xs, hX, _⟩ := open_bytes u0 h0
  obtain ⟨p, c, rfl, -⟩ := id hX
  obtain ⟨fs, q, d, rfl, hF, hfl, hfb⟩ := open_flds u1 h1 (each_weight hz (j := 1) rfl rfl)
  exact parts10_walk xs fs p q c d W hX hF hfl hfb hsp htz

end Go.Proofs.YtjolpnjmelifbaaDoor
