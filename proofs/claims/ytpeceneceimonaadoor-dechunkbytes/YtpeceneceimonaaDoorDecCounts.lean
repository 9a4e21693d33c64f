/- The law DechunkCounts. -/
import Derived.Test.YtpeceneceimonaaDoorDecStays
import Derived.Test.YtpeceneceimonaaDoorBodyRScan
namespace Go.Proofs.YtpeceneceimonaaDoor
open Go.ChangeShapes Go.WideShapes Go.ChangeAt Go.RowKit
open Oc Fl Bk Bd Dk
set_option linter.unusedVariables false
set_option maxRecDepth 100000

theorem ten_got9 {A : World} {R : Nat} {x0 x1 x2 x3 x4 x5 x6 x7 x8 x9 : Value} {t : TypeId} (h : A.heap[R]? = some (.cells #[x0, x1, x2, x3, x4, x5, x6, x7, x8, x9] t (0, 0))) : A.cell? ⟨R, 8, none⟩ = some x8 ∧ A.cell? ⟨R, 9, none⟩ = some x9 := by
  simp [World.cell?, h]

set_option maxHeartbeats 8000000 in
theorem counts9_walk (a b c : Int) {p : Option Addr} {k : Nat} {T : List UInt8} (w : World) (hT : RD w (.slice p T.length k) T)
    (hv : ∀ g, (Value.slice p T.length k).ownBlock = some g → g < w.heap.size) (hsp : Spans w) :
    Calls Tryd.prog 6 #[lim3 a b c, .slice p T.length k] w fun e w' => e = .returned (.bool true) ∧ Below w.heap.size w w' := by
  obtain ⟨w0, hw0⟩ : ∃ w0, w.alloc (obLim a b c) = w0 := ⟨_, rfl⟩
  have b0 : Below w.heap.size w w0 := by rw [← hw0]; exact below_box _ _
  have z0 : w0.heap.size = w.heap.size + 1 := by rw [← hw0]; simp
  have l0 : w0.heap[w.heap.size]? = some (obLim a b c) := by rw [← hw0]; exact World.alloc_heap_new w _
  have HFIN : Hid (∀ W, Below w0.heap.size w0 W → Below w.heap.size w W) := Lib.hid fun W h => ahead b0 h
  have KL : Hid (∀ W, Below w0.heap.size w0 W → W.cell? ⟨w.heap.size, 0, none⟩ = some (.int .i64 a) ∧ W.cell? ⟨w.heap.size, 1, none⟩ = some (.int .i64 b) ∧ W.cell? ⟨w.heap.size, 2, none⟩ = some (.int .i64 c)) := Lib.hid fun W h => (three_cells8 ((h.block _ (by omega)).trans l0)).1
  have HW := Lib.hid (wakes9 w0 (hsp.below b0))
  have W0 := Lib.hid hw0
  have HT := Lib.hid (hT.below b0)
  have HV := Lib.hid (fun g hg => Nat.lt_of_lt_of_le (hv g hg) b0.size)
  have HSP := Lib.hid (hsp.below b0)
  unfold obLim at W0
  clear hw0 b0 l0 hT hv hsp
  unfold lim3
  go_enter Tryd.func6, Tryd.ntmps6
  go_wp2_with fail
  rw [W0.out]
  refine HW.out.mono ?_
  rintro e w1 ⟨rfl, hb1⟩
  obtain ⟨x0, x1, x2⟩ := KL.out w1 hb1
  have B1 := Lib.hid hb1
  have HL1 := Lib.hid hb1.size
  clear hb1 HW W0
  by_cases h400 : (400 : Int) < (T.length : Int)
  · go_wp2_with fail
    go_ret
    exact ⟨rfl, HFIN.out _ B1.out⟩
  have h400' : (T.length : Int) ≤ 400 := by omega
  have HR := Lib.hid (rright8_any a b c w1)
  unfold lim3 at HR
  cases hok : okLs a b c with
  | false =>
    rw [hok] at HR
    clear hok
    go_wp2_with fail
    refine HR.out.mono ?_
    rintro e w2 ⟨rfl, hb2⟩
    have B2 := Lib.hid (ahead B1.out hb2)
    clear hb2
    go_wp2_with fail
    go_ret
    exact ⟨rfl, HFIN.out _ B2.out⟩
  | true =>
    obtain ⟨l, rfl, rfl, rfl, hlm⟩ := okLs_nat hok
    rw [hok] at HR
    clear hok x0 x1 x2
    obtain ⟨x0, x1, x2⟩ := KL.out w1 B1.out
    go_wp2_with fail
    refine HR.out.mono ?_
    rintro e w2 ⟨rfl, hb2⟩
    have b2 := ahead B1.out hb2
    clear x0 x1 x2
    obtain ⟨x0, x1, x2⟩ := KL.out w2 b2
    have HN := Lib.hid (newX l w2 hlm (HSP.out.below b2))
    unfold lim3 at HN
    have B2 := Lib.hid b2
    clear hb2 b2 HR
    go_wp2_with fail
    refine HN.out.mono ?_
    rintro e w3 ⟨R, M, rfl, hd3, hm3, hb3⟩
    have hz2 := B2.out.size
    have hz3 := hb3.size
    have B3 := Lib.hid (ahead B2.out hb3)
    have HP := Lib.hid (putX w3 hd3 (HT.out.below B3.out) (fun g hg hm => by have h1 := hm3 g hm; have h2 := HV.out g hg; omega) (by omega) (by decide) hlm)
    have HM3 := Lib.hid (fun k hk => Nat.le_trans hz2 (hm3 k hk))
    have HLM := Lib.hid hlm
    clear hd3 hm3 hb3 HN hlm x0 x1 x2
    go_wp2_with fail
    refine HP.out.mono ?_
    rintro e w4 ⟨M4, p4, c4, D4, n4, rfl, hd4, m4, hat4, hn4, hdat4, hrd4, hown4⟩
    obtain ⟨B4, HM4⟩ := Moves.low B3.out m4 (by omega) HM3.out
    have HB4 := Lib.hid B4
    obtain ⟨x0, x1, x2⟩ := KL.out w4 B4
    have HDN : Hid (∀ W, Below w4.heap.size w4 W → _) := Lib.hid fun W hW => doneX W (hd4.below hW)
    have HGV := Lib.hid (givenX w4 hd4)
    have HTK := Lib.hid (takenX w4 hd4)
    have hle := hd4.data
    rw [hdat4] at hle HGV
    rw [show ((sz [] 0 0, 0, 4) : St × Nat × Nat).1.data = [] from rfl, List.nil_append] at hle HGV
    rw [hat4] at hle HTK
    rw [show ((sz [] 0 0, 0, 4) : St × Nat × Nat).2.1 + n4 = n4 from Nat.zero_add _] at hle HTK
    have HS := Lib.hid (rscan8_any w4 (HT.out.below B4) (by omega) HLM.out)
    rw [limv] at HS
    obtain ⟨f, hf⟩ : ∃ f, told (cont l (sz [] 0 0, 0, 4) T).2.2 = f := ⟨_, rfl⟩
    rw [hf]
    have HCT := Lib.hid (And.intro (cont_go l (sz [] 0 0) 0 T) hat4)
    generalize D4.length = dl at *
    have hle' : (dl : Int) ≤ (n4 : Int) := by omega
    clear hd4 m4 hat4 hn4 hdat4 hrd4 hown4 B4 HM4 HP hf HM3
    go_wp2_with (first | (go_at_call 16; refine HGV.out.mono ?_; rintro e w' ⟨rfl, rfl⟩) | (go_at_call 15; refine HTK.out.mono ?_; rintro e w' ⟨rfl, rfl⟩))
    refine HS.out.mono ?_
    rintro e w5 ⟨s5, k5, e5, dv, gv, hgo, rfl, hdv, hgv, hb5⟩
    obtain ⟨hct, hat⟩ := HCT.out
    rw [hgo] at hct
    rw [hct] at HDN hat
    simp only at hat
    obtain ⟨pd, cd, rfl, -⟩ := hdv
    obtain ⟨pg, cg, rfl, -⟩ := RS.slice hgv
    obtain rfl : k5 = n4 := by have : (0 : Nat) + n4 = n4 := Nat.zero_add _; omega
    obtain ⟨w6, hw6⟩ : ∃ w6, w5.alloc (.cells #[.int .i64 (s5.place : Int), .int .u64 (s5.n : Int), .int .i64 (s5.count : Int), .int .i64 (s5.lines : Int), .int .i64 (s5.size : Int), .string (arr s5.text), .slice pd s5.data.length cd, .slice pg s5.fields.length cg, .int .i64 (k5 : Int), .int .i64 (e5 : Int)] 37) = w6 := ⟨_, rfl⟩
    have b6 : Below w5.heap.size w5 w6 := by rw [← hw6]; exact below_box _ _
    have j6 : w6.heap[w5.heap.size]? = some (.cells #[.int .i64 (s5.place : Int), .int .u64 (s5.n : Int), .int .i64 (s5.count : Int), .int .i64 (s5.lines : Int), .int .i64 (s5.size : Int), .string (arr s5.text), .slice pd s5.data.length cd, .slice pg s5.fields.length cg, .int .i64 (k5 : Int), .int .i64 (e5 : Int)] 37 (0, 0)) := by rw [← hw6]; exact World.alloc_heap_new w5 _
    obtain ⟨y8, y9⟩ := ten_got9 j6
    have HD6 := Lib.hid (HDN.out w6 (ahead hb5 b6))
    have W6 := Lib.hid hw6
    have HB6 := Lib.hid (HFIN.out _ (ahead HB4.out (ahead hb5 b6)))
    clear hw6 b6 j6 hb5 hgv hct hgo HDN HCT hat HS HGV HTK x0 x1 x2
    unfold gotv
    by_cases h0 : e5 = 0
    · subst h0
      rw [decide_eq_true rfl] at HD6
      rw [show ((0 : Nat) : Int) = 0 from rfl] at W6 y9
      go_wp2_with fail
      rw [W6.out]
      refine HD6.out.mono ?_
      rintro e w7 ⟨rfl, rfl⟩
      go_wp2_with fail
      go_ret
      exact ⟨rfl, HB6.out⟩
    · rw [decide_eq_false h0] at HD6
      go_wp2_with fail
      rw [W6.out]
      refine HD6.out.mono ?_
      rintro e w7 ⟨rfl, rfl⟩
      go_wp2_with fail
      go_ret
      exact ⟨rfl, HB6.out⟩

end Go.Proofs.YtpeceneceimonaaDoor
