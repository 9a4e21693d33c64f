/- The laws FilterNames, FilterParts, FilterJoins. -/
import Derived.Test.YtpmgmbekhnjeoaaDoorFiltRef
import Derived.Test.YtpmgmbekhnjeoaaDoorFieldAll
namespace Go.Proofs.YtpmgmbekhnjeoaaDoor
open Go.ChangeShapes Go.WideShapes Go.ChangeAt Go.RowKit
open Oc Fl Ft
set_option linter.unusedVariables false
set_option maxRecDepth 100000

set_option maxHeartbeats 4000000 in
theorem names_walk (s : ByteArray) (i : Nat) (hi : i ≤ 255) (w : World) (hT : Tbl w) :
    Calls Tryd.prog 3 #[.string s, .int .u8 (i : Int)] w fun e w' => e = .returned (.bool true) ∧ Below w.heap.size w w' := by
  have hW := Lib.hid (wakes13 w hT)
  by_cases hz : (300 : Int) < (s.size : Int)
  · clear hT
    go_enter Tryd.func3, Tryd.ntmps3
    go_wp2_with (go_at_call 7; refine hW.out.mono ?_; rintro e w' ⟨rfl, hb⟩)
    go_ret
    exact ⟨rfl, hb⟩
  have HT := Lib.hid hT
  have hs : s.size ≤ 1099511627776 := by omega
  obtain ⟨k, hk⟩ : ∃ k : Nat, k = i % 28 := ⟨_, rfl⟩
  have hk2 : k < 28 := by omega
  have hrem : ((i : Int)).tmod 28 = (k : Int) := by rw [Int.tmod_eq_emod_of_nonneg (by omega)]; omega
  have hwi : IntKind.i64.wrap (i : Int) = (i : Int) := IntWalk.i64_in _ (by omega)
  have hwk : IntKind.i64.wrap (k : Int) = (k : Int) := IntWalk.i64_in _ (by omega)
  obtain ⟨n, hn⟩ : ∃ n, nms[k]? = some n := ⟨_, List.getElem?_eq_getElem (by rw [nms_len]; exact hk2)⟩
  have hnm := List.mem_of_getElem? hn
  have hnz := nms_size n hnm
  have hF1 := Lib.hid (forbidden_any s)
  have hF2 : Hid (∀ W, Tbl W → _) := Lib.hid fun W hT => forbidden_any n W hT (by omega)
  have hF3 : Hid (∀ W, Tbl W → _) := Lib.hid fun W hT => forbidden_any (n ++ ⟨#[120]⟩) W hT (by rw [ByteArray.size_append]; have : (⟨#[120]⟩ : ByteArray).size = 1 := rfl; omega)
  rw [nms_forb n hnm] at hF2
  rw [nms_x n hnm] at hF3
  have hR := Lib.hid (rforb_any s · hs)
  have hbb : (forb s == forb s) = true := by simp
  clear hT hk hnm
  generalize forb s = b at *
  have HN := Lib.hid hn
  clear hn
  go_enter Tryd.func3, Tryd.ntmps3
  go_wp2_with fail
  refine hW.out.mono ?_
  rintro e w1 ⟨rfl, hb1⟩
  replace hb1 := Lib.hid hb1
  go_wp2_with fail
  refine (rnames_any w1).mono ?_
  rintro e w2 ⟨rfl, hw2⟩
  have c0 : w2.cell? ⟨w1.heap.size, k, none⟩ = some (.string n) := by
    have := (names_tx w1).at HN.out
    rw [← hw2] at this
    obtain ⟨-, ad, e, h⟩ := this
    cases e
    rw [Addr.add_mid, Nat.zero_add] at h
    exact h
  replace hb1 := Lib.hid (ahead hb1.out (show Below w1.heap.size w1 w2 by rw [hw2]; exact below_box w1 _))
  clear hw2
  have hk0 : (0 : Int) ≤ (k : Int) := by omega
  have hk3 : (k : Int) < 28 := by omega
  clear HN hW
  go_wp2_with fail
  refine (hF1.out w2 (HT.out.below hb1.out) hs).mono ?_
  rintro e w3 ⟨rfl, hb3⟩
  replace hb1 := Lib.hid (ahead hb1.out hb3)
  clear hb3 c0
  go_wp2_with fail
  refine (hR.out w3).mono ?_
  rintro e w4 ⟨rfl, hb3⟩
  replace hb1 := Lib.hid (ahead hb1.out hb3)
  clear hb3
  go_wp2_with fail
  refine (hF2.out w4 (HT.out.below hb1.out)).mono ?_
  rintro e w5 ⟨rfl, hb3⟩
  replace hb1 := Lib.hid (ahead hb1.out hb3)
  clear hb3
  go_wp2_with fail
  refine (hF3.out w5 (HT.out.below hb1.out)).mono ?_
  rintro e w6 ⟨rfl, hb3⟩
  replace hb1 := Lib.hid (ahead hb1.out hb3)
  clear hb3
  go_wp2_with fail
  go_ret
  exact ⟨rfl, hb1.out⟩

theorem small_len13 {l : List Fld} (h : ¬ 2000 < bulk l) : l.length ≤ 2000 := by have := bulk_len l; omega
theorem small_mem13 {l : List Fld} (h : ¬ 2000 < bulk l) : ∀ f ∈ l, f.name.size ≤ 1099511627776 := fun f hf => by have := bulk_mem hf; omega

set_option maxHeartbeats 8000000 in
set_option maxRecDepth 20000 in
theorem parts_walk (l : List Fld) (p : Option Addr) (c : Nat) (w : World) (hT : Tbl w) (hF : FS w (.slice p l.length c) l) (hl : l.length ≤ 140737488355328) (hfs : ∀ f ∈ l, f.name.size ≤ 140737488355328 ∧ f.value.size ≤ 140737488355328) :
    Calls Tryd.prog 4 #[.slice p l.length c] w fun e w' => e = .returned (.bool true) ∧ Below w.heap.size w w' := by
  have hW := Lib.hid (wakes13 w hT)
  have hG : Hid (∀ W, Below w.heap.size w W → _) := Lib.hid fun W hb => great_any l p c W (hF.below hb) hl hfs
  clear hfs
  by_cases h1 : 2000 < bulk l
  · rw [decide_eq_true h1] at hG
    clear h1 hF hT
    go_enter Tryd.func4, Tryd.ntmps4
    go_wp2_with fail
    refine hW.out.mono ?_
    rintro e w1 ⟨rfl, hb1⟩
    replace hb1 := Lib.hid hb1
    go_wp2_with fail
    refine (hG.out _ hb1.out).mono ?_
    rintro e w2 ⟨rfl, hb2⟩
    replace hb2 := Lib.hid (ahead hb1.out hb2)
    go_wp2_with fail
    go_ret
    exact ⟨rfl, hb2.out⟩
  rw [decide_eq_false h1] at hG
  have hl' := small_len13 h1
  have hm' := Lib.hid (small_mem13 h1)
  have HF := Lib.hid hF
  have HT := Lib.hid hT
  have hks := sel_len false l
  have hds := sel_len true l
  have HB := Lib.hid (sel_both l)
  have HA := Lib.hid (sel_again l)
  have HN := Lib.hid (sel_none l)
  have HM := Lib.hid (show ∀ f ∈ sel false l, f.name.size ≤ 1099511627776 from fun f hf => hm'.out f (sel_mem hf))
  clear h1 hF hT
  go_enter Tryd.func4, Tryd.ntmps4
  go_wp2_with fail
  refine hW.out.mono ?_
  rintro e w1 ⟨rfl, hb1⟩
  replace hb1 := Lib.hid hb1
  go_wp2_with fail
  refine (hG.out _ hb1.out).mono ?_
  rintro e w2 ⟨rfl, hb2⟩
  replace hb2 := Lib.hid (ahead hb1.out hb2)
  clear hb1 hG hW
  go_wp2_with fail
  refine (keep_any l p c w2 (HT.out.below hb2.out) (HF.out.below hb2.out) (by omega) hm'.out).mono ?_
  rintro e w3 ⟨v1, rfl, t1, hb3⟩
  replace hb2 := Lib.hid (ahead hb2.out hb3)
  obtain ⟨q1, d1, rfl, -, -⟩ := RS.slice t1
  have T1 := Lib.hid t1
  clear t1 hb3
  go_wp2_with fail
  refine (drop_any l p c w3 (HT.out.below hb2.out) (HF.out.below hb2.out) (by omega) hm'.out).mono ?_
  rintro e w4 ⟨v2, rfl, t2, hb3⟩
  replace hb2 := Lib.hid (ahead hb2.out hb3)
  replace T1 := Lib.hid (T1.out.below hb3)
  obtain ⟨q2, d2, rfl, -, -⟩ := RS.slice t2
  have T2 := Lib.hid t2
  clear t2 hb3
  go_wp2_with fail
  refine (count_any l p c w4 (HT.out.below hb2.out) (HF.out.below hb2.out) (by omega) hm'.out).mono ?_
  rintro e w5 ⟨rfl, hb3⟩
  replace hb2 := Lib.hid (ahead hb2.out hb3)
  replace T1 := Lib.hid (T1.out.below hb3)
  replace T2 := Lib.hid (T2.out.below hb3)
  clear hb3
  have hsum : (((sel false l).length : Int) + ((sel true l).length : Int) == (l.length : Int)) = true := by rw [beq_iff_eq]; have := HB.out; omega
  have HSUM := Lib.hid hsum
  clear hsum
  obtain ⟨xs, hxs⟩ : ∃ xs, sel false l = xs := ⟨_, rfl⟩
  obtain ⟨ys, hys⟩ : ∃ ys, sel true l = ys := ⟨_, rfl⟩
  have HP1 : Hid (∀ W, Below w5.heap.size w5 W → Calls Tryd.prog 16 #[.slice p l.length c, .bool false] W fun e w' => ∃ v, e = .returned v ∧ FS w' v xs ∧ Below W.heap.size W w') := Lib.hid fun W hb => by
    have := rpart_any false l p c W ((HF.out.below hb2.out).below hb) (by omega) hm'.out
    rwa [hxs] at this
  have HP2 : Hid (∀ W, Below w5.heap.size w5 W → Calls Tryd.prog 16 #[.slice p l.length c, .bool true] W fun e w' => ∃ v, e = .returned v ∧ FS w' v ys ∧ Below W.heap.size W w') := Lib.hid fun W hb => by
    have := rpart_any true l p c W ((HF.out.below hb2.out).below hb) (by omega) hm'.out
    rwa [hys] at this
  rw [hxs] at T1 HSUM HA HN HM hks ⊢
  rw [hys] at T2 HSUM hds ⊢
  clear hxs hys HB
  have HWW := Lib.hid (Below.refl w5.heap.size w5)
  go_wp2_with fail
  refine (HP1.out _ HWW.out).mono ?_
  rintro e w6 ⟨v3, rfl, t3, hb3⟩
  replace HWW := Lib.hid (ahead HWW.out hb3)
  go_wp2_with fail
  refine (fields_any xs xs _ v3 w6 (T1.out.below HWW.out) t3 (by omega) (by omega) rfl).mono ?_
  rintro e w7 ⟨rfl, hb4⟩
  replace HWW := Lib.hid (ahead HWW.out hb4)
  clear t3 hb3 hb4
  go_wp2_with fail
  refine (HP2.out _ HWW.out).mono ?_
  rintro e w8 ⟨v4, rfl, t4, hb3⟩
  replace HWW := Lib.hid (ahead HWW.out hb3)
  go_wp2_with fail
  refine (fields_any ys ys _ v4 w8 (T2.out.below HWW.out) t4 (by omega) (by omega) rfl).mono ?_
  rintro e w9 ⟨rfl, hb4⟩
  replace HWW := Lib.hid (ahead HWW.out hb4)
  clear t4 hb3 hb4
  have e1 : ((xs.length : Int) == (xs.length : Int)) = true := by simp
  have e2 : ((ys.length : Int) == (ys.length : Int)) = true := by simp
  have e3 : IntKind.i64.wrap ((xs.length : Int) + (ys.length : Int)) = (xs.length : Int) + (ys.length : Int) := IntWalk.i64_in _ (by omega)
  have e4 := HSUM.out
  go_wp2_with fail
  refine (keep_any xs q1 d1 w9 (HT.out.below (ahead hb2.out HWW.out)) (T1.out.below HWW.out) (by omega) HM.out).mono ?_
  rintro e w10 ⟨v5, rfl, t5, hb3⟩
  replace HWW := Lib.hid (ahead HWW.out hb3)
  rw [HA.out] at t5
  go_wp2_with fail
  refine (fields_any xs xs v5 _ w10 t5 (T1.out.below HWW.out) (by omega) (by omega) rfl).mono ?_
  rintro e w11 ⟨rfl, hb4⟩
  replace HWW := Lib.hid (ahead HWW.out hb4)
  clear t5 hb3 hb4
  go_wp2_with fail
  refine (drop_any xs q1 d1 w11 (HT.out.below (ahead hb2.out HWW.out)) (T1.out.below HWW.out) (by omega) HM.out).mono ?_
  rintro e w12 ⟨v6, rfl, t6, hb3⟩
  replace HWW := Lib.hid (ahead HWW.out hb3)
  rw [HN.out] at t6
  obtain ⟨q6, d6, rfl, -, -⟩ := RS.slice t6
  clear t6 hb3
  go_wp2_with fail
  go_ret
  exact ⟨rfl, ahead hb2.out HWW.out⟩

set_option maxHeartbeats 8000000 in
set_option maxRecDepth 20000 in
theorem joins13_walk (a b : List Fld) (p q : Option Addr) (c d : Nat) (w : World) (hT : Tbl w) (hA : FS w (.slice p a.length c) a) (hB : FS w (.slice q b.length d) b) (hla : a.length ≤ 140737488355328) (hlb : b.length ≤ 140737488355328) (hfa : ∀ f ∈ a, f.name.size ≤ 140737488355328 ∧ f.value.size ≤ 140737488355328) (hfb : ∀ f ∈ b, f.name.size ≤ 140737488355328 ∧ f.value.size ≤ 140737488355328) :
    Calls Tryd.prog 6 #[.slice p a.length c, .slice q b.length d] w fun e w' => e = .returned (.bool true) ∧ Below w.heap.size w w' := by
  have hW := Lib.hid (wakes13 w hT)
  have hG : Hid (∀ W, Below w.heap.size w W → _) := Lib.hid fun W hb => great_any a p c W (hA.below hb) hla hfa
  have hG' : Hid (∀ W, Below w.heap.size w W → _) := Lib.hid fun W hb => great_any b q d W (hB.below hb) hlb hfb
  clear hfa hfb
  by_cases h1 : 2000 < bulk a
  · rw [decide_eq_true h1] at hG
    clear h1 hA hB hG' hT
    go_enter Tryd.func6, Tryd.ntmps6
    go_wp2_with fail
    refine hW.out.mono ?_
    rintro e w1 ⟨rfl, hb1⟩
    replace hb1 := Lib.hid hb1
    go_wp2_with fail
    refine (hG.out _ hb1.out).mono ?_
    rintro e w2 ⟨rfl, hb2⟩
    replace hb2 := Lib.hid (ahead hb1.out hb2)
    go_wp2_with fail
    go_ret
    exact ⟨rfl, hb2.out⟩
  rw [decide_eq_false h1] at hG
  by_cases h2 : 2000 < bulk b
  · rw [decide_eq_true h2] at hG'
    clear h1 h2 hA hB hT
    go_enter Tryd.func6, Tryd.ntmps6
    go_wp2_with fail
    refine hW.out.mono ?_
    rintro e w1 ⟨rfl, hb1⟩
    replace hb1 := Lib.hid hb1
    go_wp2_with fail
    refine (hG.out _ hb1.out).mono ?_
    rintro e w2 ⟨rfl, hb2⟩
    replace hb2 := Lib.hid (ahead hb1.out hb2)
    go_wp2_with fail
    refine (hG'.out _ hb2.out).mono ?_
    rintro e w3 ⟨rfl, hb3⟩
    replace hb2 := Lib.hid (ahead hb2.out hb3)
    go_wp2_with fail
    go_ret
    exact ⟨rfl, hb2.out⟩
  rw [decide_eq_false h2] at hG'
  have la := small_len13 h1
  have lb := small_len13 h2
  have ma := Lib.hid (small_mem13 h1)
  have mb := Lib.hid (small_mem13 h2)
  have mab := Lib.hid (show ∀ f ∈ a ++ b, f.name.size ≤ 1099511627776 from fun f hf => by rcases List.mem_append.1 hf with hf | hf; exact ma.out f hf; exact mb.out f hf)
  have HA := Lib.hid hA
  have HB := Lib.hid hB
  have HT := Lib.hid hT
  clear h1 h2 hA hB hT
  go_enter Tryd.func6, Tryd.ntmps6
  go_wp2_with fail
  refine hW.out.mono ?_
  rintro e w1 ⟨rfl, hb1⟩
  replace hb1 := Lib.hid hb1
  go_wp2_with fail
  refine (hG.out _ hb1.out).mono ?_
  rintro e w2 ⟨rfl, hb2⟩
  replace hb2 := Lib.hid (ahead hb1.out hb2)
  go_wp2_with fail
  refine (hG'.out _ hb2.out).mono ?_
  rintro e w3 ⟨rfl, hb3⟩
  replace hb2 := Lib.hid (ahead hb2.out hb3)
  clear hb3 hb1 hG hW hG'
  replace HA := Lib.hid (HA.out.below hb2.out)
  replace HB := Lib.hid (HB.out.below hb2.out)
  obtain ⟨v1, w4, r0, r1⟩ := (ToldF.made w3).all (HA.out.below (below_box w3 _)) 27 (by simp; omega)
  obtain ⟨v2, w5, r2, r3⟩ := r1.all (HB.out.below r1.below) 27 (by simp; omega)
  rw [List.nil_append] at r3
  have R0 := Lib.hid r0
  have R2 := Lib.hid r2
  have R3 := Lib.hid r3
  clear r0 r1 r2 r3
  go_wp2_with (at_builtin; first | refine wpList_append_is rfl (.tmp 14) (.tmp 15) 27 rfl _ _ _ _ rfl rfl R0.out ?_ | refine wpList_append_is rfl (.tmp 16) (.tmp 17) 27 rfl _ _ _ _ rfl rfl R2.out ?_)
  obtain ⟨ab, hab⟩ : ∃ ab, ab = a ++ b := ⟨_, rfl⟩
  rw [← hab] at R3 mab
  have lab : ab.length ≤ 1000000 := by rw [hab]; simp; omega
  have jw := Lib.hid (show sel false ab = sel false a ++ sel false b by rw [hab, sel_append])
  clear hab
  have HC := Lib.hid (show FS w5 v2 ab from RS.of_own R3.out.own)
  replace hb2 := Lib.hid (ahead hb2.out R3.out.below)
  replace HA := Lib.hid (HA.out.below R3.out.below)
  replace HB := Lib.hid (HB.out.below R3.out.below)
  clear R0 R2 R3
  obtain ⟨p2, c2, rfl, -, -⟩ := RS.slice HC.out
  have wa := sel_len false a
  have wb := sel_len false b
  have wab := sel_len false ab
  refine (keep_any ab p2 c2 w5 (HT.out.below hb2.out) HC.out lab mab.out).mono ?_
  rintro e w6 ⟨v3, rfl, t1, hb3⟩
  replace hb2 := Lib.hid (ahead hb2.out hb3)
  replace HA := Lib.hid (HA.out.below hb3)
  replace HB := Lib.hid (HB.out.below hb3)
  have T1 := Lib.hid t1
  clear t1 hb3 HC
  have O := Lib.hid (ToldF.made w6)
  go_wp2_with fail
  generalize w6.alloc _ = W at O ⊢
  refine (keep_any a p c W (HT.out.below (ahead hb2.out O.out.below)) (HA.out.below O.out.below) (by omega) ma.out).mono ?_
  rintro e w7 ⟨v4, rfl, t2, hb3⟩
  obtain ⟨v5, w8, r0, r1⟩ := (O.out.next hb3).all t2 27 (by simp; omega)
  rw [List.nil_append] at r1
  have R0 := Lib.hid r0
  replace O := Lib.hid r1
  clear r0 r1 t2 hb3
  go_wp2_with (at_builtin; refine wpList_append_is rfl (.tmp 21) (.tmp 23) 27 rfl _ _ _ _ rfl rfl R0.out ?_)
  clear R0
  refine (keep_any b q d w8 (HT.out.below (ahead hb2.out O.out.below)) (HB.out.below O.out.below) (by omega) mb.out).mono ?_
  rintro e w9 ⟨v6, rfl, t2, hb3⟩
  obtain ⟨v7, w10, r0, r1⟩ := (O.out.next hb3).all t2 27 (by omega)
  have R0 := Lib.hid r0
  replace O := Lib.hid r1
  clear r0 r1 t2 hb3
  go_wp2_with (at_builtin; refine wpList_append_is rfl (.tmp 24) (.tmp 26) 27 rfl _ _ _ _ rfl rfl R0.out ?_)
  clear R0
  refine (fields_any _ _ v3 v7 w10 (T1.out.below O.out.below) (RS.of_own O.out.own) (by omega) (by simp; omega) jw.out).mono ?_
  rintro e w11 ⟨rfl, hb3⟩
  replace hb2 := Lib.hid (ahead (ahead hb2.out O.out.below) hb3)
  clear hb3 O T1
  go_wp2_with fail
  go_ret
  exact ⟨rfl, hb2.out⟩

end Go.Proofs.YtpmgmbekhnjeoaaDoor
