/- The law ListJoins. -/
import Derived.Test.YtjdbgdlkbdpojaaDoorListLaws
namespace Go.Proofs.YtjdbgdlkbdpojaaDoor
open Go.ChangeShapes Go.WideShapes Go.ChangeAt Go.RowKit
open Oc Fl Ls
set_option linter.unusedVariables false

/-- Two values as one. -/
def jn (a b : ByteArray) : ByteArray := a ++ ⟨#[44]⟩ ++ b
theorem jn_list (a b : ByteArray) : (jn a b).data.toList = a.data.toList ++ 44 :: b.data.toList := by simp [jn]
theorem jn_size (a b : ByteArray) : (jn a b).size = a.size + b.size + 1 := by rw [← blen', jn_list, List.length_append, List.length_cons, blen', blen']; omega
theorem jn_items (a b : ByteArray) : items [jn a b] = items [a, b] := by
  simp only [items, List.flatMap_cons, List.flatMap_nil, List.append_nil]
  unfold itmB
  rw [jn_list, itm_app, List.map_append]
theorem jn_itm (a b : ByteArray) : itmB (jn a b) = itmB a ++ itmB b := by
  unfold itmB
  rw [jn_list, itm_app, List.map_append]
theorem jn_codings (a b : ByteArray) : codings [jn a b] = codings [a, b] := by
  unfold codings
  rw [jn_items]
  simp
theorem jn_length {a b : ByteArray} (ha : itmB a ≠ []) (hb : itmB b ≠ []) : Ls.length [jn a b] = Ls.length [a, b] := by
  unfold Ls.length
  rw [if_neg (by simp), if_neg (by simp), goV_cons, goV_cons, jn_itm, if_neg (by simp [ha]), if_neg ha, goI_app]
  congr 1
  cases goI ⟨18446744073709551615, 0, 0⟩ (itmB a) with
  | none => rfl
  | some t =>
    show (goI t (itmB b)).bind _ = goV t [b]
    rw [goV_cons, if_neg hb]

set_option maxRecDepth 100000 in
set_option maxHeartbeats 8000000 in
theorem joins7_walk (a b : ByteArray) (w : World) (hsp : Spans w) :
    Calls Tryd.prog 6 #[.string a, .string b] w fun e w' => e = .returned (.bool true) ∧ Below w.heap.size w w' := by
  have hW := Lib.hid (wakes7 w hsp)
  by_cases ha : (400 : Int) < (a.size : Int)
  · clear hsp
    go_enter Tryd.func6, Tryd.ntmps6
    go_wp2_with (go_at_call 8; refine hW.out.mono ?_; rintro e w' ⟨rfl, hb⟩)
    go_ret
    exact ⟨rfl, hb⟩
  by_cases hb : (400 : Int) < (b.size : Int)
  · clear hsp
    go_enter Tryd.func6, Tryd.ntmps6
    go_wp2_with (go_at_call 8; refine hW.out.mono ?_; rintro e w' ⟨rfl, hb⟩)
    go_ret
    exact ⟨rfl, hb⟩
  have hjz := jn_size a b
  have hb2 : Ls.bulk [a, b] ≤ 100000 := by simp [Ls.bulk]; omega
  have hbj : Ls.bulk [jn a b] ≤ 100000 := by simp [Ls.bulk]; omega
  have hba : Ls.bulk [a] ≤ 100000 := by simp [Ls.bulk]; omega
  have hbb : Ls.bulk [b] ≤ 100000 := by simp [Ls.bulk]; omega
  have hcl := cods_len [a, b]
  have hil := items_len [a, b]
  obtain ⟨l, y, hly⟩ : ∃ l y, codings [a, b] = (l, y) := ⟨_, _, rfl⟩
  rw [hly] at hcl
  dsimp only at hcl
  have HC2 : Hid (∀ W, Below w.heap.size w W → _) := Lib.hid fun W hb => cod_two a b W hb2 (hsp.below hb) hly
  have HC1 : Hid (∀ W, Below w.heap.size w W → _) := Lib.hid fun W hb => cod_one (jn a b) W hbj (hsp.below hb) ((jn_codings a b).trans hly)
  have HI2 : Hid (∀ W, _) := Lib.hid fun W => itm_two a b W hb2
  have HI1 : Hid (∀ W, _) := Lib.hid fun W => itm_one (jn a b) W hbj
  rw [jn_items] at HI1
  have HXI : Hid (∀ u v W, TX W u (items [a, b]) → TX W v (items [a, b]) → _) := Lib.hid fun u v W hu hv => texts_any (items [a, b]) (items [a, b]) u v W hu hv (by omega) (by omega) rfl
  have HXC : Hid (∀ u v W, TX W u l → TX W v l → _) := Lib.hid fun u v W hu hv => texts_any l l u v W hu hv (by omega) (by omega) rfl
  have HRA : Hid (∀ W, _) := Lib.hid fun W => ritm_one a W hba
  have HRB : Hid (∀ W, _) := Lib.hid fun W => ritm_one b W hbb
  obtain ⟨n, g, hng⟩ : ∃ n g, Ls.length [a, b] = (n, g) := ⟨_, _, rfl⟩
  have HL2 : Hid (∀ W, _) := Lib.hid fun W => len_two a b W hb2 hng
  have HL1 : Hid ((itmB a).length ≠ 0 → (itmB b).length ≠ 0 → ∀ W, _) := Lib.hid fun h1 h2 W => len_one (jn a b) W hbj ((jn_length (fun e => h1 (by rw [e]; rfl)) (fun e => h2 (by rw [e]; rfl))).trans hng)
  have hla := itmB_len a
  have hlb := itmB_len b
  have hj1 : ∀ W, (Op.stringOp .add a ⟨#[44]⟩).run Tryd.prog W = .ok (.string (a ++ ⟨#[44]⟩)) W := fun W => run_string_add_sum (P := Tryd.prog) (w := W) _ _ (by show a.size + 1 ≤ _; omega)
  have hj2 : ∀ W, (Op.stringOp .add (a ++ ⟨#[44]⟩) b).run Tryd.prog W = .ok (.string (jn a b)) W := fun W => run_string_add_sum (P := Tryd.prog) (w := W) _ _ (by rw [ByteArray.size_append]; show a.size + 1 + b.size ≤ _; omega)
  generalize jn a b = j at *
  generalize (a ++ ⟨#[44]⟩ : ByteArray) = a1 at *
  generalize items [a, b] = its2 at *
  generalize (itmB a).length = na at *
  generalize (itmB b).length = nb at *
  clear hsp hjz hb2 hbj hba hbb hcl hil hly hng
  go_enter Tryd.func6, Tryd.ntmps6
  go_wp2_with fail
  refine hW.out.mono ?_
  rintro e w1 ⟨rfl, hb1⟩
  have B1 := Lib.hid hb1
  clear hb1 hW
  go_wp2_with fail
  refine (HC2.out _ B1.out).mono ?_
  rintro e w2 ⟨v, rfl, hT, hb2⟩
  have B2 := Lib.hid (ahead B1.out hb2)
  have TV := Lib.hid hT
  clear hb2 hT B1
  go_wp2_with fail
  refine (HC1.out _ B2.out).mono ?_
  rintro e w3 ⟨u, rfl, hT, hb3⟩
  have B3 := Lib.hid (ahead B2.out hb3)
  replace TV := Lib.hid (TV.out.below hb3)
  have TU := Lib.hid hT
  clear hb3 hT B2
  go_wp2_with fail
  refine (HI2.out _).mono ?_
  rintro e w4 ⟨x, rfl, hT, hb4⟩
  have B4 := Lib.hid (ahead B3.out hb4)
  replace TV := Lib.hid (TV.out.below hb4)
  replace TU := Lib.hid (TU.out.below hb4)
  have TX4 := Lib.hid hT
  clear hb4 hT B3
  go_wp2_with fail
  refine (HI1.out _).mono ?_
  rintro e w5 ⟨z, rfl, hT, hb5⟩
  have B5 := Lib.hid (ahead B4.out hb5)
  replace TV := Lib.hid (TV.out.below hb5)
  replace TU := Lib.hid (TU.out.below hb5)
  replace TX4 := Lib.hid (TX4.out.below hb5)
  have TZ := Lib.hid hT
  clear hb5 hT B4
  go_wp2_with fail
  refine (HXI.out _ _ _ TX4.out TZ.out).mono ?_
  rintro e w6 ⟨rfl, hb6⟩
  have B6 := Lib.hid (ahead B5.out hb6)
  replace TV := Lib.hid (TV.out.below hb6)
  replace TU := Lib.hid (TU.out.below hb6)
  clear hb6 TX4 TZ B5
  go_wp2_with fail
  refine (HXC.out _ _ _ TV.out TU.out).mono ?_
  rintro e w7 ⟨rfl, hb7⟩
  have B7 := Lib.hid (ahead B6.out hb7)
  clear hb7 TV TU B6
  go_wp2_with fail
  refine (HRA.out _).mono ?_
  rintro e w8 ⟨p8, c8, rfl, hb8⟩
  have B8 := Lib.hid (ahead B7.out hb8)
  clear hb8 B7 HRA
  by_cases hna : na = 0
  · subst hna
    go_wp2_with fail
    go_ret
    exact ⟨rfl, B8.out⟩
  · have hna2 : ((na : Int) == 0) = false := beq_eq_false_iff_ne.2 (by omega)
    replace HL1 := Lib.hid (HL1.out hna)
    clear hna
    go_wp2_with fail
    refine (HRB.out _).mono ?_
    rintro e w9 ⟨p9, c9, rfl, hb9⟩
    have B9 := Lib.hid (ahead B8.out hb9)
    clear hb9 B8 HRB
    by_cases hnb : nb = 0
    · subst hnb
      go_wp2_with fail
      go_ret
      exact ⟨rfl, B9.out⟩
    · have hnb2 : ((nb : Int) == 0) = false := beq_eq_false_iff_ne.2 (by omega)
      replace HL1 := Lib.hid (HL1.out hnb)
      clear hnb
      go_wp2_with fail
      refine (HL2.out _).mono ?_
      rintro e w10 ⟨rfl, hb10⟩
      have B10 := Lib.hid (ahead B9.out hb10)
      clear hb10 B9
      go_wp2_with fail
      refine (HL1.out _).mono ?_
      rintro e w11 ⟨rfl, hb11⟩
      have B11 := Lib.hid (ahead B10.out hb11)
      clear hb11 B10
      go_wp2_with fail
      go_ret
      exact ⟨rfl, B11.out⟩

end Go.Proofs.YtjdbgdlkbdpojaaDoor
