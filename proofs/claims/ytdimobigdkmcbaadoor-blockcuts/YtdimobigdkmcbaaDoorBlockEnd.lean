/- What the document's End and Wrong answer. -/
import Derived.Test.YtdimobigdkmcbaaDoorBlockMath
import Derived.Test.YtdimobigdkmcbaaDoorFieldGo
namespace Go.Proofs.YtdimobigdkmcbaaDoor
open Go.ChangeShapes Go.WideShapes Go.ChangeAt Go.RowKit
open Oc Fl Bk
set_option linter.unusedVariables false

/-- Behind the end of the first line; -1: there is none. -/
def endI (l : List UInt8) : Int := match eol l with | some k => (k : Int) + 2 | none => -1
theorem ret_int {a b : Int} (h : a = b) : Ending.returned (.int .i64 a) = .returned (.int .i64 b) := by rw [h]
theorem is13 {b : UInt8} (h : b = 13) : ((b.toNat : Int) == 13) = true := by subst h; decide
theorem no13 {b : UInt8} (h : b ≠ 13) : ((b.toNat : Int) == 13) = false := by
  rw [beq_eq_false_iff_ne]
  intro e
  exact h (UInt8.toNat_inj.1 (show b.toNat = 13 by omega))
theorem is10 {b : UInt8} (h : b = 10) : ((b.toNat : Int) == 10) = true := by subst h; decide
theorem no10 {b : UInt8} (h : b ≠ 10) : ((b.toNat : Int) == 10) = false := by
  rw [beq_eq_false_iff_ne]
  intro e
  exact h (UInt8.toNat_inj.1 (show b.toNat = 10 by omega))
theorem is58 {b : UInt8} (h : b = 58) : ((b.toNat : Int) == 58) = true := by subst h; decide
theorem no58 {b : UInt8} (h : b ≠ 58) : ((b.toNat : Int) == 58) = false := by
  rw [beq_eq_false_iff_ne]
  intro e
  exact h (UInt8.toNat_inj.1 (show b.toNat = 58 by omega))
theorem isn13 {b : UInt8} (h : b = 13) : ((b.toNat : Int) != 13) = false := by unfold bne; rw [is13 h]; rfl
theorem non13 {b : UInt8} (h : b ≠ 13) : ((b.toNat : Int) != 13) = true := by unfold bne; rw [no13 h]; rfl
theorem isn10 {b : UInt8} (h : b = 10) : ((b.toNat : Int) != 10) = false := by unfold bne; rw [is10 h]; rfl
theorem non10 {b : UInt8} (h : b ≠ 10) : ((b.toNat : Int) != 10) = true := by unfold bne; rw [no10 h]; rfl
theorem isn58 {b : UInt8} (h : b = 58) : ((b.toNat : Int) != 58) = false := by unfold bne; rw [is58 h]; rfl
theorem non58 {b : UInt8} (h : b ≠ 58) : ((b.toNat : Int) != 58) = true := by unfold bne; rw [no58 h]; rfl
theorem at_list (s : ByteArray) (k : Nat) (h : k < s.size) : s.data.toList[k]? = some s[k] := by
  rw [List.getElem?_eq_getElem (by rw [blen']; exact h)]; rfl

set_option maxHeartbeats 2000000 in
theorem end_any (s : ByteArray) (w : World) (hs : s.size ≤ 1099511627776) :
    Calls Tryd.prog 24 #[.string s] w fun e w' => e = .returned (.int .i64 (endI s.data.toList)) ∧ w = w' := by
  go_enter Tryd.func24, Tryd.ntmps24
  go_wp2_with fail
  go_loop [3] (fun i => ∃ k : Nat, k ≤ s.size ∧ i = .int .i64 k ∧ Hid (eol s.data.toList = (eol (s.data.toList.drop k)).map (· + k))) (fun i => s.size - (intOf i).toNat)
  case atStart => exact ⟨0, Nat.zero_le _, rfl, Lib.hid (by simp)⟩
  case round =>
    obtain ⟨k, hk, rfl, HE⟩ := hrel
    by_cases hlt : k + 1 < s.size
    · have hl : k < s.size := by omega
      have c1 : (k : Int) + 1 < (s.size : Int) := by omega
      by_cases h13 : s[k] = 13
      · have t13 := is13 h13
        by_cases h10 : s[k + 1] = 10
        · have t10 := is10 h10
          have HH := Lib.hid (eol_drop_hit s.data.toList k (by rw [at_list s k hl, h13]) (by rw [at_list s (k + 1) hlt, h10]))
          clear h13 h10
          go_wp2_with fail
          go_ret
          refine ⟨ret_int ?_, rfl⟩
          unfold endI
          rw [HE.out, HH.out]
          simp
        · have t10 := no10 h10
          have HH := Lib.hid (eol_drop s.data.toList k s[k] (at_list s k hl) (by rw [at_list s (k + 1) hlt]; rintro ⟨_, e⟩; exact h10 (Option.some.inj e)))
          clear h13 h10
          go_wp2_with fail
          go_round
          case rel => exact ⟨k + 1, by omega, by go_num, Lib.hid (by rw [HE.out, HH.out, Option.map_map]; congr 1; funext x; simp; omega)⟩
          case measure => simp [intOf]; omega
      · have t13 := no13 h13
        have HH := Lib.hid (eol_drop s.data.toList k s[k] (at_list s k hl) (by rintro ⟨e, _⟩; exact h13 e))
        clear h13
        go_wp2_with fail
        go_round
        case rel => exact ⟨k + 1, by omega, by go_num, Lib.hid (by rw [HE.out, HH.out, Option.map_map]; congr 1; funext x; simp; omega)⟩
        case measure => simp [intOf]; omega
    · have HH := Lib.hid (eol_short (l := s.data.toList.drop k) (by rw [List.length_drop, blen']; omega))
      have c1 : ¬ (k : Int) + 1 < (s.size : Int) := by omega
      go_wp2_with fail
      go_ret
      refine ⟨ret_int ?_, rfl⟩
      unfold endI
      rw [HE.out, HH.out]
      rfl

theorem drop_at (s : ByteArray) (k : Nat) (h : k < s.size) : s.data.toList.drop k = s[k] :: s.data.toList.drop (k + 1) := by
  rw [List.drop_eq_getElem_cons (by rw [blen']; exact h)]; rfl
theorem drop_all (s : ByteArray) (k : Nat) (h : ¬ k < s.size) : s.data.toList.drop k = [] := List.drop_of_length_le (by rw [blen']; omega)
theorem wA_tok {k : Nat} {b : UInt8} {l : List UInt8} (h : tkb b = true) : wA k (b :: l) = wA (k + 1) l := by
  conv => lhs; unfold wA
  rw [if_pos h]
theorem wA_no {k : Nat} {b : UInt8} {l : List UInt8} (h : tkb b = false) (h2 : b ≠ 58 ∨ k = 0) : wA k (b :: l) = (k : Int) := by
  conv => lhs; unfold wA
  rw [if_neg (by rw [h]; decide), if_pos h2]
theorem wA_colon {k : Nat} {b : UInt8} {l : List UInt8} (h : tkb b = false) (h2 : b = 58) (h3 : k ≠ 0) : wA k (b :: l) = wB (k + 1) l := by
  conv => lhs; unfold wA
  rw [if_neg (by rw [h]; decide), if_neg (by rintro (e | e); exact e h2; exact h3 e)]
theorem wB_txt {k : Nat} {b : UInt8} {l : List UInt8} (h : txb b = true) : wB k (b :: l) = wB (k + 1) l := by
  conv => lhs; unfold wB
  rw [if_pos h]
theorem wB_no {k : Nat} {b : UInt8} {l : List UInt8} (h : txb b = false) (h2 : b ≠ 13) : wB k (b :: l) = (k : Int) := by
  conv => lhs; unfold wB
  rw [if_neg (by rw [h]; decide), if_pos h2]
theorem wB_end {k : Nat} {b : UInt8} (h : txb b = false) (h2 : b = 13) : wB k [b] = -1 := by subst h2; simp [wB, h]
theorem wB_hit {k : Nat} {b d : UInt8} {l : List UInt8} (h : txb b = false) (h2 : b = 13) (h3 : d = 10) : wB k (b :: d :: l) = -1 := by subst h2; subst h3; simp [wB, h]
theorem wB_miss {k : Nat} {b d : UInt8} {l : List UInt8} (h : txb b = false) (h2 : b = 13) (h3 : d ≠ 10) : wB k (b :: d :: l) = (k : Int) + 1 := by subst h2; simp [wB, h, h3]
theorem wB_nil (k : Nat) : wB k [] = -1 := by unfold wB; rfl
theorem wA_nil (k : Nat) : wA k [] = -1 := by unfold wA; rfl
theorem one_cut (s : ByteArray) (k : Nat) (h : k < s.size) : (s.extract k (k + 1)).data.toList = [s[k]] := by
  have hl : k < s.data.toList.length := by rw [blen']; exact h
  simp only [ByteArray.data_extract, Array.toList_extract, List.extract_eq_take_drop]
  rw [show k + 1 - k = 1 by omega, List.drop_eq_getElem_cons hl]
  rfl
theorem rtok_cut (s : ByteArray) (k : Nat) (h : k < s.size) (w : World) : Calls Tryd.prog 31 #[.string (s.extract k (k + 1))] w fun e w' => e = .returned (.bool (tkb s[k])) ∧ w = w' := by
  have hl := one_cut s k h
  have := rtoken_any (s.extract k (k + 1)) w (by rw [← blen', hl]; simp)
  rw [hl] at this
  simpa [token, every, tkb] using this

set_option maxHeartbeats 4000000 in
theorem wrong_any (s : ByteArray) (w : World) (hs : s.size ≤ 1099511627776) :
    Calls Tryd.prog 23 #[.string s] w fun e w' => e = .returned (.int .i64 (wA 0 s.data.toList)) ∧ w = w' := by
  go_enter Tryd.func23, Tryd.ntmps23
  go_wp2_with fail
  go_loop [3] (fun i => ∃ k : Nat, k ≤ s.size ∧ i = .int .i64 k ∧ Hid (wA 0 s.data.toList = wA k (s.data.toList.drop k))) (fun i => s.size - (intOf i).toNat)
  case atStart => exact ⟨0, Nat.zero_le _, rfl, Lib.hid (by simp)⟩
  case round =>
    obtain ⟨k, hk, rfl, HA⟩ := hrel
    by_cases hlt : k < s.size
    · have HT := Lib.hid (rtok_cut s k hlt w)
      have hd := drop_at s k hlt
      rw [hd] at HA
      clear hd
      have k1 : (0 : Int) ≤ (k : Int) := by omega
      have k2 : (k : Int) ≤ (k : Int) + 1 := by omega
      have k3 : (k : Int) + 1 ≤ (s.size : Int) := by omega
      cases ht : tkb s[k]
      · rw [ht] at HT
        have ne : ((k : Int) == (s.size : Int)) = false := beq_eq_false_iff_ne.2 (by omega)
        by_cases h58 : s[k] = 58
        · have t58 := is58 h58; have n58 := isn58 h58
          by_cases h0 : k = 0
          · rw [wA_no ht (.inr h0)] at HA
            have t0 : ((k : Int) == 0) = true := beq_iff_eq.2 (by omega)
            clear ht h58 h0
            go_wp2_with (go_at_call 31; refine HT.out.mono ?_; rintro e w' ⟨rfl, rfl⟩)
            go_ret
            exact ⟨ret_int (by rw [HA.out]), rfl⟩
          · rw [wA_colon ht h58 h0] at HA
            have t0 : ((k : Int) == 0) = false := beq_eq_false_iff_ne.2 (by omega)
            clear ht h58
            go_wp2_with (go_at_call 31; refine HT.out.mono ?_; rintro e w' ⟨rfl, rfl⟩)
            clear HT ne t58 t0 n58
            go_loop [3] (fun i => ∃ j : Nat, j ≤ s.size ∧ i = .int .i64 j ∧ Hid (wA 0 s.data.toList = wB j (s.data.toList.drop j))) (fun i => s.size - (intOf i).toNat)
            case atStart => exact ⟨k + 1, by omega, by go_num, HA⟩
            case round =>
              clear HA
              obtain ⟨j, hj, rfl, HA⟩ := hrel
              by_cases hltj : j < s.size
              · have hd := drop_at s j hltj
                rw [hd] at HA
                clear hd
                have HX := Lib.hid (rbyte_any (s[j].toNat : Int) (byte_lo _) (byte_hi _) w)
                have ne : ((j : Int) == (s.size : Int)) = false := beq_eq_false_iff_ne.2 (by omega)
                cases ht : txb s[j]
                · rw [show txtB (s[j].toNat : Int) = false from ht] at HX
                  by_cases h13 : s[j] = 13
                  · have t13 := is13 h13; have n13 := isn13 h13
                    by_cases hl2 : j + 1 < s.size
                    · have hd := drop_at s (j + 1) hl2
                      rw [hd] at HA
                      clear hd
                      have c1 : (j : Int) + 1 < (s.size : Int) := by omega
                      by_cases h10 : s[j + 1] = 10
                      · have t10 := is10 h10; have n10 := isn10 h10
                        rw [wB_hit ht h13 h10] at HA
                        clear ht h13 h10
                        go_wp2_with (go_at_call 37; refine HX.out.mono ?_; rintro e w' ⟨rfl, rfl⟩)
                        go_ret
                        exact ⟨ret_int (by rw [HA.out]), rfl⟩
                      · have t10 := no10 h10; have n10 := non10 h10
                        rw [wB_miss ht h13 h10] at HA
                        clear ht h13 h10
                        go_wp2_with (go_at_call 37; refine HX.out.mono ?_; rintro e w' ⟨rfl, rfl⟩)
                        go_ret
                        exact ⟨ret_int (by rw [HA.out]), rfl⟩
                    · rw [drop_all s (j + 1) hl2, wB_end ht h13] at HA
                      have c1 : ¬ (j : Int) + 1 < (s.size : Int) := by omega
                      clear ht h13
                      go_wp2_with (go_at_call 37; refine HX.out.mono ?_; rintro e w' ⟨rfl, rfl⟩)
                      go_ret
                      exact ⟨ret_int (by rw [HA.out]), rfl⟩
                  · have t13 := no13 h13; have n13 := non13 h13
                    rw [wB_no ht h13] at HA
                    clear ht h13
                    go_wp2_with (go_at_call 37; refine HX.out.mono ?_; rintro e w' ⟨rfl, rfl⟩)
                    go_ret
                    exact ⟨ret_int (by rw [HA.out]), rfl⟩
                · rw [show txtB (s[j].toNat : Int) = true from ht] at HX
                  rw [wB_txt ht] at HA
                  clear ht
                  go_wp2_with (go_at_call 37; refine HX.out.mono ?_; rintro e w' ⟨rfl, rfl⟩)
                  go_round
                  case rel => exact ⟨j + 1, by omega, by go_num, HA⟩
                  case measure => simp [intOf]; omega
              · obtain rfl : j = s.size := by omega
                rw [drop_all s s.size hltj, wB_nil] at HA
                go_wp2_with fail
                go_ret
                exact ⟨ret_int (by rw [HA.out]), rfl⟩
        · have t58 := no58 h58; have n58 := non58 h58
          rw [wA_no ht (.inl h58)] at HA
          clear ht h58
          go_wp2_with (go_at_call 31; refine HT.out.mono ?_; rintro e w' ⟨rfl, rfl⟩)
          go_ret
          exact ⟨ret_int (by rw [HA.out]), rfl⟩
      · rw [ht] at HT
        rw [wA_tok ht] at HA
        clear ht
        go_wp2_with (go_at_call 31; refine HT.out.mono ?_; rintro e w' ⟨rfl, rfl⟩)
        go_round
        case rel => exact ⟨k + 1, by omega, by go_num, HA⟩
        case measure => simp [intOf]; omega
    · obtain rfl : k = s.size := by omega
      rw [drop_all s s.size hlt, wA_nil] at HA
      go_wp2_with fail
      go_ret
      exact ⟨ret_int (by rw [HA.out]), rfl⟩

end Go.Proofs.YtdimobigdkmcbaaDoor
