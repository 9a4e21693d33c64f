/- The law FieldGets. -/
import Derived.Test.YtpjmeikeliiepaaDoorFieldRefWithout
import Derived.Test.YtpjmeikeliiepaaDoorFieldPuts
namespace Go.Proofs.YtpjmeikeliiepaaDoor
open Go.ChangeShapes Go.WideShapes Go.ChangeAt Go.RowKit
open Oc Fl
set_option linter.unusedVariables false

theorem small_len {l : List Fld} (h : ¬ 2000 < bulk l) : l.length ≤ 2000 := by have := bulk_len l; omega
theorem small_mem {l : List Fld} (h : ¬ 2000 < bulk l) : ∀ f ∈ l, f.name.size ≤ 1099511627776 := fun f hf => by have := bulk_mem hf; omega

/-- A list of one text, just built, in any world above. -/
theorem tx_one_at (W : World) (s : ByteArray) (t : TypeId) : TX (W.alloc (.cells #[.string s] t)) (.slice (some ⟨W.heap.size, 0, none⟩) [s].length 1) [s] := tx_one W s t

set_option maxHeartbeats 8000000 in
set_option maxRecDepth 20000 in
theorem gets_walk (l : List Fld) (n : ByteArray) (ns : List ByteArray) (p q : Option Addr) (c d : Nat) (w : World) (hsp : Spans w) (hF : FS w (.slice p l.length c) l) (hT : TX w (.slice q ns.length d) ns) (hl : l.length ≤ 140737488355328) (hfs : ∀ f ∈ l, f.name.size ≤ 140737488355328 ∧ f.value.size ≤ 140737488355328) (hln : ns.length ≤ 9223372036854775807) (hnz : n.size ≤ 9223372036854775807) :
    Calls Tryd.prog 5 #[.slice p l.length c, .string n, .slice q ns.length d] w fun e w' => e = .returned (.bool true) ∧ Below w.heap.size w w' := by
  have hW := Lib.hid (wakes5 w hsp)
  have hG : Hid (∀ W, Below w.heap.size w W → _) := Lib.hid fun W hb => great_any l p c W (hF.below hb) hl hfs
  clear hsp hfs
  by_cases h1 : 2000 < bulk l
  · rw [decide_eq_true h1] at hG
    clear h1 hF hT
    go_enter Tryd.func5, Tryd.ntmps5
    go_wp2_with fail
    refine hW.out.mono ?_
    rintro e w1 ⟨rfl, hb1⟩
    replace hb1 := Lib.hid hb1
    go_wp2_with fail
    refine (hG.out _ hb1.out).mono ?_
    rintro e w2 ⟨rfl, hb2⟩
    replace hb2 := Lib.hid (ahead hb1.out hb2)
    go_wp2_with fail
    go_ret
    exact ⟨rfl, hb2.out⟩
  rw [decide_eq_false h1] at hG
  by_cases h2 : (20 : Int) < (ns.length : Int)
  · clear h1 hF hT
    go_enter Tryd.func5, Tryd.ntmps5
    go_wp2_with fail
    refine hW.out.mono ?_
    rintro e w1 ⟨rfl, hb1⟩
    replace hb1 := Lib.hid hb1
    go_wp2_with fail
    refine (hG.out _ hb1.out).mono ?_
    rintro e w2 ⟨rfl, hb2⟩
    replace hb2 := Lib.hid (ahead hb1.out hb2)
    go_wp2_with fail
    go_ret
    exact ⟨rfl, hb2.out⟩
  by_cases h3 : (300 : Int) < (n.size : Int)
  · clear h1 hF hT
    go_enter Tryd.func5, Tryd.ntmps5
    go_wp2_with fail
    refine hW.out.mono ?_
    rintro e w1 ⟨rfl, hb1⟩
    replace hb1 := Lib.hid hb1
    go_wp2_with fail
    refine (hG.out _ hb1.out).mono ?_
    rintro e w2 ⟨rfl, hb2⟩
    replace hb2 := Lib.hid (ahead hb1.out hb2)
    go_wp2_with fail
    go_ret
    exact ⟨rfl, hb2.out⟩
  have hn' : n.size ≤ 1099511627776 := by omega
  have hl' := small_len h1
  have hm' := Lib.hid (small_mem h1)
  have HF := Lib.hid hF
  have HT := Lib.hid hT
  clear h1 hF hT
  go_enter Tryd.func5, Tryd.ntmps5
  go_wp2_with fail
  refine hW.out.mono ?_
  rintro e w1 ⟨rfl, hb1⟩
  replace hb1 := Lib.hid hb1
  go_wp2_with fail
  refine (hG.out _ hb1.out).mono ?_
  rintro e w2 ⟨rfl, hb2⟩
  replace hb2 := Lib.hid (ahead hb1.out hb2)
  clear hb1 hG hW
  replace HF := Lib.hid (HF.out.below hb2.out)
  replace HT := Lib.hid (HT.out.below hb2.out)
  go_wp2_with fail
  go_loop [28] (fun i => ∃ k : Nat, k ≤ ns.length ∧ i = .int .i64 k ∧ ∀ s ∈ ns.take k, s.size ≤ 300) (fun i => ns.length - (intOf i).toNat)
  case atStart => exact ⟨0, Nat.zero_le _, rfl, fun s hs => by simp at hs⟩
  case round =>
    obtain ⟨k, hk, rfl, ha⟩ := hrel
    have HA := Lib.hid ha
    clear ha
    by_cases hlt : k < ns.length
    · obtain ⟨s, hs⟩ : ∃ s, ns[k]? = some s := ⟨_, List.getElem?_eq_getElem hlt⟩
      obtain ⟨-, ad, rfl, d0⟩ := HT.out.at hs
      by_cases hz : (300 : Int) < (s.size : Int)
      · clear hs
        go_wp2_with fail
        go_ret
        exact ⟨rfl, hb2.out⟩
      · have HA' := Lib.hid (show ∀ t ∈ ns.take (k + 1), t.size ≤ 300 by
          rw [List.take_add_one, hs]
          intro t ht
          rcases List.mem_append.1 ht with ht | ht
          · exact HA.out t ht
          · simp at ht; subst ht; omega)
        clear hs
        go_wp2_with fail
        go_round
        case rel => exact ⟨k + 1, by omega, by go_num, HA'.out⟩
        case measure => simp [intOf]; omega
    · obtain rfl : k = ns.length := by omega
      rw [List.take_length] at HA
      have HNS := Lib.hid (show ∀ t ∈ ns, t.size ≤ 1099511627776 from fun t ht => by have := HA.out t ht; omega)
      have hGet := Lib.hid (get_any l n p c w2 HF.out (by omega) hm'.out hn')
      have hlen := get_len l n
      have hboth := Lib.hid (both_all l n)
      clear HA
      go_wp2_with fail
      refine hGet.out.mono ?_
      rintro e w3 ⟨v1, rfl, t1, hb3⟩
      replace hb2 := Lib.hid (ahead hb2.out hb3)
      replace HF := Lib.hid (HF.out.below hb3)
      replace HT := Lib.hid (HT.out.below hb3)
      have T1 := Lib.hid t1
      clear t1 hb3 hGet
      go_wp2_with fail
      go_loopw [41] (fun i wr => ∃ j : Nat, j ≤ l.length ∧ i = .int .i64 j ∧ Below w3.heap.size w3 wr) (fun i _ => l.length - (intOf i).toNat)
      case atStart => exact ⟨0, Nat.zero_le _, rfl, Below.refl _ _⟩
      case round =>
        obtain ⟨j, hj, rfl, hB⟩ := hrel
        have HB := Lib.hid hB
        clear hB
        by_cases hjl : j < l.length
        · obtain ⟨f, hf⟩ : ∃ f, l[j]? = some f := ⟨_, List.getElem?_eq_getElem hjl⟩
          obtain ⟨-, ad, rfl, c0, c1⟩ := (HF.out.below HB.out).at hf
          have hfz := hm'.out f (List.mem_of_getElem? hf)
          have HI : Hid (∀ W, _) := Lib.hid fun W => is_any f n W hfz hn'
          have HR : Hid (∀ W, _) := Lib.hid fun W => ris_any f n W hfz hn'
          clear hf
          generalize has n f = b at *
          obtain ⟨x, y⟩ := f
          simp only at c0 c1 hfz
          have K6 : Hid (Reads wr (wr.alloc (.cells #[.string x, .string y] 24)).drew (.string x) (.string y)) := Lib.hid (TwoAt.reads (TwoAt.drew wr _ _ 1))
          have hbb : (b != b) = false := by cases b <;> rfl
          go_wp2_with fail
          generalize wr.alloc _ = W at K6 ⊢
          go_region_held3 (fun w' => w'.cell? ⟨wr.heap.size, 0, none⟩ = some (.string x) ∧ w'.cell? ⟨wr.heap.size, 1, none⟩ = some (.string y))
            (first | exact K6.out.two | exact K7.out.two | exact K8.out.two)
            (first
            | (go_at_call 17; first | (refine (HI.out _).mono ?_; rintro e w7 ⟨rfl, hb7⟩; have K7 := Lib.hid (K8.out.next hb7); clear hb7) | (refine (HI.out _).mono ?_; rintro e w7 ⟨rfl, hb7⟩; have K7 := Lib.hid (K6.out.next hb7); clear hb7))
            | (go_at_call 18; first | (refine (HR.out _).mono ?_; rintro e w8 ⟨rfl, hb8⟩; have K8 := Lib.hid (K7.out.next hb8); clear hb8) | (refine (HR.out _).mono ?_; rintro e w8 ⟨rfl, hb8⟩; have K8 := Lib.hid (K6.out.next hb8); clear hb8)))
          go_wp2_with fail
          go_roundw
          case rel => exact ⟨j + 1, by omega, by go_num, ahead HB.out K8.out.b⟩
          case measure => simp [intOf]; omega
        · obtain rfl : j = l.length := by omega
          replace hb2 := Lib.hid (ahead hb2.out HB.out)
          replace HF := Lib.hid (HF.out.below HB.out)
          replace HT := Lib.hid (HT.out.below HB.out)
          replace T1 := Lib.hid (T1.out.below HB.out)
          clear HB
          go_wp2_with fail
          refine (rget_any l n p c wr HF.out (by omega) hm'.out hn').mono ?_
          rintro e w4 ⟨v2, rfl, t2, hb3⟩
          replace hb2 := Lib.hid (ahead hb2.out hb3)
          replace HF := Lib.hid (HF.out.below hb3)
          replace HT := Lib.hid (HT.out.below hb3)
          replace T1 := Lib.hid (T1.out.below hb3)
          have T2 := Lib.hid t2
          clear t2 hb3
          go_wp2_with fail
          refine (texts_any _ _ v1 v2 w4 T1.out T2.out (by omega) (by omega) rfl).mono ?_
          rintro e w5 ⟨rfl, hb3⟩
          replace hb2 := Lib.hid (ahead hb2.out hb3)
          replace HF := Lib.hid (HF.out.below hb3)
          replace HT := Lib.hid (HT.out.below hb3)
          replace T1 := Lib.hid (T1.out.below hb3)
          clear hb3 T2
          go_wp2_with fail
          refine (without_any l ns p q c d w5 HF.out HT.out (by omega) (by omega) hm'.out HNS.out).mono ?_
          rintro e w6 ⟨v3, rfl, t3, hb3⟩
          replace hb2 := Lib.hid (ahead hb2.out hb3)
          replace HF := Lib.hid (HF.out.below hb3)
          replace HT := Lib.hid (HT.out.below hb3)
          replace T1 := Lib.hid (T1.out.below hb3)
          have T3 := Lib.hid t3
          clear t3 hb3
          go_wp2_with fail
          refine (rwithout_any l ns p q c d w6 HF.out HT.out (by omega) (by omega) hm'.out HNS.out).mono ?_
          rintro e w7 ⟨v4, rfl, t4, hb3⟩
          replace hb2 := Lib.hid (ahead hb2.out hb3)
          replace HF := Lib.hid (HF.out.below hb3)
          replace T1 := Lib.hid (T1.out.below hb3)
          replace T3 := Lib.hid (T3.out.below hb3)
          have T4 := Lib.hid t4
          have hwl := without_len l ns
          clear t4 hb3 HT
          go_wp2_with fail
          refine (fields_any _ _ v3 v4 w7 T3.out T4.out (by omega) (by omega) rfl).mono ?_
          rintro e w8 ⟨rfl, hb3⟩
          replace hb2 := Lib.hid (ahead hb2.out hb3)
          replace HF := Lib.hid (HF.out.below hb3)
          replace T1 := Lib.hid (T1.out.below hb3)
          clear hb3 T3 T4 hwl
          obtain ⟨p1, c1, rfl, -, -⟩ := RS.slice T1.out
          have hbx := below_box w8 (.cells #[.string n] 9)
          have hWn := Lib.hid (without_any l [n] p (some ⟨w8.heap.size, 0, none⟩) c 1 (w8.alloc (.cells #[.string n] 9)) (HF.out.below hbx) (tx_one_at w8 n 9) (by omega) (by simp) hm'.out (fun s hs => by simp at hs; subst hs; exact hn'))
          replace hb2 := Lib.hid (ahead hb2.out hbx)
          clear hbx
          go_wp2_with fail
          refine hWn.out.mono ?_
          rintro e w9 ⟨v5, rfl, t5, hb3⟩
          replace hb2 := Lib.hid (ahead hb2.out hb3)
          clear hb3 hWn
          obtain ⟨p5, c5, rfl, -, -⟩ := RS.slice t5
          clear t5
          have hsum := hboth.out
          have hwl := without_len l [n]
          generalize (without l [n]).length = M1 at *
          generalize (Fl.get l n).length = M2 at *
          have hsum' : ((M1 : Int) + (M2 : Int) == (l.length : Int)) = true := by rw [beq_iff_eq]; omega
          clear hsum
          go_wp2_with fail
          go_ret
          exact ⟨rfl, hb2.out⟩

end Go.Proofs.YtpjmeikeliiepaaDoor
