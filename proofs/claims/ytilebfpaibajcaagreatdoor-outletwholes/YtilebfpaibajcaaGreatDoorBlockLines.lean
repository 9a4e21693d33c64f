/- The iterator over a text's lines. -/
import Derived.Test.YtilebfpaibajcaaGreatDoorBlockEnd
import Derived.Test.YtilebfpaibajcaaGreatDoorMC
import Derived.Deep.RegionLaw
import Derived.Shelf.RegionOpen
import Derived.Shelf.Abstract
import Derived.TacticsInMore
import Derived.LoopNIn
import Derived.LoopIn
import Derived.OwnWalkIn
import Derived.Sort.QuietIn
import Derived.Shelf.AbstractIn
namespace Go.Proofs.YtilebfpaibajcaaGreatDoor
open Go.ChangeShapes Go.WideShapes Go.ChangeAt Go.RowKit
open Go.Shelf
open Oc Fl Bk
set_option linter.unusedVariables false
set_option maxRecDepth 100000
attribute [local go_sem] Oper.semAt_some

/-- The library's own bound lies where it lies. -/
def Bound (w : World) : Prop := ∃ m, w.cell? ⟨2, 0, none⟩ = some (.int .i64 m)
theorem Bound.below {w w' : World} (h : Bound w) (hb : Below w.heap.size w w') : Bound w' := by
  obtain ⟨m, hm⟩ := h
  exact ⟨m, cell_below hm hb⟩

theorem cut_hit (s : ByteArray) (k : Nat) (w : World) (hs : s.size < 4294967281) (hm : Bound w) (he : eol s.data.toList = some k) :
    Calls Tryz.prog 90 #[.string s, .string ⟨#[13, 10]⟩] w fun e w' => e = .returned (.tuple #[.string (arr (s.data.toList.take k)), .string (arr (s.data.toList.drop (k + 2))), .bool true]) ∧ ∃ n, w' = w.drewN n := by
  obtain ⟨m, hm⟩ := hm
  have := Tryz.strings_Cut_at s ⟨#[13, 10]⟩ m w hs hm
  rw [show (⟨#[13, 10]⟩ : ByteArray).data.toList = [13, 10] from rfl, cut_eol, he] at this
  exact this
theorem cut_miss (s : ByteArray) (w : World) (hs : s.size < 4294967281) (hm : Bound w) (he : eol s.data.toList = none) :
    Calls Tryz.prog 90 #[.string s, .string ⟨#[13, 10]⟩] w fun e w' => e = .returned (.tuple #[.string s, .string ⟨#[]⟩, .bool false]) ∧ ∃ n, w' = w.drewN n := by
  obtain ⟨m, hm⟩ := hm
  have := Tryz.strings_Cut_at s ⟨#[13, 10]⟩ m w hs hm
  rw [show (⟨#[13, 10]⟩ : ByteArray).data.toList = [13, 10] from rfl, cut_eol, he] at this
  have e : (⟨s.data.toList.toArray⟩ : ByteArray) = s := arr_of s
  simp only [e] at this
  exact this

theorem lines_any (s : ByteArray) (w : World) :
    Calls Tryz.prog 84 #[.string s] w fun e w' => e = .returned (.func (.func 89) #[] #[.pointer (some ⟨w.heap.size, 0, none⟩)]) ∧ w' = w.alloc (.cells #[.string s] 9) := by
  go_enter Tryz.func84, Tryz.ntmps84
  go_wp2_with fail
  go_ret
  exact ⟨rfl, rfl⟩

/-- What it hands over. -/
def pr (p : Nat × List UInt8) : Array Value := #[.int .i64 (p.1 : Int), .string (arr p.2)]
def prs (t : List UInt8) : List (Array Value) := (lns 0 t).map pr
theorem prs_len (t : List UInt8) : (prs t).length = (lns 0 t).length := by simp [prs]
theorem tail_list (s : ByteArray) (k : Nat) : (s.extract k s.size).data.toList = s.data.toList.drop k := by
  simp only [ByteArray.data_extract, Array.toList_extract, List.extract_eq_take_drop]
  rw [List.take_of_length_le]
  simp
theorem tail_size (s : ByteArray) (k : Nat) : (s.extract k s.size).size ≤ s.size := by rw [← blen', tail_list, List.length_drop, blen']; omega
theorem drop_get {α : Type} {l m : List α} {n : Nat} {x : α} (h : l.drop n = x :: m) : l[n]? = some x ∧ l.drop (n + 1) = m ∧ n < l.length := by
  have h1 : (l.drop n)[0]? = some x := by rw [h]; rfl
  rw [List.getElem?_drop] at h1
  have h2 : n < l.length := (List.getElem?_eq_some_iff.1 h1).1
  refine ⟨h1, ?_, h2⟩
  rw [← List.drop_drop, h]; rfl
theorem arr_ne {l : List UInt8} (h : l ≠ []) : ((arr l).toList == []) = false := by
  rw [ByteArray.toList_eq, arr_list]; simpa using h
theorem drewN_below (w : World) (n : Nat) : Below w.heap.size w (w.drewN n) := ⟨rfl, rfl, rfl, Nat.le_refl _, fun _ _ => rfl⟩

set_option maxHeartbeats 4000000 in
theorem lines_seq (Bx : Nat) (s : ByteArray) (hs : s.size ≤ 100000) :
    Seq Tryz.prog 89 #[.pointer (some ⟨Bx, 0, none⟩)] (prs s.data.toList) (fun W => W.cell? ⟨Bx, 0, none⟩ = some (.string s) ∧ Bound W) False := by
  intro l J Jx W hJ hJx hSt hY h0
  have HY := Lib.hid hY
  have HJ := Lib.hid hJ
  have HS := Lib.hid hSt
  clear hY hJ hJx hSt
  refine callsIn_of_wp Tryz.func89 rfl trivial ?_ rfl
  simp only [Tryz.ntmps89, List.size_toArray, List.length_cons, List.length_nil, Nat.reduceAdd, Nat.reduceSub, Array.replicate_succ, Array.replicate_zero, List.push_toArray, List.append_toArray, List.nil_append, List.cons_append]
  gi_wp2_with fail
  gi_loopw [3] (fun i wr => ∃ n k : Nat, i = .int .i64 (k : Int) ∧ k ≤ s.size ∧ n ≤ (lns 0 s.data.toList).length ∧ J n wr ∧ Hid ((lns 0 s.data.toList).drop n = lns k (s.data.toList.drop k)) ∧ W.heap.size ≤ wr.heap.size) (fun i _ => s.size - (intOf i).toNat)
  case atStart => exact ⟨0, 0, rfl, Nat.zero_le _, Nat.zero_le _, h0, Lib.hid (by simp), Nat.le_refl _⟩
  case round =>
    obtain ⟨n, k, rfl, hk, hn, hJn, HL, hz⟩ := hrel
    obtain ⟨b0, hbd⟩ := HS.out n wr hJn
    have k1 : (0 : Int) ≤ (k : Int) := by omega
    have k2 : (k : Int) ≤ (s.size : Int) := by omega
    have hts := tail_size s k
    cases he : eol (s.data.toList.drop k) with
    | none =>
      have HC := Lib.hid (cut_miss (s.extract k s.size) wr (by omega) hbd (by rw [tail_list]; exact he))
      rw [lns_none he] at HL
      clear he
      gi_wp2_with fail
      refine ⟨trivial, rfl, (callsIn_wide.2 HC.out).mono ?_⟩
      rintro e W1 ⟨rfl, m, rfl⟩
      gi_wp2_with fail
      rename_i K' hK' x' h' w' heq'
      refine ⟨(fun _ h => by cases h), hK' _ _ ?_⟩
      clear heq'
      gi_wp2_with fail
      refine bodyPost_ret (results_none rfl _ _ _) rfl ?_
      refine ⟨⟨_, rfl⟩, .inl ?_⟩
      have hlen := congrArg List.length HL.out
      rw [List.length_drop] at hlen
      have en : n = (prs s.data.toList).length := by rw [prs_len]; simp at hlen; omega
      rw [← en]
      exact HJ.out n wr _ hJn (drewN_below _ _)
    | some j =>
      have HC := Lib.hid (cut_hit (s.extract k s.size) j wr (by omega) hbd (by rw [tail_list]; exact he))
      rw [tail_list] at HC
      have hle := eol_le he
      rw [List.length_drop, blen'] at hle
      have hjl : ((s.data.toList.drop k).take j).length = j := by rw [List.length_take, List.length_drop, blen']; omega
      by_cases hj : j = 0
      · rw [hj] at he
        rw [lns_last he] at HL
        obtain ⟨hg, hd, hlt⟩ := drop_get HL.out
        have hlen := congrArg List.length hd
        rw [List.length_drop] at hlen
        have en : n + 1 = (prs s.data.toList).length := by rw [prs_len]; simp at hlen; omega
        have HN := Lib.hid en
        subst hj
        rw [show arr ((s.data.toList.drop k).take 0) = ⟨#[]⟩ from rfl] at HC
        generalize arr ((s.data.toList.drop k).drop (0 + 2)) = rest at HC
        clear he hd hlen en
        gi_wp2_with fail
        refine ⟨trivial, rfl, (callsIn_wide.2 HC.out).mono ?_⟩
        rintro e W1 ⟨rfl, m, rfl⟩
        have hJm := HJ.out n wr _ hJn (drewN_below wr m)
        obtain ⟨fn, tm, asg, bo, hy, hR⟩ := HY.out n (wr.drewN m) #[.int .i64 (k : Int), .string ⟨#[]⟩] hJm hz (by rw [prs, List.getElem?_map, hg]; rfl)
        clear hg
        gi_wp2_with fail
        refine ⟨rfl, hR.mono ?_⟩
        rintro e W2 (⟨rfl, hJ2, hs2, -⟩ | ⟨rfl, hx2⟩)
        · clear hy
          gi_wp2_with fail
          refine bodyPost_ret (results_none rfl _ _ _) rfl ?_
          exact ⟨⟨_, rfl⟩, .inl (by rw [← HN.out]; exact hJ2)⟩
        · clear hy
          gi_wp2_with fail
          refine bodyPost_ret (results_none rfl _ _ _) rfl ?_
          exact ⟨⟨_, rfl⟩, .inr ⟨n + 1, by rw [HN.out]; exact Nat.le_refl _, hx2⟩⟩
      · rw [lns_some he hj] at HL
        obtain ⟨hg, hd, hlt⟩ := drop_get HL.out
        have hne : ((arr ((s.data.toList.drop k).take j)).toList == []) = false := arr_ne (fun e => hj (by rw [← hjl, e]; rfl))
        have hsz := arr_size ((s.data.toList.drop k).take j)
        rw [hjl] at hsz
        have hx : (prs s.data.toList)[n]? = some #[.int .i64 (k : Int), .string (arr ((s.data.toList.drop k).take j))] := by rw [prs, List.getElem?_map, hg]; rfl
        have HD := Lib.hid hd
        have HX := Lib.hid hx
        generalize arr ((s.data.toList.drop k).drop (j + 2)) = rest at HC
        generalize arr ((s.data.toList.drop k).take j) = ln at HC HX hne hsz
        subst hsz
        rw [List.drop_drop] at HD
        clear he hd hg hx hjl hj
        gi_wp2_with fail
        refine ⟨trivial, rfl, (callsIn_wide.2 HC.out).mono ?_⟩
        rintro e W1 ⟨rfl, m, rfl⟩
        have hJm := HJ.out n wr _ hJn (drewN_below wr m)
        obtain ⟨fn, tm, asg, bo, hy, hR⟩ := HY.out n (wr.drewN m) #[.int .i64 (k : Int), .string ln] hJm hz HX.out
        gi_wp2_with fail
        refine ⟨rfl, hR.mono ?_⟩
        rintro e W2 (⟨rfl, hJ2, hs2, -⟩ | ⟨rfl, hx2⟩)
        · clear hy
          gi_wp2_with fail
          go_roundw
          case rel => exact ⟨n + 1, k + (ln.size + 2), by go_num, by omega, by omega, hJ2, HD, by have : (wr.drewN m).heap.size = wr.heap.size := rfl; omega⟩
          case measure => simp [intOf]; omega
        · clear hy
          gi_wp2_with fail
          refine bodyPost_ret (results_none rfl _ _ _) rfl ?_
          exact ⟨⟨_, rfl⟩, .inr ⟨n + 1, by rw [prs_len]; omega, hx2⟩⟩

end Go.Proofs.YtilebfpaibajcaaGreatDoor
