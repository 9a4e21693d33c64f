/- The laws ListItems, ListLengths, ListCodings. -/
import Derived.Test.YtjdbgdlkbdpojaaDoorListCodings
import Derived.Test.YtjdbgdlkbdpojaaDoorListLength
import Derived.Test.YtjdbgdlkbdpojaaDoorListRefLength
import Derived.Test.YtjdbgdlkbdpojaaDoorFieldRefGet
namespace Go.Proofs.YtjdbgdlkbdpojaaDoor
open Go.ChangeShapes Go.WideShapes Go.ChangeAt Go.RowKit
open Oc Fl Ls
set_option linter.unusedVariables false

theorem tx_two (W : World) (a b : ByteArray) : TX (W.alloc (.cells #[.string a, .string b] 9)) (.slice (some ⟨W.heap.size, 0, none⟩) [a, b].length 2) [a, b] := by
  refine ⟨rfl, _, _, rfl, Nat.le_refl _, by decide, (fun h => by cases h), fun ad hp i u hu => ?_⟩
  cases hp
  have hc : ∀ k v, (#[.string a, .string b] : Array Value)[k]? = some v → (W.alloc (.cells #[.string a, .string b] 9)).cell? ⟨W.heap.size, k, none⟩ = some v := fun k v hk => by
    rw [cell_of_row _ _ k #[.string a, .string b] _ _ (heap_alloc_new W _)]; exact hk
  match i, hu with
  | 0, hu => cases hu; exact hc 0 _ rfl
  | 1, hu => cases hu; exact hc 1 _ rfl
theorem cods_len (vs : List ByteArray) : (codings vs).1.length ≤ Ls.bulk vs := by
  unfold codings
  repeat' split
  all_goals first | (rw [List.length_map]; exact items_len vs) | exact Nat.zero_le _
/-- Calls with one value, and with two. -/
theorem len_two (a b : ByteArray) (W : World) (h : Ls.bulk [a, b] ≤ 100000) {x y : Nat} (he : Ls.length [a, b] = (x, y)) :
    Calls Tryd.prog 15 #[.slice (some ⟨W.heap.size, 0, none⟩) 2 2] (W.alloc (.cells #[.string a, .string b] 9)) fun e w' => e = .returned (.tuple #[.int .u64 (x : Int), .int .i64 (y : Int)]) ∧ Below W.heap.size W w' := by
  have hL := length_any [a, b] (some ⟨W.heap.size, 0, none⟩) 2 _ (tx_two W a b) h
  rw [he] at hL
  refine Calls.mono hL fun e w' h => ⟨h.1, ahead (below_box _ _) h.2⟩
theorem len_one (a : ByteArray) (W : World) (h : Ls.bulk [a] ≤ 100000) {x y : Nat} (he : Ls.length [a] = (x, y)) :
    Calls Tryd.prog 15 #[.slice (some ⟨W.heap.size, 0, none⟩) 1 1] (W.alloc (.cells #[.string a] 9)) fun e w' => e = .returned (.tuple #[.int .u64 (x : Int), .int .i64 (y : Int)]) ∧ Below W.heap.size W w' := by
  have hL := length_any [a] (some ⟨W.heap.size, 0, none⟩) 1 _ (tx_one W a 9) h
  rw [he] at hL
  refine Calls.mono hL fun e w' h => ⟨h.1, ahead (below_box _ _) h.2⟩
theorem cod_two (a b : ByteArray) (W : World) (h : Ls.bulk [a, b] ≤ 100000) (hsp : Spans W) {l : List ByteArray} {y : Nat} (he : codings [a, b] = (l, y)) :
    Calls Tryd.prog 19 #[.slice (some ⟨W.heap.size, 0, none⟩) 2 2] (W.alloc (.cells #[.string a, .string b] 9)) fun e w' => ∃ v, e = .returned (.tuple #[v, .int .i64 (y : Int)]) ∧ TX w' v l ∧ Below W.heap.size W w' := by
  have hL := codings_any [a, b] (some ⟨W.heap.size, 0, none⟩) 2 _ (tx_two W a b) h (hsp.below (below_box _ _))
  rw [he] at hL
  refine Calls.mono hL fun e w' ⟨v, h1, h2, h3⟩ => ⟨v, h1, h2, ahead (below_box _ _) h3⟩
theorem cod_one (a : ByteArray) (W : World) (h : Ls.bulk [a] ≤ 100000) (hsp : Spans W) {l : List ByteArray} {y : Nat} (he : codings [a] = (l, y)) :
    Calls Tryd.prog 19 #[.slice (some ⟨W.heap.size, 0, none⟩) 1 1] (W.alloc (.cells #[.string a] 9)) fun e w' => ∃ v, e = .returned (.tuple #[v, .int .i64 (y : Int)]) ∧ TX w' v l ∧ Below W.heap.size W w' := by
  have hL := codings_any [a] (some ⟨W.heap.size, 0, none⟩) 1 _ (tx_one W a 9) h (hsp.below (below_box _ _))
  rw [he] at hL
  refine Calls.mono hL fun e w' ⟨v, h1, h2, h3⟩ => ⟨v, h1, h2, ahead (below_box _ _) h3⟩
theorem itm_two (a b : ByteArray) (W : World) (h : Ls.bulk [a, b] ≤ 100000) :
    Calls Tryd.prog 11 #[.slice (some ⟨W.heap.size, 0, none⟩) 2 2] (W.alloc (.cells #[.string a, .string b] 9)) fun e w' => ∃ v, e = .returned v ∧ TX w' v (items [a, b]) ∧ Below W.heap.size W w' := by
  have hL := items_any [a, b] (some ⟨W.heap.size, 0, none⟩) 2 _ (tx_two W a b) h
  refine Calls.mono hL fun e w' ⟨v, h1, h2, h3⟩ => ⟨v, h1, h2, ahead (below_box _ _) h3⟩
theorem itm_one (a : ByteArray) (W : World) (h : Ls.bulk [a] ≤ 100000) :
    Calls Tryd.prog 11 #[.slice (some ⟨W.heap.size, 0, none⟩) 1 1] (W.alloc (.cells #[.string a] 9)) fun e w' => ∃ v, e = .returned v ∧ TX w' v (items [a]) ∧ Below W.heap.size W w' := by
  have hL := items_any [a] (some ⟨W.heap.size, 0, none⟩) 1 _ (tx_one W a 9) h
  refine Calls.mono hL fun e w' ⟨v, h1, h2, h3⟩ => ⟨v, h1, h2, ahead (below_box _ _) h3⟩
theorem ritm_one (a : ByteArray) (W : World) (h : Ls.bulk [a] ≤ 100000) :
    Calls Tryd.prog 12 #[.slice (some ⟨W.heap.size, 0, none⟩) 1 1] (W.alloc (.cells #[.string a] 9)) fun e w' => ∃ p c, e = .returned (.slice p (itmB a).length c) ∧ Below W.heap.size W w' := by
  have hL := ritems_any [a] (some ⟨W.heap.size, 0, none⟩) 1 _ (tx_one W a 9) h
  refine Calls.mono hL fun e w' ⟨v, h1, h2⟩ => ?_
  rw [show items [a] = itmB a by simp [items]] at h2
  obtain ⟨p, c, rfl, -, -⟩ := RS.slice (RS.of_own h2.own)
  exact ⟨p, c, h1, ahead (below_box _ _) h2.below⟩

abbrev t5 : ByteArray := ⟨#[53]⟩
abbrev t55 : ByteArray := ⟨#[53, 44, 32, 53]⟩
abbrev t6 : ByteArray := ⟨#[54]⟩
abbrev tgc : ByteArray := ⟨#[103, 122, 105, 112, 59, 113, 61, 49, 44, 32, 67, 104, 117, 110, 107, 101, 100]⟩
abbrev tg : ByteArray := ⟨#[103, 122, 105, 112]⟩
abbrev tc : ByteArray := ⟨#[99, 104, 117, 110, 107, 101, 100]⟩
theorem wk1 : Ls.length [t5, t55] = (5, 0) := by decide +kernel
theorem wk2 : Ls.length [t5, t6] = (0, 2) := by decide +kernel
theorem wk3 : codings [tgc] = ([tg, tc], 0) := by decide +kernel

set_option maxRecDepth 100000 in
set_option maxHeartbeats 2000000 in
theorem wakes7 (w : World) (hsp : Spans w) :
    Calls Tryd.prog 8 #[] w fun e w' => e = .returned (.bool true) ∧ Below w.heap.size w w' := by
  have H1 := Lib.hid (len_two t5 t55 w (by decide) wk1)
  have H2 : Hid (∀ W, _) := Lib.hid fun W => len_two t5 t6 W (by decide) wk2
  have H3 : Hid (∀ W, Below w.heap.size w W → _) := Lib.hid fun W hb => cod_one tgc W (by decide) (hsp.below hb) wk3
  clear hsp
  go_enter Tryd.func8, Tryd.ntmps8
  go_wp2_with fail
  refine H1.out.mono ?_
  rintro e w1 ⟨rfl, hb1⟩
  have B1 := Lib.hid hb1
  clear hb1 H1
  go_wp2_with fail
  refine (H2.out _).mono ?_
  rintro e w2 ⟨rfl, hb2⟩
  have B2 := Lib.hid (ahead B1.out hb2)
  clear hb2 H2 B1
  go_wp2_with fail
  refine (H3.out _ B2.out).mono ?_
  rintro e w3 ⟨v, rfl, hT, hb3⟩
  have B3 := Lib.hid (ahead B2.out hb3)
  have HT := Lib.hid hT
  clear hb3 H3 B2 hT
  obtain ⟨p, c, rfl, -, -⟩ := RS.slice HT.out
  have HX : Hid (∀ W, Below w3.heap.size w3 W → TX W (.slice (some ⟨w3.heap.size, 0, none⟩) 2 2) [tg, tc] → _) := Lib.hid fun W hb hW => texts_any [tg, tc] [tg, tc] _ _ W (HT.out.below hb) hW (by decide) (by decide) rfl
  go_wp2_with fail
  refine (HX.out _ (below_box _ _) (tx_two _ _ _)).mono ?_
  rintro e w4 ⟨rfl, hb4⟩
  have B4 := Lib.hid (ahead B3.out (ahead (below_box _ _) hb4))
  clear hb4 HX HT
  go_wp2_with fail
  go_ret
  exact ⟨rfl, B4.out⟩

set_option maxHeartbeats 2000000 in
theorem long7 (vs : List ByteArray) (p : Option Addr) (c : Nat) (w : World) (hV : TX w (.slice p vs.length c) vs) (hl : vs.length ≤ 140737488355328) (hs : ∀ s ∈ vs, s.size ≤ 140737488355328) :
    Calls Tryd.prog 9 #[.slice p vs.length c] w fun e w' => e = .returned (.bool (decide (1000 < Ls.bulk vs))) ∧ w = w' := by
  have HV := Lib.hid hV
  have HS := Lib.hid hs
  clear hV hs
  go_enter Tryd.func9, Tryd.ntmps9
  go_wp2_with fail
  go_loop [3, 4] (fun n i => ∃ k : Nat, k ≤ vs.length ∧ i = .int .i64 k ∧ n = .int .i64 (Ls.bulk (vs.take k) : Nat) ∧ Ls.bulk (vs.take k) ≤ 140737488356400) (fun _ i => vs.length - (intOf i).toNat)
  case atStart => exact ⟨0, Nat.zero_le _, rfl, rfl, by simp [Ls.bulk]⟩
  case round =>
    obtain ⟨k, hk, rfl, rfl, hn⟩ := hrel
    have hbt := bulk_take vs k
    by_cases hlt : k < vs.length
    · by_cases hgo : Ls.bulk (vs.take k) ≤ 1000
      · obtain ⟨s, hs⟩ : ∃ s, vs[k]? = some s := ⟨_, List.getElem?_eq_getElem hlt⟩
        obtain ⟨-, ad, rfl, c0⟩ := HV.out.at hs
        have hsz := HS.out s (List.mem_of_getElem? hs)
        have HSU := Lib.hid (Ls.bulk_succ hs)
        clear hs
        generalize Ls.bulk (vs.take k) = n at *
        have k1 : (0 : Int) ≤ (k : Int) := by omega
        have k2 : (k : Int) < (vs.length : Int) := by omega
        go_wp2_with fail
        go_round
        case rel => exact ⟨k + 1, by omega, by go_num, by rw [HSU.out]; go_num, by rw [HSU.out]; omega⟩
        case measure => simp [intOf]; omega
      · have HD : Hid (decide (1000 < Ls.bulk vs) = true) := Lib.hid (decide_eq_true (by omega))
        generalize Ls.bulk (vs.take k) = n at *
        go_wp2_with fail
        go_ret
        exact ⟨by rw [HD.out]; rfl, rfl⟩
    · obtain rfl : k = vs.length := by omega
      rw [List.take_length] at *
      go_wp2_with fail
      go_ret
      exact ⟨ret_bool (by rw [decide_eq_decide]; omega), rfl⟩

set_option maxRecDepth 100000 in
set_option maxHeartbeats 4000000 in
theorem items7_walk (vs : List ByteArray) (wd : ByteArray) (p : Option Addr) (c : Nat) (w : World) (hsp : Spans w) (hV : TX w (.slice p vs.length c) vs) (hl : vs.length ≤ 140737488355328) (hs : ∀ s ∈ vs, s.size ≤ 140737488355328) :
    Calls Tryd.prog 3 #[.slice p vs.length c, .string wd] w fun e w' => e = .returned (.bool true) ∧ Below w.heap.size w w' := by
  have hW := Lib.hid (wakes7 w hsp)
  have hG : Hid (∀ W, Below w.heap.size w W → _) := Lib.hid fun W hb => long7 vs p c W (hV.below hb) hl hs
  by_cases hb : 1000 < Ls.bulk vs
  · rw [decide_eq_true hb] at hG
    clear hsp hV hs hb
    go_enter Tryd.func3, Tryd.ntmps3
    go_wp2_with fail
    refine hW.out.mono ?_
    rintro e w1 ⟨rfl, hb1⟩
    have B1 := Lib.hid hb1
    clear hb1
    go_wp2_with fail
    refine (hG.out _ B1.out).mono ?_
    rintro e w2 ⟨rfl, rfl⟩
    go_wp2_with fail
    go_ret
    exact ⟨rfl, B1.out⟩
  · rw [decide_eq_false hb] at hG
    by_cases hw : (200 : Int) < (wd.size : Int)
    · clear hsp hV hs hb
      go_enter Tryd.func3, Tryd.ntmps3
      go_wp2_with fail
      refine hW.out.mono ?_
      rintro e w1 ⟨rfl, hb1⟩
      have B1 := Lib.hid hb1
      clear hb1
      go_wp2_with fail
      refine (hG.out _ B1.out).mono ?_
      rintro e w2 ⟨rfl, rfl⟩
      go_wp2_with fail
      go_ret
      exact ⟨rfl, B1.out⟩
    · have hbl : Ls.bulk vs ≤ 100000 := by omega
      have hil := items_len vs
      have H1 : Hid (∀ W, Below w.heap.size w W → _) := Lib.hid fun W hb => items_any vs p c W (hV.below hb) hbl
      have H2 : Hid (∀ W, Below w.heap.size w W → _) := Lib.hid fun W hb => ritems_any vs p c W (hV.below hb) hbl
      have H3 : Hid (∀ W, Below w.heap.size w W → _) := Lib.hid fun W hb => has_any wd vs p c W (hV.below hb) hbl (by omega)
      have H4 : Hid (∀ W, Below w.heap.size w W → _) := Lib.hid fun W hb => rhas_any wd vs p c W (hV.below hb) hbl (by omega)
      have HX : Hid (∀ u v W, TX W u (items vs) → TX W v (items vs) → _) := Lib.hid fun u v W hu hv => texts_any (items vs) (items vs) u v W hu hv (by omega) (by omega) rfl
      generalize hasW wd vs = hb0 at *
      have hbb : (hb0 == hb0) = true := beq_self_eq_true _
      clear hsp hV hs hb hil hbl
      go_enter Tryd.func3, Tryd.ntmps3
      go_wp2_with fail
      refine hW.out.mono ?_
      rintro e w1 ⟨rfl, hb1⟩
      have B1 := Lib.hid hb1
      clear hb1 hW
      go_wp2_with fail
      refine (hG.out _ B1.out).mono ?_
      rintro e w2 ⟨rfl, rfl⟩
      go_wp2_with fail
      refine (H1.out _ B1.out).mono ?_
      rintro e w2 ⟨v, rfl, hT, hb2⟩
      have B2 := Lib.hid (ahead B1.out hb2)
      have T2 := Lib.hid hT
      clear hb2 hT B1
      go_wp2_with fail
      refine (H2.out _ B2.out).mono ?_
      rintro e w3 ⟨u, rfl, hT⟩
      have B3 := Lib.hid (ahead B2.out hT.below)
      have T3 := Lib.hid (T2.out.below hT.below)
      have U3 : Hid (TX w3 u (items vs)) := Lib.hid (RS.of_own hT.own)
      clear hT T2 B2
      go_wp2_with fail
      refine (HX.out _ _ _ T3.out U3.out).mono ?_
      rintro e w4 ⟨rfl, hb4⟩
      have B4 := Lib.hid (ahead B3.out hb4)
      clear hb4 T3 U3 B3
      go_wp2_with fail
      refine (H3.out _ B4.out).mono ?_
      rintro e w5 ⟨rfl, hb5⟩
      have B5 := Lib.hid (ahead B4.out hb5)
      clear hb5 B4
      go_wp2_with fail
      refine (H4.out _ B5.out).mono ?_
      rintro e w6 ⟨rfl, hb6⟩
      have B6 := Lib.hid (ahead B5.out hb6)
      clear hb6 B5
      go_wp2_with fail
      go_ret
      exact ⟨rfl, B6.out⟩

set_option maxRecDepth 100000 in
set_option maxHeartbeats 4000000 in
theorem lengths7_walk (vs : List ByteArray) (s : ByteArray) (p : Option Addr) (c : Nat) (w : World) (hsp : Spans w) (hV : TX w (.slice p vs.length c) vs) (hl : vs.length ≤ 140737488355328) (hs : ∀ s ∈ vs, s.size ≤ 140737488355328) :
    Calls Tryd.prog 4 #[.slice p vs.length c, .string s] w fun e w' => e = .returned (.bool true) ∧ Below w.heap.size w w' := by
  have hW := Lib.hid (wakes7 w hsp)
  have hG : Hid (∀ W, Below w.heap.size w W → _) := Lib.hid fun W hb => long7 vs p c W (hV.below hb) hl hs
  by_cases hb : 1000 < Ls.bulk vs
  · rw [decide_eq_true hb] at hG
    clear hsp hV hs hb
    go_enter Tryd.func4, Tryd.ntmps4
    go_wp2_with fail
    refine hW.out.mono ?_
    rintro e w1 ⟨rfl, hb1⟩
    have B1 := Lib.hid hb1
    clear hb1
    go_wp2_with fail
    refine (hG.out _ B1.out).mono ?_
    rintro e w2 ⟨rfl, rfl⟩
    go_wp2_with fail
    go_ret
    exact ⟨rfl, B1.out⟩
  · rw [decide_eq_false hb] at hG
    by_cases hw : (500 : Int) < (s.size : Int)
    · clear hsp hV hs hb
      go_enter Tryd.func4, Tryd.ntmps4
      go_wp2_with fail
      refine hW.out.mono ?_
      rintro e w1 ⟨rfl, hb1⟩
      have B1 := Lib.hid hb1
      clear hb1
      go_wp2_with fail
      refine (hG.out _ B1.out).mono ?_
      rintro e w2 ⟨rfl, rfl⟩
      go_wp2_with fail
      go_ret
      exact ⟨rfl, B1.out⟩
    · have hbl : Ls.bulk vs ≤ 100000 := by omega
      have H1 : Hid (∀ W, Below w.heap.size w W → _) := Lib.hid fun W hb => length_any vs p c W (hV.below hb) hbl
      have H2 : Hid (∀ W, Below w.heap.size w W → _) := Lib.hid fun W hb => rlength_any vs p c W (hV.below hb) hbl
      have H3 : Hid (∀ W, _) := Lib.hid fun W => number_any s W (by omega)
      have H4 : Hid (∀ W, _) := Lib.hid fun W => rnumber_any s W (by omega)
      generalize Ls.length vs = r1 at *
      generalize num s.data.toList = r2 at *
      obtain ⟨a, b⟩ := r1
      obtain ⟨d, g⟩ := r2
      dsimp only at *
      clear hsp hV hs hb hbl
      go_enter Tryd.func4, Tryd.ntmps4
      go_wp2_with fail
      refine hW.out.mono ?_
      rintro e w1 ⟨rfl, hb1⟩
      have B1 := Lib.hid hb1
      clear hb1 hW
      go_wp2_with fail
      refine (hG.out _ B1.out).mono ?_
      rintro e w2 ⟨rfl, rfl⟩
      go_wp2_with fail
      refine (H1.out _ B1.out).mono ?_
      rintro e w2 ⟨rfl, hb2⟩
      have B2 := Lib.hid (ahead B1.out hb2)
      clear hb2 B1
      go_wp2_with fail
      refine (H2.out _ B2.out).mono ?_
      rintro e w3 ⟨rfl, hb3⟩
      have B3 := Lib.hid (ahead B2.out hb3)
      clear hb3 B2
      go_wp2_with fail
      refine (H3.out _).mono ?_
      rintro e w4 ⟨rfl, hb4⟩
      have B4 := Lib.hid (ahead B3.out hb4)
      clear hb4 B3
      go_wp2_with fail
      refine (H4.out _).mono ?_
      rintro e w5 ⟨rfl, rfl⟩
      go_wp2_with fail
      go_ret
      exact ⟨rfl, B4.out⟩

set_option maxRecDepth 100000 in
set_option maxHeartbeats 4000000 in
theorem codings7_walk (vs : List ByteArray) (p : Option Addr) (c : Nat) (w : World) (hsp : Spans w) (hV : TX w (.slice p vs.length c) vs) (hl : vs.length ≤ 140737488355328) (hs : ∀ s ∈ vs, s.size ≤ 140737488355328) :
    Calls Tryd.prog 5 #[.slice p vs.length c] w fun e w' => e = .returned (.bool true) ∧ Below w.heap.size w w' := by
  have hW := Lib.hid (wakes7 w hsp)
  have hG : Hid (∀ W, Below w.heap.size w W → _) := Lib.hid fun W hb => long7 vs p c W (hV.below hb) hl hs
  by_cases hb : 1000 < Ls.bulk vs
  · rw [decide_eq_true hb] at hG
    clear hsp hV hs hb
    go_enter Tryd.func5, Tryd.ntmps5
    go_wp2_with fail
    refine hW.out.mono ?_
    rintro e w1 ⟨rfl, hb1⟩
    have B1 := Lib.hid hb1
    clear hb1
    go_wp2_with fail
    refine (hG.out _ B1.out).mono ?_
    rintro e w2 ⟨rfl, rfl⟩
    go_wp2_with fail
    go_ret
    exact ⟨rfl, B1.out⟩
  · rw [decide_eq_false hb] at hG
    have hbl : Ls.bulk vs ≤ 100000 := by omega
    have H1 : Hid (∀ W, Below w.heap.size w W → _) := Lib.hid fun W hb => codings_any vs p c W (hV.below hb) hbl (hsp.below hb)
    have H2 : Hid (∀ W, Below w.heap.size w W → _) := Lib.hid fun W hb => rcodings_any vs p c W (hV.below hb) hbl
    have hcl := cods_len vs
    generalize codings vs = r1 at *
    obtain ⟨l, b⟩ := r1
    dsimp only at *
    have HX : Hid (∀ u v W, TX W u l → TX W v l → _) := Lib.hid fun u v W hu hv => texts_any l l u v W hu hv (by omega) (by omega) rfl
    clear hsp hV hs hb hbl hcl
    go_enter Tryd.func5, Tryd.ntmps5
    go_wp2_with fail
    refine hW.out.mono ?_
    rintro e w1 ⟨rfl, hb1⟩
    have B1 := Lib.hid hb1
    clear hb1 hW
    go_wp2_with fail
    refine (hG.out _ B1.out).mono ?_
    rintro e w2 ⟨rfl, rfl⟩
    go_wp2_with fail
    refine (H1.out _ B1.out).mono ?_
    rintro e w2 ⟨v, rfl, hT, hb2⟩
    have B2 := Lib.hid (ahead B1.out hb2)
    have T2 := Lib.hid hT
    clear hb2 hT B1
    go_wp2_with fail
    refine (H2.out _ B2.out).mono ?_
    rintro e w3 ⟨u, rfl, hT, hb3⟩
    have B3 := Lib.hid (ahead B2.out hb3)
    have T3 := Lib.hid (T2.out.below hb3)
    have U3 := Lib.hid hT
    clear hT hb3 T2 B2
    go_wp2_with fail
    refine (HX.out _ _ _ T3.out U3.out).mono ?_
    rintro e w4 ⟨rfl, hb4⟩
    have B4 := Lib.hid (ahead B3.out hb4)
    clear hb4 T3 U3 B3
    go_wp2_with fail
    go_ret
    exact ⟨rfl, B4.out⟩

end Go.Proofs.YtjdbgdlkbdpojaaDoor
