/- What the document's cut, Items and word answer. -/
import Derived.Test.YtjdbgdlkbdpojaaDoorListMarks
namespace Go.Proofs.YtjdbgdlkbdpojaaDoor
open Go.ChangeShapes Go.WideShapes Go.ChangeAt Go.RowKit
open Go.Shelf
open Oc Fl Ls
set_option linter.unusedVariables false

/-- Where the document's cut has come to. -/
def CutAt (c : UInt8) (l : List UInt8) (i k : Nat) (ps : List (List UInt8)) : Prop :=
  if i ≤ l.length then k ≤ i ∧ i ≤ k + pos c (l.drop k) ∧ parts c l = ps ++ parts c (l.drop k) else parts c l = ps
theorem cut_start (c : UInt8) (l : List UInt8) : CutAt c l 0 0 [] := by
  unfold CutAt; rw [if_pos (Nat.zero_le _)]; exact ⟨Nat.le_refl _, Nat.zero_le _, by simp⟩
theorem cut_on {c : UInt8} {l : List UInt8} {i k : Nat} {ps : List (List UInt8)} (h : CutAt c l i k ps) (hi : i < l.length) (hn : l[i]? ≠ some c) : CutAt c l (i + 1) k ps := by
  unfold CutAt at *
  rw [if_pos (by omega)] at h
  rw [if_pos (by omega)]
  obtain ⟨h1, h2, h3⟩ := h
  refine ⟨by omega, ?_, h3⟩
  by_cases he : i = k + pos c (l.drop k)
  · exfalso
    have hp : pos c (l.drop k) < (l.drop k).length := by rw [List.length_drop]; omega
    have := pos_at hp
    rw [List.getElem?_drop, ← he] at this
    exact hn this
  · omega
theorem cut_hit {c : UInt8} {l : List UInt8} {i k : Nat} {ps : List (List UInt8)} (h : CutAt c l i k ps) (hi : i < l.length) (hc : l[i]? = some c) : CutAt c l (i + 1) (i + 1) (ps ++ [(l.drop k).take (i - k)]) := by
  unfold CutAt at *
  rw [if_pos (by omega)] at h
  rw [if_pos (by omega)]
  obtain ⟨h1, h2, h3⟩ := h
  have hx : (l.drop k)[i - k]? = some c := by rw [List.getElem?_drop, show k + (i - k) = i by omega]; exact hc
  have hp := pos_of hx
  have he : pos c (l.drop k) = i - k := by omega
  have hl : pos c (l.drop k) < (l.drop k).length := by rw [List.length_drop]; omega
  refine ⟨Nat.le_refl _, by omega, ?_⟩
  rw [h3, parts_some hl, he, List.drop_drop, show k + (i - k + 1) = i + 1 by omega]
  simp
theorem cut_end {c : UInt8} {l : List UInt8} {k : Nat} {ps : List (List UInt8)} (h : CutAt c l l.length k ps) : CutAt c l (l.length + 1) (l.length + 1) (ps ++ [(l.drop k).take (l.length - k)]) := by
  unfold CutAt at *
  rw [if_pos (Nat.le_refl _)] at h
  rw [if_neg (by omega)]
  obtain ⟨h1, h2, h3⟩ := h
  rw [h3, parts_none (by rw [List.length_drop]; omega), List.take_of_length_le (by rw [List.length_drop]; omega)]
theorem cut_k {c : UInt8} {l : List UInt8} {i k : Nat} {ps : List (List UInt8)} (h : CutAt c l i k ps) (hi : i ≤ l.length) : k ≤ i := by
  unfold CutAt at h; rw [if_pos hi] at h; exact h.1
theorem cut_done {c : UInt8} {l : List UInt8} {k : Nat} {ps : List (List UInt8)} (h : CutAt c l (l.length + 1) k ps) : parts c l = ps := by
  unfold CutAt at h; rwa [if_neg (by omega)] at h
theorem isB {b c : UInt8} (h : b = c) : ((b.toNat : Int) == (c.toNat : Int)) = true := by subst h; exact beq_self_eq_true _
theorem noB {b c : UInt8} (h : b ≠ c) : ((b.toNat : Int) == (c.toNat : Int)) = false := by
  rw [beq_eq_false_iff_ne]; intro e; exact h (UInt8.toNat_inj.1 (by omega))
theorem b_get {s : ByteArray} {k : Nat} (h : k < s.size) : s.data.toList[k]? = some s[k] := by
  rw [List.getElem?_eq_getElem (by rw [blen']; exact h)]; simp [ByteArray.getElem_eq_getElem_data]
theorem mid_eq (s : ByteArray) (k i : Nat) (h : k ≤ i) : s.extract k i = arr ((s.data.toList.drop k).take (i - k)) := b_ext (by
  rw [arr_list]; simp only [ByteArray.data_extract, Array.toList_extract, List.extract_eq_take_drop])

/-- Two lists: what is gathered, and one that was made before. -/
structure Two (w wr : World) (v : Value) (xs : List ByteArray) (u : Value) (ys : List ByteArray) : Prop where
  told : Told w wr v xs
  tx : TX wr u ys
  lt : ∀ g, u.ownBlock = some g → g < wr.heap.size
  ne : ∀ g, v.ownBlock = some g → u.ownBlock ≠ some g
theorem Two.next {w wr w' : World} {v u : Value} {xs ys : List ByteArray} (h : Two w wr v xs u ys) (hb : Below wr.heap.size wr w') : Two w w' v xs u ys :=
  ⟨h.told.next hb, h.tx.below hb, fun g hg => Nat.lt_of_lt_of_le (h.lt g hg) hb.size, h.ne⟩
theorem Two.more {w wr : World} {v u : Value} {xs ys : List ByteArray} (h : Two w wr v xs u ys) (s : ByteArray) (ty : TypeId) (hl : xs.length ≤ 1000000) :
    ∃ v' w', (Builtin.append_ #[22, 22] ty #[v, .slice (some ⟨wr.heap.size, 0, none⟩) 1 1]).run Tryd.prog (wr.alloc (.cells #[.string s] 9)) = .ok v' w' ∧ Two w w' v' (xs ++ [s]) u ys := by
  have h1 := h.next (below_box wr (.cells #[.string s] 9))
  have hz := h1.told.below.size
  obtain ⟨v', w', r0, r1, r2⟩ := run_append_tx (wr.alloc (.cells #[.string s] 9)) ty w.heap.size v _ xs [s] h1.told.own (tx_one wr s _) (by simp; omega) (by omega)
  have hwh := append_where h1.told.own (tx_one wr s _) (by simp; omega) r0
  refine ⟨v', w', r0, ⟨r1, h1.told.below.grown r2 hz (fun k hk => (h1.told.own.lt k hk).1)⟩, RS.keep h1.tx (fun k hk hlt => r2.block k hlt (fun e => h.ne k e.symm hk)), fun g hg => Nat.lt_of_lt_of_le (h1.lt g hg) r2.size, fun g hg hu => ?_⟩
  rcases hwh with e | e
  · exact h.ne g (by rw [← e]; exact hg) hu
  · have a1 := e g hg
    have a2 := h1.lt g hu
    omega

set_option maxRecDepth 100000 in
set_option maxHeartbeats 2000000 in
theorem rcut_any (c : UInt8) (s : ByteArray) (w : World) (hs : s.size ≤ 100000) :
    Calls Tryd.prog 22 #[.string s, .int .u8 (c.toNat : Int)] w fun e w' => ∃ v, e = .returned v ∧ Told w w' v ((parts c s.data.toList).map arr) := by
  go_enter Tryd.func22, Tryd.ntmps22
  go_wp2_with fail
  go_loopw [5, 6, 7] (fun v a i wr => ∃ (k n : Nat) (ps : List (List UInt8)), n ≤ s.size + 1 ∧ a = .int .i64 k ∧ i = .int .i64 n ∧ ps.length ≤ n ∧ Hid (CutAt c s.data.toList n k ps) ∧ Hid (Told w wr v (ps.map arr))) (fun _ _ i _ => s.size + 1 - (intOf i).toNat)
  case atStart => exact ⟨0, 0, [], Nat.zero_le _, rfl, rfl, Nat.zero_le _, Lib.hid (cut_start _ _), Lib.hid ⟨World.ownsRow_nil _ _ _ _, Below.refl _ _⟩⟩
  case round =>
    obtain ⟨k, n, ps, hn, rfl, rfl, hpl, HC, HT⟩ := hrel
    by_cases hle : n ≤ s.size
    · have hk := cut_k HC.out (by rw [blen']; exact hle)
      have hcut : ∀ W : World, (Instr.slice 9 (.string s) (some (.int .i64 (k : Int))) (some (.int .i64 (n : Int))) none).run Tryd.prog W = .ok (.string (s.extract k n)) W := fun W => by
        rw [run_slice_string W 9 s .i64 .i64 (k : Int) (n : Int) Tryd.underlying9 (by omega) (by omega) (by omega)]
        congr 3
      rw [mid_eq s k n hk] at hcut
      have hpl2 : (ps.map arr).length ≤ 1000000 := by rw [List.length_map]; omega
      obtain ⟨v', w2, r0, r1⟩ := HT.out.more (arr ((s.data.toList.drop k).take (n - k))) 22 hpl2
      have hm : ps.map arr ++ [arr ((s.data.toList.drop k).take (n - k))] = (ps ++ [(s.data.toList.drop k).take (n - k)]).map arr := by simp
      rw [hm] at r1
      have R0 := Lib.hid r0
      have R1 := Lib.hid r1
      clear r0 r1 hm hk
      by_cases he : n = s.size
      · have HE : Hid (CutAt c s.data.toList (n + 1) (n + 1) (ps ++ [(s.data.toList.drop k).take (n - k)])) := by
          refine Lib.hid ?_
          have h1 := HC.out
          rw [he, ← blen' s] at h1 ⊢
          exact cut_end h1
        generalize arr ((s.data.toList.drop k).take (n - k)) = part at *
        generalize hps : ps ++ [(s.data.toList.drop k).take (n - k)] = ps' at *
        have hpl3 : ps'.length ≤ n + 1 := by rw [← hps]; simp; omega
        have e1 : ((n : Int) == (s.size : Int)) = true := beq_iff_eq.2 (by omega)
        clear hps HC HT he
        go_wp2_with (at_builtin; refine wpList_append_is rfl (.tmp 25) (.tmp 30) 22 rfl _ _ _ _ rfl rfl R0.out ?_)
        go_roundw
        case rel => exact ⟨n + 1, n + 1, ps', by omega, by go_num, by go_num, hpl3, HE, R1⟩
        case measure => simp [intOf]; omega
      · have hlt : n < s.size := by omega
        have e1 : ((n : Int) == (s.size : Int)) = false := beq_eq_false_iff_ne.2 (by omega)
        by_cases hc : s[n] = c
        · have HE : Hid (CutAt c s.data.toList (n + 1) (n + 1) (ps ++ [(s.data.toList.drop k).take (n - k)])) := Lib.hid (cut_hit HC.out (by rw [blen']; exact hlt) (by rw [b_get hlt, hc]))
          generalize arr ((s.data.toList.drop k).take (n - k)) = part at *
          generalize hps : ps ++ [(s.data.toList.drop k).take (n - k)] = ps' at *
          have hpl3 : ps'.length ≤ n + 1 := by rw [← hps]; simp; omega
          have e2 := isB hc
          clear hps HC HT hc
          go_wp2_with (at_builtin; refine wpList_append_is rfl (.tmp 25) (.tmp 30) 22 rfl _ _ _ _ rfl rfl R0.out ?_)
          go_roundw
          case rel => exact ⟨n + 1, n + 1, ps', by omega, by go_num, by go_num, hpl3, HE, R1⟩
          case measure => simp [intOf]; omega
        · have HE : Hid (CutAt c s.data.toList (n + 1) k ps) := Lib.hid (cut_on HC.out (by rw [blen']; exact hlt) (by rw [b_get hlt]; exact fun h => hc (Option.some.inj h)))
          have e2 := noB hc
          clear R0 R1 hcut HC hc
          go_wp2_with fail
          go_roundw
          case rel => exact ⟨k, n + 1, ps, by omega, rfl, by go_num, by omega, HE, HT⟩
          case measure => simp [intOf]; omega
    · obtain rfl : n = s.size + 1 := by omega
      have := HC.out
      rw [← blen' s] at this
      have hd := cut_done this
      rw [← hd] at HT
      clear this hd HC
      go_wp2_with fail
      go_ret
      exact ⟨_, rfl, HT.out⟩

/-- Items of the first parts. -/
theorem live_take {ps : List (List UInt8)} {k : Nat} {p : List UInt8} (h : ps[k]? = some p) : (live (ps.take (k + 1))).map arr = (live (ps.take k)).map arr ++ (if trim p = [] then [] else [arr (trim p)]) := by
  rw [List.take_add_one, h, Option.toList_some, live_app, List.map_append, live_cons]
  congr 1
  simp only [live, List.map_nil, List.filter_nil, List.append_nil]
  split <;> rfl

set_option maxRecDepth 100000 in
set_option maxHeartbeats 4000000 in
theorem ritems_any (vs : List ByteArray) (p : Option Addr) (c : Nat) (w : World) (hV : TX w (.slice p vs.length c) vs) (hb : Ls.bulk vs ≤ 100000) :
    Calls Tryd.prog 12 #[.slice p vs.length c] w fun e w' => ∃ v, e = .returned v ∧ Told w w' v (items vs) := by
  have HV := Lib.hid hV
  have hvl := bulk_len vs
  clear hV
  go_enter Tryd.func12, Tryd.ntmps12
  go_wp2_with fail
  go_loopw [3, 4] (fun v i wr => ∃ (k : Nat), k ≤ vs.length ∧ i = .int .i64 k ∧ Hid (Told w wr v (items (vs.take k)))) (fun _ i _ => vs.length - (intOf i).toNat)
  case atStart => exact ⟨0, Nat.zero_le _, rfl, Lib.hid ⟨World.ownsRow_nil _ _ _ _, Below.refl _ _⟩⟩
  case round =>
    obtain ⟨k, hk, rfl, HT⟩ := hrel
    by_cases hlt : k < vs.length
    · obtain ⟨s, hs⟩ : ∃ s, vs[k]? = some s := ⟨_, List.getElem?_eq_getElem hlt⟩
      obtain ⟨-, ad, rfl, c0⟩ := (HV.out.below HT.out.below).at hs
      have hsz := bulk_mem (List.mem_of_getElem? hs)
      have hsz2 := Ls.bulk_succ hs
      have hsz3 := bulk_take vs (k + 1)
      have hil := items_len (vs.take k)
      have HIT := Lib.hid (items_succ hs)
      have HC := Lib.hid (show Calls Tryd.prog 22 #[.string s, .int .u8 44] wr _ from rcut_any 44 s wr (by omega))
      clear hs
      have k1 : (0 : Int) ≤ (k : Int) := by omega
      have k2 : (k : Int) < (vs.length : Int) := by omega
      generalize hxs : items (vs.take k) = xs at *
      have hpl := parts_len 44 s.data.toList
      have hpz : ∀ q ∈ parts 44 s.data.toList, q.length ≤ 100000 := fun q hq => by have := parts_sum 44 s.data.toList q hq; rw [blen'] at this; omega
      rw [blen'] at hpl
      have hwhole : itmB s = (live (parts 44 s.data.toList)).map arr := rfl
      rw [hwhole] at HIT
      generalize parts 44 s.data.toList = ps at *
      have HPZ := Lib.hid hpz
      clear hpz hxs hwhole
      go_wp2_with fail
      refine HC.out.mono ?_
      rintro e w1 ⟨u, rfl, hu⟩
      have hu0 := hu.below.size
      have h2 : Two w w1 u3 xs u (ps.map arr) := ⟨HT.out.next hu.below, RS.of_own hu.own, fun g hg => (hu.own.lt g hg).2, fun g hg hg' => by
        have a1 := (HT.out.own.lt g hg).2
        have a2 := (hu.own.lt g hg').1
        omega⟩
      obtain ⟨pu, cu, rfl, -, -⟩ := RS.slice h2.tx
      have H2 := Lib.hid h2
      have hpn : (ps.map arr).length = ps.length := by simp
      rw [hpn] at *
      clear hu h2 HT HC c0 hpn
      go_wp2_with fail
      go_loopw [3, 6] (fun v j wr2 => ∃ (m : Nat), m ≤ ps.length ∧ j = .int .i64 m ∧ Hid (Two w wr2 v (xs ++ (live (ps.take m)).map arr) (.slice pu ps.length cu) (ps.map arr))) (fun _ j _ => ps.length - (intOf j).toNat)
      case atStart => exact ⟨0, Nat.zero_le _, rfl, Lib.hid (by simpa [live] using H2.out)⟩
      case round =>
        clear H2
        obtain ⟨m, hm, rfl, H2⟩ := hrel
        by_cases hmt : m < ps.length
        · obtain ⟨q, hq⟩ : ∃ q, ps[m]? = some q := ⟨_, List.getElem?_eq_getElem hmt⟩
          have hqa : (ps.map arr)[m]? = some (arr q) := by rw [List.getElem?_map, hq]; rfl
          obtain ⟨-, ad2, rfl, d0⟩ := H2.out.tx.at hqa
          have hqz := HPZ.out q (List.mem_of_getElem? hq)
          have HLT := Lib.hid (live_take hq)
          have HTR : Hid (∀ W, _) := Lib.hid fun W => rtrim_any (arr q) W (by rw [arr_size]; omega)
          rw [show (⟨(trim (arr q).data.toList).toArray⟩ : ByteArray) = arr (trim q) by rw [arr_list]; rfl] at HTR
          have hll : (xs ++ (live (ps.take m)).map arr).length ≤ 1000000 := by
            have := live_len (ps.take m)
            rw [List.length_append, List.length_map]; rw [List.length_take] at this; omega
          have m1 : (0 : Int) ≤ (m : Int) := by omega
          have m2 : (m : Int) < (ps.length : Int) := by omega
          generalize arr q = qa at *
          clear hq hqa
          by_cases ht : trim q = []
          · rw [if_pos ht, List.append_nil] at HLT
            rw [ht, ← nil_arr] at HTR
            clear ht
            go_wp2_with (go_at_call 23; refine (HTR.out _).mono ?_; rintro e w' ⟨rfl, rfl⟩)
            go_roundw
            case rel => exact ⟨m + 1, by omega, by go_num, Lib.hid (by rw [HLT.out]; exact H2.out)⟩
            case measure => simp [intOf]; omega
          · rw [if_neg ht] at HLT
            have htz : 0 < (arr (trim q)).size := by rw [arr_size]; exact List.length_pos_iff.2 ht
            have htz2 : (arr (trim q)).size ≤ 100000 := by rw [arr_size]; have := trim_le q; omega
            obtain ⟨v', w2, r0, r1⟩ := H2.out.more (arr (trim q)) 22 hll
            rw [List.append_assoc, ← HLT.out] at r1
            have R0 := Lib.hid r0
            have R1 := Lib.hid r1
            generalize arr (trim q) = ta at *
            clear r0 r1 ht H2
            go_wp2_with (first | (go_at_call 23; refine (HTR.out _).mono ?_; rintro e w' ⟨rfl, rfl⟩) | (at_builtin; refine wpList_append_is rfl (.tmp 33) (.tmp 35) 22 rfl _ _ _ _ rfl rfl R0.out ?_))
            go_roundw
            case rel => exact ⟨m + 1, by omega, by go_num, R1⟩
            case measure => simp [intOf]; omega
        · obtain rfl : m = ps.length := by omega
          rw [List.take_length, ← HIT.out] at H2
          go_wp2_with fail
          go_roundw
          case rel => exact ⟨k + 1, by omega, by go_num, Lib.hid H2.out.told⟩
          case measure => simp [intOf]; omega
    · obtain rfl : k = vs.length := by omega
      rw [List.take_length] at HT
      go_wp2_with fail
      go_ret
      exact ⟨_, rfl, HT.out⟩

theorem head_part (c : UInt8) (l : List UInt8) : ∃ ps, parts c l = l.take (pos c l) :: ps := by
  by_cases h : pos c l < l.length
  · exact ⟨_, parts_some h⟩
  · exact ⟨[], by rw [parts_none h, List.take_of_length_le (Nat.not_lt.1 h)]⟩
/-- The document's word. -/
theorem rword_any (s : ByteArray) (w : World) (hs : s.size ≤ 100000) :
    Calls Tryd.prog 27 #[.string s] w fun e w' => e = .returned (.string (nm s)) ∧ Below w.heap.size w w' := by
  have HC := Lib.hid (show Calls Tryd.prog 22 #[.string s, .int .u8 59] w _ from rcut_any 59 s w hs)
  obtain ⟨ps, hps⟩ := head_part 59 s.data.toList
  rw [hps] at HC
  have HTR : Hid (∀ W, _) := Lib.hid fun W => rtrim_any (arr (s.data.toList.take (pos 59 s.data.toList))) W (by rw [arr_size, List.length_take, blen']; omega)
  rw [show (⟨(trim (arr (s.data.toList.take (pos 59 s.data.toList))).data.toList).toArray⟩ : ByteArray) = nm s by rw [arr_list]; rfl] at HTR
  rw [List.map_cons] at HC
  generalize arr (s.data.toList.take (pos 59 s.data.toList)) = x at *
  generalize nm s = y at *
  generalize ps.map arr = rest at *
  clear hps hs
  go_enter Tryd.func27, Tryd.ntmps27
  go_wp2_with fail
  refine HC.out.mono ?_
  rintro e w1 ⟨u, rfl, hu⟩
  obtain ⟨pu, cu, rfl, -, -⟩ := RS.slice (RS.of_own hu.own)
  obtain ⟨-, ad, rfl, d0⟩ := TX.at (l := x :: rest) (RS.of_own hu.own) (i := 0) rfl
  rw [Addr.add_zero'] at d0
  have HB := Lib.hid hu.below
  have l1 : (0 : Int) < ((x :: rest).length : Int) := by simp
  generalize (x :: rest).length = n at *
  clear hu HC
  go_wp2_with (go_at_call 23; refine (HTR.out _).mono ?_; rintro e w' ⟨rfl, rfl⟩)
  go_ret
  exact ⟨rfl, HB.out⟩

end Go.Proofs.YtjdbgdlkbdpojaaDoor
