/- What the document's Lines answers; the law BlockLines. -/
import Derived.Test.YtdimobigdkmcbaaDoorBlockLaws
namespace Go.Proofs.YtdimobigdkmcbaaDoor
open Go.ChangeShapes Go.WideShapes Go.ChangeAt Go.RowKit
open Go.Shelf
open Oc Fl Bk
set_option linter.unusedVariables false
attribute [local go_sem] Oper.semAt_some

/-- Lines as cells. -/
def lv (l : List (Nat × List UInt8)) : List Value := l.flatMap fun p => [.int .i64 (p.1 : Int), .string (arr p.2)]
theorem lv_len (l : List (Nat × List UInt8)) : (lv l).length = l.length * 2 := by
  induction l with
  | nil => rfl
  | cons f l ih => unfold lv at *; rw [List.flatMap_cons, List.length_append, ih]; simp; omega
theorem lv_app (a b : List (Nat × List UInt8)) : lv a ++ lv b = lv (a ++ b) := by simp [lv]
theorem lv_one (l : List (Nat × List UInt8)) (u : Value) (h : u ∈ lv l) : u.oneCell' = true := by
  simp only [lv, List.mem_flatMap] at h
  obtain ⟨b, _, hb⟩ := h
  simp at hb
  rcases hb with rfl | rfl <;> rfl
theorem lv_get {l : List (Nat × List UInt8)} {i : Nat} {p : Nat × List UInt8} (h : l[i]? = some p) : (lv l)[i * 2]? = some (.int .i64 (p.1 : Int)) ∧ (lv l)[i * 2 + 1]? = some (.string (arr p.2)) := by
  induction l generalizing i with
  | nil => simp at h
  | cons g l ih =>
    have e : lv (g :: l) = .int .i64 (g.1 : Int) :: .string (arr g.2) :: lv l := rfl
    rw [e]
    cases i with
    | zero => simp at h; subst h; exact ⟨rfl, rfl⟩
    | succ i =>
      have := ih (i := i) (by simpa using h)
      rw [show (i + 1) * 2 = i * 2 + 2 by omega]
      exact ⟨this.1, this.2⟩
/-- A list of lines. -/
def LS (W : World) (v : Value) (l : List (Nat × List UInt8)) : Prop := RS W 2 v l.length (lv l)
theorem LS.at {W : World} {p : Option Addr} {n c : Nat} {l : List (Nat × List UInt8)} (h : LS W (.slice p n c) l) {i : Nat} {f : Nat × List UInt8} (hi : l[i]? = some f) :
    ∃ ad, p = some ad ∧ W.cell? (ad.add (i * 2)) = some (.int .i64 (f.1 : Int)) ∧ W.cell? ⟨(ad.add (i * 2)).block, (ad.add (i * 2)).off + 1, none⟩ = some (.string (arr f.2)) := by
  obtain ⟨h0, p', c', e, h1, h2, h3, h4⟩ := h
  cases e
  cases p with
  | none =>
    have := h3 rfl
    have hl := (List.getElem?_eq_some_iff.1 hi).1
    omega
  | some ad =>
    refine ⟨ad, rfl, h4 ad rfl _ _ (lv_get hi).1, ?_⟩
    have := h4 ad rfl _ _ (lv_get hi).2
    rw [← Addr.add_add] at this
    have e1 : (ad.add (i * 2)).add 1 = ⟨(ad.add (i * 2)).block, (ad.add (i * 2)).off + 1, none⟩ := Addr.add_succ' _ 0
    rw [e1] at this
    exact this
theorem line_info : (Tryd.prog.info? 47).map (fun i => (i.zero, i.size, i.bytes)) = some (some (.agg #[.int .i64 0, .string ⟨#[]⟩]), 2, 24) := by kernel_rfl
theorem ls_one (W : World) (a : Nat) (x : List UInt8) (t : TypeId) : LS (W.alloc (.cells #[.int .i64 (a : Int), .string (arr x)] t)) (.slice (some ⟨W.heap.size, 0, none⟩) 1 1) [(a, x)] := by
  refine ⟨rfl, some ⟨W.heap.size, 0, none⟩, 1, rfl, Nat.le_refl _, by decide, (fun h => by cases h), fun ad hp i u hu => ?_⟩
  cases hp
  match i, hu with
  | 0, hu =>
    simp [lv] at hu
    subst hu
    rw [Addr.add_zero']
    exact (two_cells (box_cells W _ _ t)).1
  | 1, hu =>
    simp [lv] at hu
    subst hu
    rw [Addr.add_succ']
    exact (two_cells (box_cells W _ _ t)).2.1
  | i + 2, hu => simp [lv] at hu
/-- What a call has gathered so far: lines. -/
structure ToldL (w wr : World) (v : Value) (xs : List (Nat × List UInt8)) : Prop where
  own : wr.ownsRow w.heap.size 47 2 v xs.length (lv xs)
  below : Below w.heap.size w wr
theorem ToldL.more {w wr : World} {v : Value} {xs : List (Nat × List UInt8)} (h : ToldL w wr v xs) (a : Nat) (x : List UInt8) (ty : TypeId) (hl : xs.length ≤ 1000000) :
    ∃ v' w', (Builtin.append_ #[41, 41] ty #[v, .slice (some ⟨wr.heap.size, 0, none⟩) 1 1]).run Tryd.prog (wr.alloc (.cells #[.int .i64 (a : Int), .string (arr x)] 47)) = .ok v' w' ∧ ToldL w w' v' (xs ++ [(a, x)]) := by
  have hb := below_box wr (.cells #[.int .i64 (a : Int), .string (arr x)] 47)
  have o1 := own_same h.own (fun k hk => hb.block k (h.own.lt k hk).2)
  have hz := (ahead h.below hb).size
  obtain ⟨i0, hi, hz0, hz1, hz2⟩ := info_parts line_info
  obtain ⟨v', w', r0, r1, r2⟩ := run_append_rs (wr.alloc (.cells #[.int .i64 (a : Int), .string (arr x)] 47)) 41 ty 47 i0 _ 2 24 Tryd.underlying41 hi hz0 hz1 hz2 rfl (by decide) w.heap.size v _ _ 1 _ _ o1 (ls_one wr a x _) (lv_one [(a, x)]) (by omega) (by omega) hz
  refine ⟨v', w', r0, ?_, (ahead h.below hb).grown r2 hz (fun k hk => (o1.lt k hk).1)⟩
  rw [List.length_append, ← lv_app]
  exact r1

theorem drop_snoc {α : Type} {l m : List α} {n : Nat} {x : α} (h : l.drop n = x :: m) : l.take (n + 1) = l.take n ++ [x] := by
  rw [List.take_add_one, (drop_get h).1]; rfl

set_option maxRecDepth 100000 in
set_option maxHeartbeats 1000000 in
theorem rlines_any (s : ByteArray) (w : World) (hs : s.size ≤ 100000) :
    Calls Tryd.prog 17 #[.string s] w fun e w' => ∃ v, e = .returned v ∧ LS w' v (lns 0 s.data.toList) ∧ Below w.heap.size w w' := by
  go_enter Tryd.func17, Tryd.ntmps17
  go_wp2_with fail
  go_loopw [3, 4] (fun v i wr => ∃ (n k : Nat), k ≤ s.size ∧ i = .int .i64 k ∧ n ≤ k ∧ Hid ((lns 0 s.data.toList).drop n = lns k (s.data.toList.drop k)) ∧ Hid (ToldL w wr v ((lns 0 s.data.toList).take n))) (fun _ i _ => s.size - (intOf i).toNat)
  case atStart => exact ⟨0, 0, Nat.zero_le _, rfl, Nat.zero_le _, Lib.hid (by simp), Lib.hid ⟨World.ownsRow_nil _ _ _ _, Below.refl _ _⟩⟩
  case round =>
    obtain ⟨n, k, hk, rfl, hnk, HL, HT⟩ := hrel
    have hcut : ∀ W : World, (Instr.slice 9 (.string s) (some (.int .i64 (k : Int))) none none).run Tryd.prog W = .ok (.string (s.extract k s.size)) W := fun W => by
      rw [run_slice_string_l W 9 s Tryd.underlying9 .i64 (k : Int) (by omega) (by omega)]; rfl
    have HE := Lib.hid (end_any (s.extract k s.size) wr (by have := tail_size s k; omega))
    rw [tail_list] at HE
    generalize s.extract k s.size = u at *
    have HK := Lib.hid hk
    have hk5 : k ≤ 100000 := by omega
    cases he : eol (s.data.toList.drop k) with
    | none =>
      rw [show endI (s.data.toList.drop k) = -1 by unfold endI; rw [he]] at HE
      rw [lns_none he] at HL
      clear he hk
      go_wp2_with (go_at_call 24; refine HE.out.mono ?_; rintro e w' ⟨rfl, rfl⟩)
      go_ret
      have hlen := congrArg List.length HL.out
      rw [List.length_drop] at hlen
      have ht : (lns 0 s.data.toList).take n = lns 0 s.data.toList := List.take_of_length_le (by simp at hlen; omega)
      have := HT.out
      rw [ht] at this
      exact ⟨_, rfl, RS.of_own this.own, this.below⟩
    | some j =>
      rw [show endI (s.data.toList.drop k) = (j : Int) + 2 by unfold endI; rw [he]] at HE
      have hle := eol_le he
      rw [List.length_drop, blen'] at hle
      have hlb : arr ((s.data.toList.drop k).take j) = s.extract k (k + j) := b_ext (by
        rw [arr_list]
        simp only [ByteArray.data_extract, Array.toList_extract, List.extract_eq_take_drop]
        rw [Nat.add_sub_cancel_left])
      have hkj : k + (j + 2) ≤ s.size := by omega
      have f1 : (0 : Int) ≤ (k : Int) + (j : Int) := by omega
      have f2 : (k : Int) + (j : Int) ≤ (s.size : Int) := by omega
      have f3 : (k : Int) ≤ (k : Int) + (j : Int) := by omega
      have f4 : (0 : Int) ≤ (k : Int) := by omega
      have f5 : (k : Int) + ((j : Int) + 2) - 2 = (k : Int) + (j : Int) := by omega
      have hnl : ((lns 0 s.data.toList).take n).length ≤ 1000000 := by rw [List.length_take]; omega
      have hj5 : j ≤ 100000 := by omega
      have hcut2 : ∀ W : World, (Instr.slice 9 (.string s) (some (.int .i64 (k : Int))) (some (.int .i64 ((k : Int) + (j : Int)))) none).run Tryd.prog W = .ok (.string (s.extract k (k + j))) W := fun W => by
        rw [run_slice_string W 9 s .i64 .i64 (k : Int) ((k : Int) + (j : Int)) Tryd.underlying9 f4 f3 f2]
        congr 3 <;> omega
      by_cases hj : j = 0
      · have hm := HT.out.more k [] 41 hnl
        rw [hj] at he
        rw [lns_last he] at HL
        obtain ⟨v', w2, r0, r1⟩ := hm
        rw [← drop_snoc HL.out] at r1
        have hd := (drop_get HL.out).2.1
        subst hj
        rw [show arr ((s.data.toList.drop k).take 0) = arr [] from rfl] at hlb
        rw [← hlb] at hcut2
        rw [show arr [] = ⟨#[]⟩ from rfl] at r0 hcut2
        simp only [Int.natCast_zero, Int.zero_add, Int.add_zero] at HE hcut2
        have g5 : (k : Int) + 2 - 2 = (k : Int) := by omega
        have R0 := Lib.hid r0
        have R1 := Lib.hid r1
        have HD := Lib.hid hd
        clear r0 r1 hd he hlb hle hk hkj f1 f2 f3 f4 f5
        go_wp2_with (first | (go_at_call 24; refine HE.out.mono ?_; rintro e w' ⟨rfl, rfl⟩) | (at_builtin; refine wpList_append_is rfl (.tmp 13) (.tmp 23) 41 rfl _ _ _ _ rfl rfl R0.out ?_))
        go_ret
        have hlen := congrArg List.length HD.out
        rw [List.length_drop] at hlen
        have ht : (lns 0 s.data.toList).take (n + 1) = lns 0 s.data.toList := List.take_of_length_le (by simp at hlen; omega)
        have := R1.out
        rw [ht] at this
        exact ⟨_, rfl, RS.of_own this.own, this.below⟩
      · obtain ⟨v', w2, r0, r1⟩ := HT.out.more k ((s.data.toList.drop k).take j) 41 hnl
        rw [lns_some he hj] at HL
        rw [← drop_snoc HL.out] at r1
        have hd := (drop_get HL.out).2.1
        rw [List.drop_drop] at hd
        rw [hlb] at r0
        generalize s.extract k (k + j) = lb at *
        have R0 := Lib.hid r0
        have R1 := Lib.hid r1
        have HD := Lib.hid hd
        have HKJ := Lib.hid hkj
        have j2 : (((j : Int) + 2) == 2) = false := beq_eq_false_iff_ne.2 (by omega)
        have j3 : ¬ (j : Int) = 0 := by omega
        clear r0 r1 hd he hlb hle hk hkj f1 f2 f3 f4
        go_wp2_with (first | (go_at_call 24; refine HE.out.mono ?_; rintro e w' ⟨rfl, rfl⟩) | (at_builtin; refine wpList_append_is rfl (.tmp 13) (.tmp 23) 41 rfl _ _ _ _ rfl rfl R0.out ?_))
        go_roundw
        case rel => exact ⟨n + 1, k + (j + 2), by have := HKJ.out; omega, by go_num, by omega, HD, R1⟩
        case measure => simp [intOf]; have := HKJ.out; omega

end Go.Proofs.YtdimobigdkmcbaaDoor
