/- What field.Is, Get, and the document's Is, Get, Texts, Great, answer. -/
import Derived.Test.YtpjmeikeliiepaaDoorFieldRows
import Derived.Deep.RegionHeld3
namespace Go.Proofs.YtpjmeikeliiepaaDoor
open Go.ChangeShapes Go.WideShapes Go.ChangeAt Go.RowKit
open Oc Fl
set_option linter.unusedVariables false

set_option maxHeartbeats 1000000 in
theorem is_any (f : Fld) (n : ByteArray) (w : World) (hf : f.name.size ≤ 1099511627776) (hn : n.size ≤ 1099511627776) :
    Calls Tryd.prog 17 #[fld f, .string n] w fun e w' => e = .returned (.bool (has n f)) ∧ Below w.heap.size w w' := by
  have hA : Hid (∀ W, _) := Lib.hid fun W => alike_any f.name n W hf hn
  have hh : Hid (has n f = alike f.name.data.toList n.data.toList) := Lib.hid rfl
  obtain ⟨x, y⟩ := f
  simp only at hA hh hf
  generalize has n ⟨x, y⟩ = b at *
  rw [← hh.out] at hA
  have hbox : Hid (∀ t, Below w.heap.size w (w.alloc (.cells #[.string x, .string y] t))) := Lib.hid fun t => below_box w _
  go_enter Tryd.func17, Tryd.ntmps17
  go_wp2_with (go_at_call 35; refine (hA.out _).mono ?_; rintro e w' ⟨rfl, hb⟩)
  go_ret
  exact ⟨rfl, ahead (hbox.out _) hb⟩

theorem small_eq {a b : List UInt8} : ((⟨(small a).toArray⟩ : ByteArray).toList == (⟨(small b).toArray⟩ : ByteArray).toList) = alike a b := by
  unfold alike
  rw [Bool.eq_iff_iff]
  simp

set_option maxHeartbeats 1000000 in
theorem ris_any (f : Fld) (n : ByteArray) (w : World) (hf : f.name.size ≤ 1099511627776) (hn : n.size ≤ 1099511627776) :
    Calls Tryd.prog 18 #[fld f, .string n] w fun e w' => e = .returned (.bool (has n f)) ∧ Below w.heap.size w w' := by
  have hA : Hid (∀ W, _) := Lib.hid fun W => rsmall_any f.name W hf
  have hB : Hid (∀ W, _) := Lib.hid fun W => rsmall_any n W hn
  have hh : Hid (has n f = _) := Lib.hid (small_eq (a := f.name.data.toList) (b := n.data.toList)).symm
  obtain ⟨x, y⟩ := f
  simp only at hA hh hf
  generalize has n ⟨x, y⟩ = b at *
  generalize (⟨(small x.data.toList).toArray⟩ : ByteArray) = sx at *
  generalize (⟨(small n.data.toList).toArray⟩ : ByteArray) = sn at *
  have hbox : Hid (∀ t, Below w.heap.size w (w.alloc (.cells #[.string x, .string y] t))) := Lib.hid fun t => below_box w _
  go_enter Tryd.func18, Tryd.ntmps18
  go_wp2_with fail
  refine (hA.out _).mono ?_
  rintro e w1 ⟨rfl, hb1⟩
  replace hb1 := Lib.hid (ahead (hbox.out _) hb1)
  go_wp2_with fail
  refine (hB.out _).mono ?_
  rintro e w2 ⟨rfl, hb2⟩
  replace hb2 := Lib.hid (ahead hb1.out hb2)
  go_wp2_with fail
  go_ret
  exact ⟨ret_bool hh.out.symm, hb2.out⟩

/-- The cell of a text that was captured. -/
def TextAt (W : World) (g : Nat) (n : ByteArray) : Prop := W.cell? ⟨g, 0, none⟩ = some (.string n)
theorem cell_below {W W' : World} {a : Addr} {x : Value} (h : W.cell? a = some x) (hb : Below W.heap.size W W') : W'.cell? a = some x := by
  rw [hb.cell (World.block_lt_of_cell? W _ h)]; exact h

theorem keep4 {w W W' : World} {a b c : Addr} {x y z : Value} (h : Below w.heap.size w W ∧ W.cell? a = some x ∧ W.cell? b = some y ∧ W.cell? c = some z) (hb : Below W.heap.size W W') : Below w.heap.size w W' ∧ W'.cell? a = some x ∧ W'.cell? b = some y ∧ W'.cell? c = some z :=
  ⟨ahead h.1 hb, cell_below h.2.1 hb, cell_below h.2.2.1 hb, cell_below h.2.2.2 hb⟩

set_option maxHeartbeats 1000000 in
theorem get1_any (f : Fld) (n : ByteArray) (g : Nat) (w : World) (hg : w.cell? ⟨g, 0, none⟩ = some (.string n)) (hf : f.name.size ≤ 1099511627776) (hn : n.size ≤ 1099511627776) :
    Calls Tryd.prog 34 #[fld f, .pointer (some ⟨g, 0, none⟩)] w fun e w' => e = .returned (.tuple #[.string f.value, .bool (has n f)]) ∧ Below w.heap.size w w' := by
  have hI : Hid (∀ W, _) := Lib.hid fun W => is_any f n W hf hn
  have hgl := World.block_lt_of_cell? w _ hg
  simp only at hgl
  obtain ⟨x, y⟩ := f
  simp only at hf
  generalize has n ⟨x, y⟩ = b at *
  have K6 : Hid (Below w.heap.size w (w.alloc (.cells #[.string x, .string y] 24)).drew ∧ (w.alloc (.cells #[.string x, .string y] 24)).drew.cell? ⟨g, 0, none⟩ = some (.string n) ∧ (w.alloc (.cells #[.string x, .string y] 24)).drew.cell? ⟨w.heap.size, 0, none⟩ = some (.string x) ∧ (w.alloc (.cells #[.string x, .string y] 24)).drew.cell? ⟨w.heap.size, 1, none⟩ = some (.string y)) :=
    Lib.hid ⟨(below_box w _).drew, cell_below hg (below_box w _).drew, (two_cells (box_cells w _ _ _)).1, (two_cells (box_cells w _ _ _)).2.1⟩
  go_enter Tryd.func34, Tryd.ntmps34
  go_wp2_with fail
  generalize w.alloc _ = W at K6 ⊢
  go_region_held3 (fun w' => w'.cell? ⟨g, 0, none⟩ = some (.string n) ∧ w'.cell? ⟨w.heap.size, 0, none⟩ = some (.string x) ∧ w'.cell? ⟨w.heap.size, 1, none⟩ = some (.string y))
    (first | exact K6.out.2 | exact K7.out.2)
    (first | (go_at_call 17; refine (hI.out _).mono ?_; rintro e w7 ⟨rfl, hb7⟩; have K7 := Lib.hid (keep4 K6.out hb7); clear hb7))
  go_wp2_with fail
  go_ret2
  exact ⟨rfl, K7.out.1⟩

theorem get_take {l : List Fld} {k : Nat} {f : Fld} (n : ByteArray) (h : l[k]? = some f) : Fl.get (l.take (k + 1)) n = Fl.get (l.take k) n ++ (if has n f then [f.value] else []) := by
  rw [List.take_add_one, h, get_append]
  simp only [Option.toList_some, Fl.get, List.filter_cons, List.filter_nil]
  cases has n f <;> simp
theorem get_len (l : List Fld) (n : ByteArray) : (Fl.get l n).length ≤ l.length := by
  unfold Fl.get
  rw [List.length_map]
  exact List.length_filter_le _ _
theorem get_take_len (l : List Fld) (k : Nat) (n : ByteArray) : (Fl.get (l.take k) n).length ≤ l.length := by
  have := get_len (l.take k) n
  rw [List.length_take] at this
  omega

/-- What a call has gathered so far: a row of its own, above what lay before. -/
structure Told (w wr : World) (v : Value) (xs : List ByteArray) : Prop where
  own : wr.ownsRow w.heap.size 9 1 v xs.length (tv xs)
  below : Below w.heap.size w wr
theorem Told.next {w wr w' : World} {v : Value} {xs : List ByteArray} (h : Told w wr v xs) (hb : Below wr.heap.size wr w') : Told w w' v xs := by
  refine ⟨?_, ahead h.below hb⟩
  refine ⟨h.own.1, ?_⟩
  rcases h.own.2 with h' | ⟨g, cap, cur, rfl, hb', hh, rest⟩
  · exact .inl h'
  · exact .inr ⟨g, cap, cur, rfl, hb', (hb.block g (Array.getElem?_eq_some_iff.1 hh).1).trans hh, rest⟩
/-- One text more. -/
theorem Told.more {w wr : World} {v : Value} {xs : List ByteArray} (h : Told w wr v xs) (s : ByteArray) (ty : TypeId) (hl : xs.length ≤ 1000000) :
    ∃ v' w', (Builtin.append_ #[36, 36] ty #[v, .slice (some ⟨wr.heap.size, 0, none⟩) 1 1]).run Tryd.prog (wr.alloc (.cells #[.string s] 9)) = .ok v' w' ∧ Told w w' v' (xs ++ [s]) := by
  have h1 := h.next (below_box wr (.cells #[.string s] 9))
  have hz := h1.below.size
  obtain ⟨v', w', r0, r1, r2⟩ := run_append_tx (wr.alloc (.cells #[.string s] 9)) ty w.heap.size v _ xs [s] h1.own (tx_one wr s _) (by simp; omega) (by omega)
  exact ⟨v', w', r0, r1, h1.below.grown r2 hz (fun k hk => (h1.own.lt k hk).1)⟩

set_option maxHeartbeats 2000000 in
theorem chosen_str (l : List Fld) (n : ByteArray) (p : Option Addr) (c g : Nat) (w : World) (hF : FS w (.slice p l.length c) l) (hg : w.cell? ⟨g, 0, none⟩ = some (.string n)) (hl : l.length ≤ 1000000) (hfs : ∀ f ∈ l, f.name.size ≤ 1099511627776) (hn : n.size ≤ 1099511627776) :
    Calls Tryd.prog 33 #[.slice p l.length c, .func (.func 34) #[] #[.pointer (some ⟨g, 0, none⟩)]] w fun e w' => ∃ v, e = .returned v ∧ Told w w' v (Fl.get l n) := by
  have he : ∀ args w, (callFunc 34 args).run Tryd.prog w = .ok (.enter 34 args) w := enters_of Tryd.func34 (by kernel_rfl) rfl
  have HF := Lib.hid hF
  have HFS := Lib.hid hfs
  have HG := Lib.hid hg
  clear hF hfs hg
  go_enter Tryd.func33, Tryd.ntmps33
  go_wp2_with fail
  go_loopw [5, 12] (fun v i wr => ∃ (k : Nat), k ≤ l.length ∧ i = .int .i64 k ∧ Told w wr v (Fl.get (l.take k) n)) (fun _ i _ => l.length - (intOf i).toNat)
  case atStart => exact ⟨0, Nat.zero_le _, rfl, World.ownsRow_nil _ _ _ _, Below.refl _ _⟩
  case round =>
    obtain ⟨k, hk, rfl, hT⟩ := hrel
    have HT := Lib.hid hT
    clear hT
    by_cases hlt : k < l.length
    · obtain ⟨f, hf⟩ : ∃ f, l[k]? = some f := ⟨_, List.getElem?_eq_getElem hlt⟩
      obtain ⟨-, ad, rfl, c0, c1⟩ := ((HF.out).below HT.out.below).at hf
      have hfz := HFS.out f (List.mem_of_getElem? hf)
      have HGT := Lib.hid (get_take n hf)
      have hlen := get_take_len l k n
      have hf' := Lib.hid hf
      clear hf
      obtain ⟨x, y⟩ := f
      cases hh : has n ⟨x, y⟩
      · rw [hh] at HGT
        have HG1 : Hid (∀ W, Below w.heap.size w W → _) := Lib.hid fun W hb => get1_any ⟨x, y⟩ n g W (cell_below HG.out hb) hfz hn
        rw [hh] at HG1
        clear hh
        go_wp2_with fail
        refine (HG1.out _ (ahead HT.out.below (below_box _ _))).mono ?_
        rintro e w1 ⟨rfl, hb1⟩
        replace HT := Lib.hid ((HT.out.next (below_box _ _)).next hb1)
        clear hb1 c0 c1 HG1
        go_wp2_with fail
        go_roundw
        case rel => exact ⟨k + 1, by omega, by go_num, by rw [HGT.out]; simpa using HT.out⟩
        case measure => simp [intOf]; omega
      · rw [hh] at HGT
        have HG1 : Hid (∀ W, Below w.heap.size w W → _) := Lib.hid fun W hb => get1_any ⟨x, y⟩ n g W (cell_below HG.out hb) hfz hn
        rw [hh] at HG1
        clear hh
        go_wp2_with fail
        refine (HG1.out _ (ahead HT.out.below (below_box _ _))).mono ?_
        rintro e w1 ⟨rfl, hb1⟩
        replace HT := Lib.hid ((HT.out.next (below_box _ _)).next hb1)
        clear hb1 c0 c1 HG1
        obtain ⟨v', w2, r0, r1⟩ := HT.out.more y 36 (by omega)
        have R0 := Lib.hid r0
        have R1 := Lib.hid r1
        clear r0 r1
        go_wp2_with (at_builtin; refine wpList_append_is rfl (.tmp 23) (.tmp 25) 36 rfl _ _ _ _ rfl rfl R0.out ?_)
        clear R0
        go_roundw
        case rel => exact ⟨k + 1, by omega, by go_num, by rw [HGT.out]; simpa using R1.out⟩
        case measure => simp [intOf]; omega
    · obtain rfl : k = l.length := by omega
      rw [List.take_length] at HT
      go_wp2_with fail
      go_ret
      exact ⟨_, rfl, HT.out⟩

end Go.Proofs.YtpjmeikeliiepaaDoor
