/- What field.Without and what it calls answer. -/
import Derived.Test.YtpjmeikeliiepaaDoorFieldRefGet
namespace Go.Proofs.YtpjmeikeliiepaaDoor
open Go.ChangeShapes Go.WideShapes Go.ChangeAt Go.RowKit
open Oc Fl
set_option linter.unusedVariables false

set_option maxHeartbeats 1000000 in
theorem is1_any (f : Fld) (n : ByteArray) (g : Nat) (w : World) (c0 : w.cell? ⟨g, 0, none⟩ = some (.string f.name)) (c1 : w.cell? ⟨g, 1, none⟩ = some (.string f.value)) (hf : f.name.size ≤ 1099511627776) (hn : n.size ≤ 1099511627776) :
    Calls Tryd.prog 52 #[.string n, .pointer (some ⟨g, 0, none⟩)] w fun e w' => e = .returned (.bool (has n f)) ∧ Below w.heap.size w w' := by
  have hI : Hid (∀ W, _) := Lib.hid fun W => is_any f n W hf hn
  obtain ⟨x, y⟩ := f
  simp only at c0 c1 hf
  generalize has n ⟨x, y⟩ = b at *
  go_enter Tryd.func52, Tryd.ntmps52
  go_wp2_with (go_at_call 17; refine (hI.out _).mono ?_; rintro e w' ⟨rfl, hb⟩)
  go_ret
  exact ⟨rfl, hb⟩

theorem any_take {ns : List ByteArray} {k : Nat} {n : ByteArray} (f : Fld) (h : ns[k]? = some n) : hasAny (ns.take (k + 1)) f = (hasAny (ns.take k) f || has n f) := by
  rw [List.take_add_one, h]
  simp [hasAny]
theorem any_hit {ns : List ByteArray} {k : Nat} {n : ByteArray} {f : Fld} (h : ns[k]? = some n) (hh : has n f = true) : hasAny ns f = true := by
  unfold hasAny
  rw [List.any_eq_true]
  exact ⟨n, List.mem_of_getElem? h, hh⟩

set_option maxHeartbeats 2000000 in
theorem index_func (ns : List ByteArray) (f : Fld) (p : Option Addr) (c g : Nat) (w : World) (hT : TX w (.slice p ns.length c) ns) (c0 : w.cell? ⟨g, 0, none⟩ = some (.string f.name)) (c1 : w.cell? ⟨g, 1, none⟩ = some (.string f.value)) (hl : ns.length ≤ 1000000) (hf : f.name.size ≤ 1099511627776) (hns : ∀ n ∈ ns, n.size ≤ 1099511627776) :
    Calls Tryd.prog 62 #[.slice p ns.length c, .func (.func 52) #[] #[.pointer (some ⟨g, 0, none⟩)]] w fun e w' => (∃ r : Int, e = .returned (.int .i64 r) ∧ decide (0 ≤ r) = hasAny ns f) ∧ Below w.heap.size w w' := by
  have he : ∀ args w, (callFunc 52 args).run Tryd.prog w = .ok (.enter 52 args) w := enters_of Tryd.func52 (by kernel_rfl) rfl
  have HT := Lib.hid hT
  have HN := Lib.hid hns
  have H0 := Lib.hid c0
  have H1 := Lib.hid c1
  clear hT hns c0 c1
  go_enter Tryd.func62, Tryd.ntmps62
  go_wp2_with fail
  go_loopw [8] (fun i wr => ∃ (k : Nat), k ≤ ns.length ∧ i = .int .i64 k ∧ hasAny (ns.take k) f = false ∧ Below w.heap.size w wr) (fun i _ => ns.length - (intOf i).toNat)
  case atStart => exact ⟨0, Nat.zero_le _, rfl, rfl, Below.refl _ _⟩
  case round =>
    obtain ⟨k, hk, rfl, ha, hB⟩ := hrel
    have HB := Lib.hid hB
    have HA := Lib.hid ha
    clear hB ha
    by_cases hlt : k < ns.length
    · obtain ⟨n, hn⟩ : ∃ n, ns[k]? = some n := ⟨_, List.getElem?_eq_getElem hlt⟩
      obtain ⟨-, ad, rfl, d0⟩ := (HT.out.below HB.out).at hn
      have hnz := HN.out n (List.mem_of_getElem? hn)
      have hI := Lib.hid (is1_any f n g wr (cell_below H0.out HB.out) (cell_below H1.out HB.out) hf hnz)
      cases hh : has n f
      · rw [hh] at hI
        have HA' := Lib.hid (show hasAny (ns.take (k + 1)) f = false by rw [any_take f hn, HA.out, hh]; rfl)
        clear hh hn
        go_wp2_with fail
        refine hI.out.mono ?_
        rintro e w1 ⟨rfl, hb1⟩
        replace HB := Lib.hid (ahead HB.out hb1)
        clear hb1 d0 hI
        go_wp2_with fail
        go_roundw
        case rel => exact ⟨k + 1, by omega, by go_num, HA'.out, HB.out⟩
        case measure => simp [intOf]; omega
      · rw [hh] at hI
        have HA' := Lib.hid (any_hit hn hh)
        clear hh hn
        go_wp2_with fail
        refine hI.out.mono ?_
        rintro e w1 ⟨rfl, hb1⟩
        replace HB := Lib.hid (ahead HB.out hb1)
        clear hb1 d0 hI
        go_wp2_with fail
        go_ret
        exact ⟨⟨_, rfl, by rw [HA'.out]; simp⟩, HB.out⟩
    · obtain rfl : k = ns.length := by omega
      rw [List.take_length] at HA
      go_wp2_with fail
      go_ret
      exact ⟨⟨_, rfl, by rw [HA.out]; rfl⟩, HB.out⟩

set_option maxHeartbeats 1000000 in
theorem contains_func (ns : List ByteArray) (f : Fld) (p : Option Addr) (c g : Nat) (w : World) (hT : TX w (.slice p ns.length c) ns) (c0 : w.cell? ⟨g, 0, none⟩ = some (.string f.name)) (c1 : w.cell? ⟨g, 1, none⟩ = some (.string f.value)) (hl : ns.length ≤ 1000000) (hf : f.name.size ≤ 1099511627776) (hns : ∀ n ∈ ns, n.size ≤ 1099511627776) :
    Calls Tryd.prog 51 #[.slice p ns.length c, .func (.func 52) #[] #[.pointer (some ⟨g, 0, none⟩)]] w fun e w' => e = .returned (.bool (hasAny ns f)) ∧ Below w.heap.size w w' := by
  have hI := Lib.hid (index_func ns f p c g w hT c0 c1 hl hf hns)
  clear hT c0 c1 hns
  go_enter Tryd.func51, Tryd.ntmps51
  go_wp2_with (go_at_call 62; refine hI.out.mono ?_; rintro e w' ⟨⟨r, rfl, hr⟩, hb⟩; have HR := Lib.hid hr; clear hr)
  go_ret
  exact ⟨ret_bool HR.out, hb⟩

set_option maxHeartbeats 1000000 in
theorem isany_any (ns : List ByteArray) (f : Fld) (p : Option Addr) (c : Nat) (w : World) (hT : TX w (.slice p ns.length c) ns) (hl : ns.length ≤ 1000000) (hf : f.name.size ≤ 1099511627776) (hns : ∀ n ∈ ns, n.size ≤ 1099511627776) :
    Calls Tryd.prog 39 #[fld f, .slice p ns.length c] w fun e w' => e = .returned (.bool (hasAny ns f)) ∧ Below w.heap.size w w' := by
  have hB := below_box w (.cells #[.string f.name, .string f.value] 24)
  have hC := Lib.hid (contains_func ns f p c w.heap.size (w.alloc (.cells #[.string f.name, .string f.value] 24)) (hT.below hB) (two_cells (box_cells w _ _ _)).1 (two_cells (box_cells w _ _ _)).2.1 hl hf hns)
  replace hB := Lib.hid hB
  clear hT hns
  generalize hasAny ns f = b at *
  obtain ⟨x, y⟩ := f
  simp only at hB hC
  go_enter Tryd.func39, Tryd.ntmps39
  go_wp2_with (go_at_call 51; refine hC.out.mono ?_; rintro e w' ⟨rfl, hb⟩)
  go_ret
  exact ⟨rfl, ahead hB.out hb⟩

theorem TX.heap {W W' : World} {v : Value} {l : List ByteArray} (h : TX W v l) (hh : W'.heap = W.heap) : TX W' v l := RS.keep h fun k _ _ => by rw [hh]

/-- A field's block, one of an empty field above it, and a cell below them. -/
structure Lies (w W : World) (g : Nat) (s x y : Value) : Prop where
  below : Below w.heap.size w W
  old : W.cell? ⟨g, 0, none⟩ = some s
  c0 : W.cell? ⟨w.heap.size, 0, none⟩ = some x
  c1 : W.cell? ⟨w.heap.size, 1, none⟩ = some y
  res : W.heap[w.heap.size + 1]? = some (.cells #[.string ⟨#[]⟩, .string ⟨#[]⟩] 24 (0, 0))
theorem Lies.start {w : World} {g : Nat} {s x y : Value} (h : w.cell? ⟨g, 0, none⟩ = some s) : Lies w ((w.alloc (.cells #[x, y] 24)).alloc (.cells #[.string ⟨#[]⟩, .string ⟨#[]⟩] 24)).drew g s x y := by
  have b1 := below_box w (.cells #[x, y] 24)
  have b2 := below_box (w.alloc (.cells #[x, y] 24)) (.cells #[.string ⟨#[]⟩, .string ⟨#[]⟩] 24)
  have hc := two_cells (two_below (box_cells w x y 24) b2)
  refine ⟨(ahead b1 b2).drew, cell_below (cell_below h b1) b2.drew, hc.1, hc.2.1, ?_⟩
  have := box_cells (w.alloc (.cells #[x, y] 24)) (.string ⟨#[]⟩) (.string ⟨#[]⟩) 24
  have e : (w.alloc (.cells #[x, y] 24)).heap.size = w.heap.size + 1 := by simp
  rw [e] at this
  exact this
theorem Lies.next {w W W' : World} {g : Nat} {s x y : Value} (h : Lies w W g s x y) (hb : Below W.heap.size W W') : Lies w W' g s x y :=
  ⟨ahead h.below hb, cell_below h.old hb, cell_below h.c0 hb, cell_below h.c1 hb, two_below h.res hb⟩
theorem Lies.three {w W : World} {g : Nat} {s x y : Value} (h : Lies w W g s x y) : W.cell? ⟨g, 0, none⟩ = some s ∧ W.cell? ⟨w.heap.size, 0, none⟩ = some x ∧ W.cell? ⟨w.heap.size, 1, none⟩ = some y := ⟨h.old, h.c0, h.c1⟩
theorem heap_two_set (W : World) (r k : Nat) (u v : Value) (h : k ≠ r) : ((W.setCell ⟨r, 0, none⟩ u).setCell ⟨r, 1, none⟩ v).heap[k]? = W.heap[k]? := by
  rw [Below.heap_setCell _ _ _ _ h, Below.heap_setCell _ _ _ _ h]
theorem Lies.stored {w W : World} {g : Nat} {s x y : Value} (h : Lies w W g s x y) (hg : g < w.heap.size) (u v : Value) :
    ((W.setCell ⟨w.heap.size + 1, 0, none⟩ u).setCell ⟨w.heap.size + 1, 1, none⟩ v).cell? ⟨g, 0, none⟩ = some s ∧ ((W.setCell ⟨w.heap.size + 1, 0, none⟩ u).setCell ⟨w.heap.size + 1, 1, none⟩ v).cell? ⟨w.heap.size, 0, none⟩ = some x ∧ ((W.setCell ⟨w.heap.size + 1, 0, none⟩ u).setCell ⟨w.heap.size + 1, 1, none⟩ v).cell? ⟨w.heap.size, 1, none⟩ = some y :=
  ⟨(World.cell?_of_block (heap_two_set W _ _ u v (by show g ≠ _; omega))).trans h.old, (World.cell?_of_block (heap_two_set W _ _ u v (by show w.heap.size ≠ _; omega))).trans h.c0, (World.cell?_of_block (heap_two_set W _ _ u v (by show w.heap.size ≠ _; omega))).trans h.c1⟩
theorem Lies.result {w W : World} {g : Nat} {s x y : Value} (h : Lies w W g s x y) (u v : Value) :
    ((W.setCell ⟨w.heap.size + 1, 0, none⟩ u).setCell ⟨w.heap.size + 1, 1, none⟩ v).heap[w.heap.size + 1]? = some (.cells #[u, v] 24 (0, 0)) ∧ Below w.heap.size w ((W.setCell ⟨w.heap.size + 1, 0, none⟩ u).setCell ⟨w.heap.size + 1, 1, none⟩ v) := by
  refine ⟨?_, (h.below.setCell (p := ⟨w.heap.size + 1, 0, none⟩) (Nat.le_succ _) _).setCell (p := ⟨w.heap.size + 1, 1, none⟩) (Nat.le_succ _) _⟩
  have := h.res
  simp [World.setCell, Array.getElem?_modify, this]

set_option maxHeartbeats 1000000 in
theorem without1_any (ns : List ByteArray) (f : Fld) (p : Option Addr) (c g : Nat) (w : World) (hT : TX w (.slice p ns.length c) ns) (hg : w.cell? ⟨g, 0, none⟩ = some (.slice p ns.length c)) (hl : ns.length ≤ 1000000) (hf : f.name.size ≤ 1099511627776) (hns : ∀ n ∈ ns, n.size ≤ 1099511627776) :
    Calls Tryd.prog 38 #[fld f, .pointer (some ⟨g, 0, none⟩)] w fun e w' => e = .returned (.tuple #[fld f, .bool (!hasAny ns f)]) ∧ Below w.heap.size w w' := by
  have hI : Hid (∀ W, Below w.heap.size w W → _) := Lib.hid fun W hb => isany_any ns f p c W (hT.below hb) hl hf hns
  have hgl := World.block_lt_of_cell? w _ hg
  simp only at hgl
  generalize hasAny ns f = b at *
  obtain ⟨x, y⟩ := f
  have K6 := Lib.hid (Lies.start (x := .string x) (y := .string y) hg)
  clear hT hns hg
  go_enter Tryd.func38, Tryd.ntmps38
  go_wp2_with fail
  generalize (w.alloc _).alloc _ = W at K6 ⊢
  go_region_held3 (fun w' => w'.cell? ⟨g, 0, none⟩ = some (.slice p ns.length c) ∧ w'.cell? ⟨w.heap.size, 0, none⟩ = some (.string x) ∧ w'.cell? ⟨w.heap.size, 1, none⟩ = some (.string y))
    (first | exact K6.out.three | exact K7.out.three | exact K7.out.stored hgl _ _)
    (first | (go_at_call 39; refine (hI.out _ K6.out.below).mono ?_; rintro e w7 ⟨rfl, hb7⟩; have K7 := Lib.hid (K6.out.next hb7); have z0 := (two_cells K7.out.res).1; have z1 := (two_cells K7.out.res).2.1; have z2 := (two_cells K7.out.res).2.2; clear hb7))
  go_wp2_with fail
  have HF := K7.out.result (.string x) (.string y)
  refine bodyPost_ret (results_two rfl _ _ (w.heap.size + 1) 24 _ (0, 0) _ rfl HF.1 Tryd.underlying24 rfl (by kernel_rfl)) rfl ?_
  exact ⟨rfl, HF.2⟩

/-- What a call has gathered so far: fields. -/
structure ToldF (w wr : World) (v : Value) (xs : List Fld) : Prop where
  own : wr.ownsRow w.heap.size 24 2 v xs.length (fv xs)
  below : Below w.heap.size w wr
theorem ToldF.next {w wr w' : World} {v : Value} {xs : List Fld} (h : ToldF w wr v xs) (hb : Below wr.heap.size wr w') : ToldF w w' v xs := by
  refine ⟨?_, ahead h.below hb⟩
  refine ⟨h.own.1, ?_⟩
  rcases h.own.2 with h' | ⟨g, cap, cur, rfl, hb', hh, rest⟩
  · exact .inl h'
  · exact .inr ⟨g, cap, cur, rfl, hb', (hb.block g (Array.getElem?_eq_some_iff.1 hh).1).trans hh, rest⟩
theorem ToldF.more {w wr : World} {v : Value} {xs : List Fld} (h : ToldF w wr v xs) (f : Fld) (ty : TypeId) (hl : xs.length ≤ 1000000) :
    ∃ v' w', (Builtin.append_ #[35, 35] ty #[v, .slice (some ⟨wr.heap.size, 0, none⟩) 1 1]).run Tryd.prog (wr.alloc (.cells #[.string f.name, .string f.value] 24)) = .ok v' w' ∧ ToldF w w' v' (xs ++ [f]) := by
  have h1 := h.next (below_box wr (.cells #[.string f.name, .string f.value] 24))
  have hz := h1.below.size
  obtain ⟨v', w', r0, r1, r2⟩ := run_append_fs (wr.alloc (.cells #[.string f.name, .string f.value] 24)) ty w.heap.size v _ xs [f] h1.own (fs_one wr f _) (by simp; omega) (by omega)
  exact ⟨v', w', r0, r1, h1.below.grown r2 hz (fun k hk => (h1.own.lt k hk).1)⟩

theorem without_take {l : List Fld} {k : Nat} {f : Fld} (ns : List ByteArray) (h : l[k]? = some f) : without (l.take (k + 1)) ns = without (l.take k) ns ++ (if hasAny ns f then [] else [f]) := by
  rw [List.take_add_one, h, without_append]
  simp only [Option.toList_some, without, List.filter_cons, List.filter_nil]
  cases hasAny ns f <;> simp
theorem without_len (l : List Fld) (ns : List ByteArray) : (without l ns).length ≤ l.length := by
  unfold without
  exact List.length_filter_le _ _
theorem without_take_len (l : List Fld) (k : Nat) (ns : List ByteArray) : (without (l.take k) ns).length ≤ l.length := by
  have := without_len (l.take k) ns
  rw [List.length_take] at this
  omega

set_option maxHeartbeats 2000000 in
theorem chosen_fld (l : List Fld) (ns : List ByteArray) (p q : Option Addr) (c d g : Nat) (w : World) (hF : FS w (.slice p l.length c) l) (hT : TX w (.slice q ns.length d) ns) (hg : w.cell? ⟨g, 0, none⟩ = some (.slice q ns.length d)) (hl : l.length ≤ 1000000) (hln : ns.length ≤ 1000000) (hfs : ∀ f ∈ l, f.name.size ≤ 1099511627776) (hns : ∀ n ∈ ns, n.size ≤ 1099511627776) :
    Calls Tryd.prog 37 #[.slice p l.length c, .func (.func 38) #[] #[.pointer (some ⟨g, 0, none⟩)]] w fun e w' => ∃ v, e = .returned v ∧ ToldF w w' v (without l ns) := by
  have he : ∀ args w, (callFunc 38 args).run Tryd.prog w = .ok (.enter 38 args) w := enters_of Tryd.func38 (by kernel_rfl) rfl
  have HF := Lib.hid hF
  have HFS := Lib.hid hfs
  have HW1 : Hid (∀ f ∈ l, ∀ W, Below w.heap.size w W → _) := Lib.hid fun f hf W hb => without1_any ns f q d g W (hT.below hb) (cell_below hg hb) hln (hfs f hf) hns
  clear hF hfs hg hT hns
  go_enter Tryd.func37, Tryd.ntmps37
  go_wp2_with fail
  go_loopw [5, 12] (fun v i wr => ∃ (k : Nat), k ≤ l.length ∧ i = .int .i64 k ∧ ToldF w wr v (without (l.take k) ns)) (fun _ i _ => l.length - (intOf i).toNat)
  case atStart => exact ⟨0, Nat.zero_le _, rfl, World.ownsRow_nil _ _ _ _, Below.refl _ _⟩
  case round =>
    obtain ⟨k, hk, rfl, hT⟩ := hrel
    have HT := Lib.hid hT
    clear hT
    by_cases hlt : k < l.length
    · obtain ⟨f, hf⟩ : ∃ f, l[k]? = some f := ⟨_, List.getElem?_eq_getElem hlt⟩
      obtain ⟨-, ad, rfl, c0, c1⟩ := ((HF.out).below HT.out.below).at hf
      have HW : Hid (∀ W, Below w.heap.size w W → _) := Lib.hid (HW1.out f (List.mem_of_getElem? hf))
      have HGT := Lib.hid (without_take ns hf)
      have hlen := without_take_len l k ns
      clear hf
      cases hh : hasAny ns f
      · rw [hh] at HGT HW
        clear hh
        obtain ⟨x, y⟩ := f
        go_wp2_with fail
        refine (HW.out _ (ahead HT.out.below (below_box _ _))).mono ?_
        rintro e w1 ⟨rfl, hb1⟩
        replace HT := Lib.hid (((HT.out.next (below_box _ _)).next hb1).next (below_box _ (.cells #[.string x, .string y] 24)))
        clear hb1 c0 c1 HW
        obtain ⟨v', w2, r0, r1⟩ := HT.out.more ⟨x, y⟩ 35 (by omega)
        have e2 : (w1.alloc (.cells #[.string x, .string y] 24)).heap.size = w1.heap.size + 1 := by simp
        rw [e2] at r0
        clear e2
        have R0 := Lib.hid r0
        have R1 := Lib.hid r1
        clear r0 r1
        go_wp2_with (at_builtin; refine wpList_append_is rfl (.tmp 23) (.tmp 25) 35 rfl _ _ _ _ rfl rfl R0.out ?_)
        clear R0
        go_roundw
        case rel => exact ⟨k + 1, by omega, by go_num, by rw [HGT.out]; simpa using R1.out⟩
        case measure => simp [intOf]; omega
      · rw [hh] at HGT HW
        clear hh
        obtain ⟨x, y⟩ := f
        go_wp2_with fail
        refine (HW.out _ (ahead HT.out.below (below_box _ _))).mono ?_
        rintro e w1 ⟨rfl, hb1⟩
        replace HT := Lib.hid (((HT.out.next (below_box _ _)).next hb1).next (below_box _ (.cells #[.string x, .string y] 24)))
        clear hb1 c0 c1 HW
        go_wp2_with fail
        go_roundw
        case rel => exact ⟨k + 1, by omega, by go_num, by rw [HGT.out]; simpa using HT.out⟩
        case measure => simp [intOf]; omega
    · obtain rfl : k = l.length := by omega
      rw [List.take_length] at HT
      go_wp2_with fail
      go_ret
      exact ⟨_, rfl, HT.out⟩

set_option maxHeartbeats 1000000 in
theorem without_any (l : List Fld) (ns : List ByteArray) (p q : Option Addr) (c d : Nat) (w : World) (hF : FS w (.slice p l.length c) l) (hT : TX w (.slice q ns.length d) ns) (hl : l.length ≤ 1000000) (hln : ns.length ≤ 1000000) (hfs : ∀ f ∈ l, f.name.size ≤ 1099511627776) (hns : ∀ n ∈ ns, n.size ≤ 1099511627776) :
    Calls Tryd.prog 22 #[.slice p l.length c, .slice q ns.length d] w fun e w' => ∃ v, e = .returned v ∧ FS w' v (without l ns) ∧ Below w.heap.size w w' := by
  have hB := below_box w (.cells #[.slice q ns.length d] 36)
  have hC := Lib.hid (chosen_fld l ns p q c d w.heap.size (w.alloc (.cells #[.slice q ns.length d] 36)) (hF.below hB) (hT.below hB) (by rw [cell_of_row _ _ 0 #[.slice q ns.length d] _ _ (heap_alloc_new w _)]; rfl) hl hln hfs hns)
  replace hB := Lib.hid hB
  clear hF hfs hT hns
  go_enter Tryd.func22, Tryd.ntmps22
  go_wp2_with (go_at_call 37; refine hC.out.mono ?_; rintro e w' ⟨v, rfl, hT⟩)
  go_ret
  exact ⟨v, rfl, RS.of_own hT.own, ahead hB.out hT.below⟩

end Go.Proofs.YtpjmeikeliiepaaDoor
