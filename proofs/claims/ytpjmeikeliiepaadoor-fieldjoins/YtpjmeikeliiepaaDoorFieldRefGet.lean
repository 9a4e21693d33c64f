/- What field.Get, and the document's Get, Texts, Fields, Great, answer. -/
import Derived.Test.YtpjmeikeliiepaaDoorFieldGet
namespace Go.Proofs.YtpjmeikeliiepaaDoor
open Go.ChangeShapes Go.WideShapes Go.ChangeAt Go.RowKit
open Oc Fl
set_option linter.unusedVariables false

set_option maxHeartbeats 1000000 in
theorem get_any (l : List Fld) (n : ByteArray) (p : Option Addr) (c : Nat) (w : World) (hF : FS w (.slice p l.length c) l) (hl : l.length ≤ 1000000) (hfs : ∀ f ∈ l, f.name.size ≤ 1099511627776) (hn : n.size ≤ 1099511627776) :
    Calls Tryd.prog 16 #[.slice p l.length c, .string n] w fun e w' => ∃ v, e = .returned v ∧ TX w' v (Fl.get l n) ∧ Below w.heap.size w w' := by
  have hB := below_box w (.cells #[.string n] 9)
  have hC := Lib.hid (chosen_str l n p c w.heap.size (w.alloc (.cells #[.string n] 9)) (hF.below hB) (by rw [cell_of_row _ _ 0 #[.string n] _ _ (heap_alloc_new w _)]; rfl) hl hfs hn)
  replace hB := Lib.hid hB
  clear hF hfs
  go_enter Tryd.func16, Tryd.ntmps16
  go_wp2_with (go_at_call 33; refine hC.out.mono ?_; rintro e w' ⟨v, rfl, hT⟩)
  go_ret
  exact ⟨v, rfl, RS.of_own hT.own, ahead hB.out hT.below⟩

set_option maxHeartbeats 2000000 in
theorem rget_any (l : List Fld) (n : ByteArray) (p : Option Addr) (c : Nat) (w : World) (hF : FS w (.slice p l.length c) l) (hl : l.length ≤ 1000000) (hfs : ∀ f ∈ l, f.name.size ≤ 1099511627776) (hn : n.size ≤ 1099511627776) :
    Calls Tryd.prog 20 #[.slice p l.length c, .string n] w fun e w' => ∃ v, e = .returned v ∧ TX w' v (Fl.get l n) ∧ Below w.heap.size w w' := by
  have HF := Lib.hid hF
  have HFS := Lib.hid hfs
  clear hF hfs
  go_enter Tryd.func20, Tryd.ntmps20
  go_wp2_with fail
  go_loopw [5, 6] (fun v i wr => ∃ (k : Nat), k ≤ l.length ∧ i = .int .i64 k ∧ Told w wr v (Fl.get (l.take k) n)) (fun _ i _ => l.length - (intOf i).toNat)
  case atStart => exact ⟨0, Nat.zero_le _, rfl, World.ownsRow_nil _ _ _ _, Below.refl _ _⟩
  case round =>
    obtain ⟨k, hk, rfl, hT⟩ := hrel
    have HT := Lib.hid hT
    clear hT
    by_cases hlt : k < l.length
    · obtain ⟨f, hf⟩ : ∃ f, l[k]? = some f := ⟨_, List.getElem?_eq_getElem hlt⟩
      obtain ⟨-, ad, rfl, c0, c1⟩ := ((HF.out).below HT.out.below).at hf
      have hfz := HFS.out f (List.mem_of_getElem? hf)
      have HGT := Lib.hid (get_take n hf)
      have hlen := get_take_len l k n
      have HI : Hid (∀ W, _) := Lib.hid fun W => ris_any f n W hfz hn
      have hf' := Lib.hid hf
      clear hf
      cases hh : has n f
      · rw [hh] at HGT HI
        clear hh
        obtain ⟨x, y⟩ := f
        go_wp2_with fail
        refine (HI.out _).mono ?_
        rintro e w1 ⟨rfl, hb1⟩
        replace HT := Lib.hid (HT.out.next hb1)
        clear hb1 c0 c1 HI
        go_wp2_with fail
        go_roundw
        case rel => exact ⟨k + 1, by omega, by go_num, by rw [HGT.out]; simpa using HT.out⟩
        case measure => simp [intOf]; omega
      · rw [hh] at HGT HI
        clear hh
        have hf'' := hf'.out
        obtain ⟨x, y⟩ := f
        go_wp2_with fail
        refine (HI.out _).mono ?_
        rintro e w1 ⟨rfl, hb1⟩
        replace HT := Lib.hid (HT.out.next hb1)
        replace c1 := cell_below c1 hb1
        clear hb1 c0 HI hf''
        obtain ⟨v', w2, r0, r1⟩ := HT.out.more y 36 (by omega)
        have R0 := Lib.hid r0
        have R1 := Lib.hid r1
        clear r0 r1
        go_wp2_with (at_builtin; refine wpList_append_is rfl (.tmp 19) (.tmp 25) 36 rfl _ _ _ _ rfl rfl R0.out ?_)
        clear R0
        go_roundw
        case rel => exact ⟨k + 1, by omega, by go_num, by rw [HGT.out]; simpa using R1.out⟩
        case measure => simp [intOf]; omega
    · obtain rfl : k = l.length := by omega
      rw [List.take_length] at HT
      go_wp2_with fail
      go_ret
      exact ⟨_, rfl, RS.of_own HT.out.own, HT.out.below⟩

theorem below_drewN {B : Nat} {w W : World} (h : Below B w W) (n : Nat) : Below B w (W.drewN n) := ⟨h.os, h.tape, h.output, h.size, h.block⟩
theorem take_same {α : Type} {a b : List α} {k : Nat} {x : α} (h : a.take k = b.take k) (ha : a[k]? = some x) (hb : b[k]? = some x) : a.take (k + 1) = b.take (k + 1) := by
  rw [List.take_add_one, List.take_add_one, h, ha, hb]

set_option maxHeartbeats 2000000 in
theorem texts_any (a b : List ByteArray) (u v : Value) (w : World) (ha : TX w u a) (hb : TX w v b) (hla : a.length ≤ 1000000) (hlb : b.length ≤ 1000000) (hab : a = b) :
    Calls Tryd.prog 19 #[u, v] w fun e w' => e = .returned (.bool true) ∧ Below w.heap.size w w' := by
  subst hab
  obtain ⟨p, c, rfl, -, -⟩ := RS.slice ha
  obtain ⟨q, d, rfl, -, -⟩ := RS.slice hb
  have HA := Lib.hid ha
  have HB := Lib.hid hb
  clear ha hb
  go_enter Tryd.func19, Tryd.ntmps19
  go_wp2_with fail
  go_loopw [5] (fun i wr => ∃ (k : Nat), k ≤ a.length ∧ i = .int .i64 k ∧ Below w.heap.size w wr) (fun i _ => a.length - (intOf i).toNat)
  case atStart => exact ⟨0, Nat.zero_le _, rfl, Below.refl _ _⟩
  case round =>
    obtain ⟨k, hk, rfl, hT⟩ := hrel
    have HT := Lib.hid hT
    clear hT
    by_cases hlt : k < a.length
    · obtain ⟨s, hs⟩ : ∃ s, a[k]? = some s := ⟨_, List.getElem?_eq_getElem hlt⟩
      obtain ⟨-, ad, rfl, c0⟩ := (HA.out.below HT.out).at hs
      obtain ⟨-, bd, rfl, d0⟩ := (HB.out.below HT.out).at hs
      have hss : (s.toList == s.toList) = true := beq_self_eq_true _
      clear hs
      have k1 : (0 : Int) ≤ (k : Int) := by omega
      have k2 : (k : Int) < (a.length : Int) := by omega
      go_wp2_with fail
      go_quiet (fail)
      go_wp2_with fail
      go_roundw
      case rel => exact ⟨k + 1, by omega, by go_num, by first | exact below_drewN HT.out _ | exact HT.out.drew⟩
      case measure => simp [intOf]; omega
    · go_wp2_with fail
      go_ret
      exact ⟨rfl, HT.out⟩

set_option maxHeartbeats 2000000 in
theorem fields_any (a b : List Fld) (u v : Value) (w : World) (ha : FS w u a) (hb : FS w v b) (hla : a.length ≤ 1000000) (hlb : b.length ≤ 1000000) (hab : a = b) :
    Calls Tryd.prog 21 #[u, v] w fun e w' => e = .returned (.bool true) ∧ Below w.heap.size w w' := by
  subst hab
  obtain ⟨p, c, rfl, -, -⟩ := RS.slice ha
  obtain ⟨q, d, rfl, -, -⟩ := RS.slice hb
  have HA := Lib.hid ha
  have HB := Lib.hid hb
  clear ha hb
  go_enter Tryd.func21, Tryd.ntmps21
  go_wp2_with fail
  go_loopw [5] (fun i wr => ∃ (k : Nat), k ≤ a.length ∧ i = .int .i64 k ∧ Below w.heap.size w wr) (fun i _ => a.length - (intOf i).toNat)
  case atStart => exact ⟨0, Nat.zero_le _, rfl, Below.refl _ _⟩
  case round =>
    obtain ⟨k, hk, rfl, hT⟩ := hrel
    have HT := Lib.hid hT
    clear hT
    by_cases hlt : k < a.length
    · obtain ⟨s, hs⟩ : ∃ s, a[k]? = some s := ⟨_, List.getElem?_eq_getElem hlt⟩
      obtain ⟨-, ad, rfl, c0, c1⟩ := (HA.out.below HT.out).at hs
      obtain ⟨-, bd, rfl, d0, d1⟩ := (HB.out.below HT.out).at hs
      clear hs
      obtain ⟨x, y⟩ := s
      simp only at c0 c1 d0 d1
      have hxx : (x.toList == x.toList) = true := beq_self_eq_true _
      have hyy : (y.toList == y.toList) = true := beq_self_eq_true _
      have k1 : (0 : Int) ≤ (k : Int) := by omega
      have k2 : (k : Int) < (a.length : Int) := by omega
      go_wp2_with fail
      go_quiet (fail)
      go_wp2_with fail
      go_roundw
      case rel => exact ⟨k + 1, by omega, by go_num, by first | exact below_drewN HT.out _ | exact HT.out.drew⟩
      case measure => simp [intOf]; omega
    · go_wp2_with fail
      go_ret
      exact ⟨rfl, HT.out⟩

theorem bulk_succ {l : List Fld} {k : Nat} {f : Fld} (h : l[k]? = some f) : bulk (l.take (k + 1)) = bulk (l.take k) + f.name.size + f.value.size + 1 := by
  rw [List.take_add_one, h]
  simp only [Option.toList_some]
  rw [bulk_snoc]
  omega

set_option maxHeartbeats 2000000 in
theorem great_any (l : List Fld) (p : Option Addr) (c : Nat) (w : World) (hF : FS w (.slice p l.length c) l) (hl : l.length ≤ 140737488355328) (hfs : ∀ f ∈ l, f.name.size ≤ 140737488355328 ∧ f.value.size ≤ 140737488355328) :
    Calls Tryd.prog 15 #[.slice p l.length c] w fun e w' => e = .returned (.bool (decide (2000 < bulk l))) ∧ Below w.heap.size w w' := by
  have HF := Lib.hid hF
  have HFS := Lib.hid hfs
  clear hF hfs
  go_enter Tryd.func15, Tryd.ntmps15
  go_wp2_with fail
  go_loopw [3, 4] (fun s i wr => ∃ (k : Nat), k ≤ l.length ∧ i = .int .i64 k ∧ s = .int .i64 (bulk (l.take k) : Nat) ∧ bulk (l.take k) ≤ 281474976713000 ∧ Below w.heap.size w wr) (fun _ i _ => l.length - (intOf i).toNat)
  case atStart => exact ⟨0, Nat.zero_le _, rfl, rfl, by simp [bulk], Below.refl _ _⟩
  case round =>
    obtain ⟨k, hk, rfl, rfl, hbk, hT⟩ := hrel
    have HT := Lib.hid hT
    clear hT
    have hbl := bulk_take l k
    by_cases hlt : k < l.length
    · by_cases h2 : (2000 : Int) < (bulk (l.take k) : Int)
      · have HR := Lib.hid (show decide (2000 < bulk l) = true from decide_eq_true (by omega))
        have h2' : ¬ (bulk (l.take k) : Int) ≤ 2000 := by omega
        clear hbl
        generalize bulk (l.take k) = N at *
        go_wp2_with fail
        go_ret
        exact ⟨ret_bool (by rw [HR.out]), HT.out⟩
      · obtain ⟨f, hf⟩ : ∃ f, l[k]? = some f := ⟨_, List.getElem?_eq_getElem hlt⟩
        obtain ⟨-, ad, rfl, c0, c1⟩ := ((HF.out).below HT.out).at hf
        have hfz := HFS.out f (List.mem_of_getElem? hf)
        have HB := Lib.hid (bulk_succ hf)
        clear hf hbl
        obtain ⟨x, y⟩ := f
        simp only at hfz c0 c1 HB
        obtain ⟨z1, z2⟩ := hfz
        have h2' : (bulk (l.take k) : Int) ≤ 2000 := by omega
        generalize hN' : bulk (l.take (k + 1)) = N' at HB
        have HN' := Lib.hid hN'
        clear hN'
        generalize bulk (l.take k) = N at *
        have k1 : (0 : Int) ≤ (k : Int) := by omega
        have k2 : (k : Int) < (l.length : Int) := by omega
        have hbN : N' ≤ 281474976713000 := by have := HB.out; omega
        go_wp2_with fail
        have e1 : IntKind.i64.wrap ((N : Int) + (x.size : Int)) = (N : Int) + (x.size : Int) := IntWalk.i64_in _ (by omega)
        have e2 : IntKind.i64.wrap ((N : Int) + (x.size : Int) + (y.size : Int)) = (N : Int) + (x.size : Int) + (y.size : Int) := IntWalk.i64_in _ (by omega)
        have e3 : IntKind.i64.wrap ((N : Int) + (x.size : Int) + (y.size : Int) + 1) = (N : Int) + (x.size : Int) + (y.size : Int) + 1 := IntWalk.i64_in _ (by omega)
        go_quiet (fail)
        clear e1 e2 e3
        go_wp2_with fail
        go_roundw
        case rel => exact ⟨k + 1, by omega, by go_num, by congr 1; have := HB.out; have := HN'.out; omega, by have := HN'.out; omega, by first | exact below_drewN HT.out _ | exact HT.out.drew⟩
        case measure => simp [intOf]; omega
    · obtain rfl : k = l.length := by omega
      rw [List.take_length] at *
      generalize hN : bulk l = N at *
      have HN := Lib.hid hN
      clear hN
      go_wp2_with fail
      go_ret
      exact ⟨ret_bool (by have := HN.out; simp; omega), HT.out⟩

end Go.Proofs.YtpjmeikeliiepaaDoor
