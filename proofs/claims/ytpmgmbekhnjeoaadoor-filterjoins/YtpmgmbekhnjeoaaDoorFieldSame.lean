/- What the document's Fields and Great answer; fields that a call gathers. -/
import Derived.Test.YtpmgmbekhnjeoaaDoorFieldRows
import Derived.Deep.RegionHeld3
namespace Go.Proofs.YtpmgmbekhnjeoaaDoor
open Go.ChangeShapes Go.WideShapes Go.ChangeAt Go.RowKit
open Oc Fl
set_option linter.unusedVariables false
set_option maxRecDepth 100000

theorem cell_below {W W' : World} {a : Addr} {x : Value} (h : W.cell? a = some x) (hb : Below W.heap.size W W') : W'.cell? a = some x := by
  rw [hb.cell (World.block_lt_of_cell? W _ h)]; exact h

theorem below_drewN {B : Nat} {w W : World} (h : Below B w W) (n : Nat) : Below B w (W.drewN n) := ⟨h.os, h.tape, h.output, h.size, h.block⟩
theorem take_same {α : Type} {a b : List α} {k : Nat} {x : α} (h : a.take k = b.take k) (ha : a[k]? = some x) (hb : b[k]? = some x) : a.take (k + 1) = b.take (k + 1) := by
  rw [List.take_add_one, List.take_add_one, h, ha, hb]

/-- What a call has gathered so far: fields. -/
structure ToldF (w wr : World) (v : Value) (xs : List Fld) : Prop where
  own : wr.ownsRow w.heap.size 41 2 v xs.length (fv xs)
  below : Below w.heap.size w wr
theorem ToldF.next {w wr w' : World} {v : Value} {xs : List Fld} (h : ToldF w wr v xs) (hb : Below wr.heap.size wr w') : ToldF w w' v xs := by
  refine ⟨?_, ahead h.below hb⟩
  refine ⟨h.own.1, ?_⟩
  rcases h.own.2 with h' | ⟨g, cap, cur, rfl, hb', hh, rest⟩
  · exact .inl h'
  · exact .inr ⟨g, cap, cur, rfl, hb', (hb.block g (Array.getElem?_eq_some_iff.1 hh).1).trans hh, rest⟩
theorem ToldF.more {w wr : World} {v : Value} {xs : List Fld} (h : ToldF w wr v xs) (f : Fld) (ty : TypeId) (hl : xs.length ≤ 1000000) :
    ∃ v' w', (Builtin.append_ #[27, 27] ty #[v, .slice (some ⟨wr.heap.size, 0, none⟩) 1 1]).run Tryd.prog (wr.alloc (.cells #[.string f.name, .string f.value] 41)) = .ok v' w' ∧ ToldF w w' v' (xs ++ [f]) := by
  have h1 := h.next (below_box wr (.cells #[.string f.name, .string f.value] 41))
  have hz := h1.below.size
  obtain ⟨v', w', r0, r1, r2⟩ := run_append_fs (wr.alloc (.cells #[.string f.name, .string f.value] 41)) ty w.heap.size v _ xs [f] h1.own (fs_one wr f _) (by simp; omega) (by omega)
  exact ⟨v', w', r0, r1, h1.below.grown r2 hz (fun k hk => (h1.own.lt k hk).1)⟩

set_option maxHeartbeats 2000000 in
theorem fields_any (a b : List Fld) (u v : Value) (w : World) (ha : FS w u a) (hb : FS w v b) (hla : a.length ≤ 1000000) (hlb : b.length ≤ 1000000) (hab : a = b) :
    Calls Tryd.prog 15 #[u, v] w fun e w' => e = .returned (.bool true) ∧ Below w.heap.size w w' := by
  subst hab
  obtain ⟨p, c, rfl, -, -⟩ := RS.slice ha
  obtain ⟨q, d, rfl, -, -⟩ := RS.slice hb
  have HA := Lib.hid ha
  have HB := Lib.hid hb
  clear ha hb
  go_enter Tryd.func15, Tryd.ntmps15
  go_wp2_with fail
  go_loopw [5] (fun i wr => ∃ (k : Nat), k ≤ a.length ∧ i = .int .i64 k ∧ Below w.heap.size w wr) (fun i _ => a.length - (intOf i).toNat)
  case atStart => exact ⟨0, Nat.zero_le _, rfl, Below.refl _ _⟩
  case round =>
    obtain ⟨k, hk, rfl, hT⟩ := hrel
    have HT := Lib.hid hT
    clear hT
    by_cases hlt : k < a.length
    · obtain ⟨s, hs⟩ : ∃ s, a[k]? = some s := ⟨_, List.getElem?_eq_getElem hlt⟩
      obtain ⟨-, ad, rfl, c0, c1⟩ := (HA.out.below HT.out).at hs
      obtain ⟨-, bd, rfl, d0, d1⟩ := (HB.out.below HT.out).at hs
      clear hs
      obtain ⟨x, y⟩ := s
      simp only at c0 c1 d0 d1
      have hxx : (x.toList == x.toList) = true := beq_self_eq_true _
      have hyy : (y.toList == y.toList) = true := beq_self_eq_true _
      have k1 : (0 : Int) ≤ (k : Int) := by omega
      have k2 : (k : Int) < (a.length : Int) := by omega
      go_wp2_with fail
      go_quiet (fail)
      go_wp2_with fail
      go_roundw
      case rel => exact ⟨k + 1, by omega, by go_num, by first | exact below_drewN HT.out _ | exact HT.out.drew⟩
      case measure => simp [intOf]; omega
    · go_wp2_with fail
      go_ret
      exact ⟨rfl, HT.out⟩

theorem bulk_succ {l : List Fld} {k : Nat} {f : Fld} (h : l[k]? = some f) : bulk (l.take (k + 1)) = bulk (l.take k) + f.name.size + f.value.size + 1 := by
  rw [List.take_add_one, h]
  simp only [Option.toList_some]
  rw [bulk_snoc]
  omega

set_option maxHeartbeats 2000000 in
theorem great_any (l : List Fld) (p : Option Addr) (c : Nat) (w : World) (hF : FS w (.slice p l.length c) l) (hl : l.length ≤ 140737488355328) (hfs : ∀ f ∈ l, f.name.size ≤ 140737488355328 ∧ f.value.size ≤ 140737488355328) :
    Calls Tryd.prog 11 #[.slice p l.length c] w fun e w' => e = .returned (.bool (decide (2000 < bulk l))) ∧ Below w.heap.size w w' := by
  have HF := Lib.hid hF
  have HFS := Lib.hid hfs
  clear hF hfs
  go_enter Tryd.func11, Tryd.ntmps11
  go_wp2_with fail
  go_loopw [3, 4] (fun s i wr => ∃ (k : Nat), k ≤ l.length ∧ i = .int .i64 k ∧ s = .int .i64 (bulk (l.take k) : Nat) ∧ bulk (l.take k) ≤ 281474976713000 ∧ Below w.heap.size w wr) (fun _ i _ => l.length - (intOf i).toNat)
  case atStart => exact ⟨0, Nat.zero_le _, rfl, rfl, by simp [bulk], Below.refl _ _⟩
  case round =>
    obtain ⟨k, hk, rfl, rfl, hbk, hT⟩ := hrel
    have HT := Lib.hid hT
    clear hT
    have hbl := bulk_take l k
    by_cases hlt : k < l.length
    · by_cases h2 : (2000 : Int) < (bulk (l.take k) : Int)
      · have HR := Lib.hid (show decide (2000 < bulk l) = true from decide_eq_true (by omega))
        have h2' : ¬ (bulk (l.take k) : Int) ≤ 2000 := by omega
        clear hbl
        generalize bulk (l.take k) = N at *
        go_wp2_with fail
        go_ret
        exact ⟨ret_bool (by rw [HR.out]), HT.out⟩
      · obtain ⟨f, hf⟩ : ∃ f, l[k]? = some f := ⟨_, List.getElem?_eq_getElem hlt⟩
        obtain ⟨-, ad, rfl, c0, c1⟩ := ((HF.out).below HT.out).at hf
        have hfz := HFS.out f (List.mem_of_getElem? hf)
        have HB := Lib.hid (bulk_succ hf)
        clear hf hbl
        obtain ⟨x, y⟩ := f
        simp only at hfz c0 c1 HB
        obtain ⟨z1, z2⟩ := hfz
        have h2' : (bulk (l.take k) : Int) ≤ 2000 := by omega
        generalize hN' : bulk (l.take (k + 1)) = N' at HB
        have HN' := Lib.hid hN'
        clear hN'
        generalize bulk (l.take k) = N at *
        have k1 : (0 : Int) ≤ (k : Int) := by omega
        have k2 : (k : Int) < (l.length : Int) := by omega
        have hbN : N' ≤ 281474976713000 := by have := HB.out; omega
        go_wp2_with fail
        have e1 : IntKind.i64.wrap ((N : Int) + (x.size : Int)) = (N : Int) + (x.size : Int) := IntWalk.i64_in _ (by omega)
        have e2 : IntKind.i64.wrap ((N : Int) + (x.size : Int) + (y.size : Int)) = (N : Int) + (x.size : Int) + (y.size : Int) := IntWalk.i64_in _ (by omega)
        have e3 : IntKind.i64.wrap ((N : Int) + (x.size : Int) + (y.size : Int) + 1) = (N : Int) + (x.size : Int) + (y.size : Int) + 1 := IntWalk.i64_in _ (by omega)
        go_quiet (fail)
        clear e1 e2 e3
        go_wp2_with fail
        go_roundw
        case rel => exact ⟨k + 1, by omega, by go_num, by congr 1; have := HB.out; have := HN'.out; omega, by have := HN'.out; omega, by first | exact below_drewN HT.out _ | exact HT.out.drew⟩
        case measure => simp [intOf]; omega
    · obtain rfl : k = l.length := by omega
      rw [List.take_length] at *
      generalize hN : bulk l = N at *
      have HN := Lib.hid hN
      clear hN
      go_wp2_with fail
      go_ret
      exact ⟨ret_bool (by have := HN.out; simp; omega), HT.out⟩

end Go.Proofs.YtpmgmbekhnjeoaaDoor
