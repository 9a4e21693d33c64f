/- The program's clock: the iterator over its timers. -/
import Derived.Test.YtcmkdeejofoibaaClkInOrder
import Derived.TacticsInMore
import Derived.LoopIn
namespace Go.Proofs.Ytcmkdeejofoibaa
open Go.ChangeShapes Go.WideShapes Go.ChangeAt Go.RowKit
open Ck
set_option linter.unusedVariables false
set_option maxRecDepth 100000

theorem timers15_any {R : Nat} (w : World) : Calls Try.prog 20 #[.pointer (some ⟨R, 0, none⟩)] w fun e w' => ∃ B, e = .returned (.func (.func 22) #[] #[.pointer (some ⟨B, 0, none⟩)]) ∧ w'.heap[B]? = some (.cells #[.pointer (some ⟨R, 0, none⟩)] 24 (0, 0)) ∧ w.heap.size ≤ B ∧ Below w.heap.size w w' := by
  go_enter Try.func20, Try.ntmps20
  go_wp2_with fail
  go_ret
  exact ⟨w.heap.size, rfl, heap_alloc_new w _, Nat.le_refl _, below_box w _⟩

theorem add_at (g i : Nat) : (⟨g, 0, none⟩ : Addr).add i = ⟨g, i, none⟩ := by
  cases i with
  | zero => rfl
  | succ i => exact (Addr.add_succ' _ i).trans (by simp)

section
attribute [local go_sem] Oper.semAt_some
set_option maxHeartbeats 4000000 in
set_option maxRecDepth 100000 in
theorem timers_seq (R m : Nat) (x : Cs) (B : Nat) (hok : Ok x) (hl : x.l.length ≤ 1000000) :
    SeqH Try.prog 22 #[.pointer (some ⟨B, 0, none⟩)] (x.l.map tmA) (fun W => W.heap[B]? = some (.cells #[.pointer (some ⟨R, 0, none⟩)] 24 (0, 0)) ∧ ClkAt R m x W) := by
  intro l J Jx W hJ hJx hSt hY h0
  obtain ⟨hB, hC⟩ := hSt
  have HI := Lib.hid (inOrder_any W hC hok hl)
  have HY := Lib.hid hY
  have HJ := Lib.hid (And.intro hJ h0)
  have b0 := one15 hB
  generalize hn : x.l = L at *
  clear hY hJ hJx hB hC h0 hok
  refine callsIn_of_wp Try.func22 rfl trivial ?_ rfl
  simp only [Try.ntmps22, List.size_toArray, List.length_cons, List.length_nil, Nat.reduceAdd, Nat.reduceSub, Array.replicate_succ, Array.replicate_zero, List.push_toArray, List.append_toArray, List.nil_append, List.cons_append]
  gi_wp2_with fail
  refine ⟨trivial, rfl, (callsIn_wide.2 HI.out).mono ?_⟩
  rintro e W1 ⟨g, c, rfl, hT, hg0, hg1, hb⟩
  obtain ⟨H, hH⟩ : ∃ H, W1.heap.size = H := ⟨_, rfl⟩
  have hJ1 := HJ.out.1 H 0 W W1 (HJ.out.2 H (by have := hb.size; omega)) hb
  have HT := Lib.hid (And.intro hT (And.intro hg0 (And.intro hg1 (And.intro hb.size hH))))
  have hlc : L.length ≤ c := by obtain ⟨p, c', e, h1, _⟩ := RS.slice hT; cases e; exact h1
  clear hT hg0 hg1 hb HI hH
  gi_wp2_with fail
  gi_loopw [4, 8] (fun _ i wr => ∃ (k : Nat), k ≤ L.length ∧ i = .int .i64 k ∧ J H k wr ∧ Hid (H ≤ wr.heap.size ∧ ∀ r, W.heap.size ≤ r → r < H → wr.heap[r]? = W1.heap[r]?)) (fun _ i _ => L.length - (intOf i).toNat)
  case atStart => exact ⟨0, Nat.zero_le _, rfl, hJ1, Lib.hid ⟨by have := HT.out.2.2.2.2; omega, fun _ _ _ => rfl⟩⟩
  case round =>
    obtain ⟨k, hk, rfl, hJn, HS⟩ := hrel
    by_cases hlt : k < L.length
    · obtain ⟨t, ht⟩ : ∃ t, L[k]? = some t := ⟨_, List.getElem?_eq_getElem hlt⟩
      have hTr : TS wr (.slice (some ⟨g, 0, none⟩) L.length c) L := RS.keep HT.out.1 fun q hq _ => by
        simp [Value.ownBlock] at hq
        subst hq
        exact HS.out.2 _ HT.out.2.1 (by have := HT.out.2.2.1; have := HT.out.2.2.2.2; omega)
      obtain ⟨-, ad, had, e0, e1⟩ := hTr.at ht
      obtain rfl := Option.some.inj had
      rw [add_at] at e0 e1
      simp only at e1
      have hkl : (k : Int) < (L.length : Int) := by omega
      obtain ⟨wn, hwn⟩ : ∃ wn, wr.alloc (obC t) = wn := ⟨_, rfl⟩
      have bn : Below wr.heap.size wr wn := by rw [← hwn]; exact below_box _ _
      have hx : (L.map tmA)[k]? = some (tmA t) := by rw [List.getElem?_map, ht]; rfl
      have hz := HS.out.1
      have hHW : W.heap.size ≤ H := by have := HT.out.2.2.2.1; have := HT.out.2.2.2.2; omega
      obtain ⟨fn, tm, asg, bo, hy, hR⟩ := HY.out H k wn (tmA t) (HJ.out.1 H k wr wn hJn bn) hHW (by have := bn.size; omega) hx
      have hnew := heap_alloc_new wr (obC t)
      rw [hwn] at hnew
      obtain ⟨⟨n0, n1⟩, -⟩ := two15 hnew
      have HB := Lib.hid bn.size
      have HK : Hid (∀ r, W.heap.size ≤ r → r < H → wn.heap[r]? = W1.heap[r]?) := Lib.hid fun r h0 h1 => (bn.block r (by omega)).trans (HS.out.2 r h0 h1)
      have HZ := Lib.hid (show H ≤ wn.heap.size by have := bn.size; omega)
      obtain ⟨id, due⟩ := t
      subst hwn
      change (Instr.yield l #[.int .i64 id, .int .i64 due]).run Try.prog (wr.alloc (.cells #[.int .i64 id, .int .i64 due] 69)) = _ at hy
      clear ht hx hTr hJn hJ1 bn hnew hz had n0 n1
      gi_wp2_with fail
      refine ⟨rfl, hR.mono ?_⟩
      rintro e W3 (⟨rfl, hJ3, hs3, hk3⟩ | ⟨rfl, hx3⟩)
      · have HN := Lib.hid (show H ≤ W3.heap.size ∧ ∀ r, W.heap.size ≤ r → r < H → W3.heap[r]? = W1.heap[r]? from ⟨Nat.le_trans HZ.out hs3, fun r h0 h1 => (hk3 r h0 h1).trans (HK.out r h0 h1)⟩)
        clear hy hs3 hk3 HZ HK HB
        gi_wp2_with fail
        go_roundw
        case rel => exact ⟨k + 1, by omega, by go_num, hJ3, HN⟩
        case measure => simp [intOf]; omega
      · clear hy HZ HK HB
        gi_wp2_with fail
        refine bodyPost_ret (results_none rfl _ _ _) rfl ?_
        exact ⟨⟨_, rfl⟩, H, .inr ⟨k + 1, by rw [List.length_map]; omega, hx3⟩⟩
    · obtain rfl : k = L.length := by omega
      gi_wp2_with fail
      refine bodyPost_end (results_none rfl _ _ _) rfl ?_
      exact ⟨⟨_, rfl⟩, H, .inl (by simpa using hJn)⟩
end

end Go.Proofs.Ytcmkdeejofoibaa
