/- The iterator over the names that may not be trailers. -/
import Derived.Test.YtpmgmbekhnjeoaaDoorFiltTable
namespace Go.Proofs.YtpmgmbekhnjeoaaDoor
open Go.ChangeShapes Go.WideShapes Go.ChangeAt Go.RowKit
open Go.Shelf
open Oc Fl Ft
set_option linter.unusedVariables false
set_option maxRecDepth 100000

theorem names_any (w : World) : Calls Tryd.prog 17 #[] w fun e w' => e = .returned (.func (.func 21) #[] #[]) ∧ w' = w := by
  go_enter Tryd.func17, Tryd.ntmps17
  go_wp2_with fail
  go_ret
  exact ⟨rfl, rfl⟩

/-- A load whose run is known, as a step of a walk. -/
theorem wpListIn_load_run {F : Fence} {n : Nat} {P : Program} {w : World} {ops : Array Oper} {rest : List Oper} {o : Oper} {a : Act} {Q : Exit → Act → World → Prop}
    (hg : o.guard = none) (ty : TypeId) (x : Operand) (hop : o.op = Op.load ty x) (p v : Value) (hx : a.eval x = p) (hrun : (Instr.loadAt ty p).run P w = .ok v w)
    (hK : wpListIn F n P ops Q rest (a.put o.dst v) w) : wpListIn F n P ops Q (o :: rest) a w := by
  refine wpListIn_plain hg fun K hK' => ?_
  unfold Oper.wpIn
  refine ⟨?_, ?_⟩
  · simp [Oper.about, hop]
  · rw [Oper.semAt_plain F _ _ (by rw [hop]; intro c hc'; cases hc')]
    simp only [execOp, hop, hx, Sem.run_bind, hrun, Result.andThen_ok, Sem.run_pure]
    exact hK' _ _ hK

section
attribute [local go_sem] Oper.semAt_some
set_option maxHeartbeats 4000000 in
theorem names_seq : Seq Tryd.prog 21 #[] nmV Tbl False := by
  intro l J Jx W hJ hJx hSt hY h0
  have HY := Lib.hid hY
  have hl := (hSt 0 W h0).load
  have HI : Hid (∀ {k : Nat} {n : ByteArray}, nms[k]? = some n → ∀ W : World, (Instr.index 44 (.agg (tv nms).toArray) (.int .i64 k)).run Tryd.prog W = .ok (.string n) W) := Lib.hid name_at
  generalize (Value.agg (tv nms).toArray) = tab at hl HI
  clear hY hJ hJx hSt
  refine callsIn_of_wp Tryd.func21 rfl trivial ?_ rfl
  simp only [Tryd.ntmps21, List.size_toArray, List.length_cons, List.length_nil, Nat.reduceAdd, Nat.reduceSub, Array.replicate_succ, Array.replicate_zero, List.push_toArray, List.append_toArray, List.nil_append, List.cons_append]
  gi_step
  gi_step
  gi_step
  refine wpListIn_load_run rfl _ _ rfl _ tab rfl hl ?_
  gi_wp2_with fail
  gi_loopw [3, 5] (fun _ i wr => ∃ (k : Nat), k ≤ 28 ∧ i = .int .i64 k ∧ J k wr ∧ W.heap.size ≤ wr.heap.size) (fun _ i _ => 28 - (intOf i).toNat)
  case atStart => exact ⟨0, by omega, rfl, h0, Nat.le_refl _⟩
  case round =>
    obtain ⟨k, hk, rfl, hJn, hz⟩ := hrel
    clear hl
    by_cases hlt : k < 28
    · obtain ⟨n, hn⟩ : ∃ n, nms[k]? = some n := ⟨_, List.getElem?_eq_getElem (by rw [nms_len]; exact hlt)⟩
      have hx := HI.out hn
      obtain ⟨fn, tm, asg, bo, hy, hR⟩ := HY.out k wr #[.string n] hJn (by omega) (nmV_get hn)
      clear hn
      gi_wp2_with fail
      refine ⟨rfl, hR.mono ?_⟩
      rintro e W3 (⟨rfl, hJ3, hs3, -⟩ | ⟨rfl, hx3⟩)
      · clear hy
        gi_wp2_with fail
        go_roundw
        case rel => exact ⟨k + 1, by omega, by go_num, hJ3, by omega⟩
        case measure => simp [intOf]; omega
      · clear hy
        gi_wp2_with fail
        refine bodyPost_ret (results_none rfl _ _ _) rfl ?_
        exact ⟨⟨_, rfl⟩, .inr ⟨k + 1, by show k + 1 ≤ 28; omega, hx3⟩⟩
    · obtain rfl : k = 28 := by omega
      gi_wp2_with fail
      refine bodyPost_end (results_none rfl _ _ _) rfl ?_
      exact ⟨⟨_, rfl⟩, .inl hJn⟩
end

end Go.Proofs.YtpmgmbekhnjeoaaDoor
