/- The document's credit (ref04.Do), the law's do, the law CreditActs. -/
import Derived.Test.YtabikfckmjfllaaCreditBound
import Derived.Laws.ResultCell
namespace Go.Proofs.Ytabikfckmjfllaa
open Go.ChangeShapes Go.WideShapes Go.ChangeAt Go.RowKit
set_option linter.unusedVariables false

theorem four_cells {A : World} {R : Nat} {x y z u : Value} {t : TypeId} (h : A.heap[R]? = some (.cells #[x, y, z, u] t (0, 0))) :
    A.cell? ⟨R, 0, none⟩ = some x ∧ A.cell? ⟨R, 1, none⟩ = some y ∧ A.cell? ⟨R, 2, none⟩ = some z ∧ A.cell? ⟨R, 3, none⟩ = some u ∧ ∀ i, A.frozen? ⟨R, i, none⟩ = false := by
  simp [World.cell?, World.frozen?, h]
theorem results_row_tmp4 {P : Program} {fn : Func} {p u : Tmp} {ty : TypeId} (h : fn.results = #[.cell p ty, .tmp u]) (tmps : Array Value) (w : World) (g : Nat) (t : TypeId) (cs : Array Value) (fr : Nat × Nat) (d : TypeDesc)
    (hp : tmps.getD p undef = .pointer (some ⟨g, 0, none⟩)) (hg : w.heap[g]? = some (.cells cs t fr))
    (hu : P.underlying ty = some d) (hd : (match d with | .struct _ | .array _ _ => true | _ => false) = true) (hi : (P.info? ty).map (·.size) = some cs.size) :
    (results fn tmps).run P w = .ok (.tuple #[.agg cs, tmps.getD u undef]) w := by
  rw [results_cell_tmp h]
  simp [hp, asAddr, run_loadVar_row w g t ty cs fr d hg hu hd hi, Result.andThen]

/-- The document's credit as a value. -/
def credV (o t h g : Nat) : Value := .agg #[.int .i64 (o : Int), .int .i64 (t : Int), .int .i64 (h : Int), .int .i64 (g : Int)]
/-- What a call makes of a credit: open, taken, held, granted; and what it tells. -/
def actO (k : Nat) (q : Int) (o t h : Nat) : Nat := match k with | 0 => o - min q.toNat o | 1 => o | 2 => o + mvN q t | _ => o + mvN q h
def actT (k : Nat) (q : Int) (o t h : Nat) : Nat := match k with | 0 => t + min q.toNat o | 1 => t - mvN q t | 2 => t - mvN q t | _ => t
def actH (k : Nat) (q : Int) (o t h : Nat) : Nat := match k with | 0 => h | 1 => h + mvN q t | 2 => h | _ => h - mvN q h
def actG (k : Nat) (q : Int) (h g : Nat) : Nat := match k with | 0 => g | 1 => g | 2 => g | _ => g + mvN q h
def actA (k : Nat) (q : Int) (o t h : Nat) : Nat := match k with | 0 => min q.toNat o | 1 => mvE q t | 2 => mvE q t | _ => mvE q h
theorem act_sum (k : Nat) (q : Int) (o t h : Nat) : actO k q o t h + actT k q o t h + actH k q o t h = o + t + h := by
  have h1 := mvN_le q t
  have h2 := mvN_le q h
  match k with
  | 0 => simp only [actO, actT, actH]; omega
  | 1 => simp only [actO, actT, actH]; omega
  | 2 => simp only [actO, actT, actH]; omega
  | _ + 3 => simp only [actO, actT, actH]; omega
theorem act_g (k : Nat) (q : Int) (h g : Nat) : actG k q h g ≤ g + h := by
  have h2 := mvN_le q h
  match k with
  | 0 => simp only [actG]; omega
  | 1 => simp only [actG]; omega
  | 2 => simp only [actG]; omega
  | _ + 3 => simp only [actG]; omega

theorem cred_ret {a b c d e : Int} {o t h g n : Nat} (h1 : a = o) (h2 : b = t) (h3 : c = h) (h4 : d = g) (h5 : e = n) :
    Ending.returned (.tuple #[.agg #[.int .i64 a, .int .i64 b, .int .i64 c, .int .i64 d], .int .i64 e]) = .returned (.tuple #[credV o t h g, .int .i64 (n : Int)]) := by subst h1 h2 h3 h4 h5; rfl
theorem mvE_neg {q : Int} {k : Nat} (h : q < 0) : mvE q k = 1 := by simp [mvE, h]
theorem mvE_more {q : Int} {k : Nat} (h : (k : Int) < q) : mvE q k = 7 := by unfold mvE; rw [if_neg (by omega), if_pos h]
theorem mvN_neg {q : Int} {k : Nat} (h : q < 0) : mvN q k = 0 := by unfold mvN; rw [if_neg (by omega)]; omega
theorem mvN_more {q : Int} {k : Nat} (h : (k : Int) < q) : mvN q k = 0 := by simp [mvN, h]

set_option maxRecDepth 20000 in
set_option maxHeartbeats 2000000 in
theorem rdo_any (w : World) (k : Nat) (hk : k < 4) (q : Int) (o t h g : Nat) (hs : o + t + h ≤ 65536) (hg : g + 65536 ≤ 4611686018427387904) :
    Calls Try.prog 9 #[credV o t h g, .int .i64 (k : Int), .int .i64 q] w fun e w' => e = .returned (.tuple #[credV (actO k q o t h) (actT k q o t h) (actH k q o t h) (actG k q h g), .int .i64 (actA k q o t h : Nat)]) ∧ Below w.heap.size w w' := by
  have fin : ∀ (a b c d : Int), ((w.alloc (.cells #[.int .i64 (o : Int), .int .i64 (t : Int), .int .i64 (h : Int), .int .i64 (g : Int)] 29)).alloc (.cells #[.int .i64 a, .int .i64 b, .int .i64 c, .int .i64 d] 29)).heap[w.heap.size + 1]? = some (.cells #[.int .i64 a, .int .i64 b, .int .i64 c, .int .i64 d] 29 (0, 0)) ∧
      Below w.heap.size w ((w.alloc (.cells #[.int .i64 (o : Int), .int .i64 (t : Int), .int .i64 (h : Int), .int .i64 (g : Int)] 29)).alloc (.cells #[.int .i64 a, .int .i64 b, .int .i64 c, .int .i64 d] 29)) := by
    intro a b c d
    have he := World.alloc_heap_new (w.alloc (.cells #[.int .i64 (o : Int), .int .i64 (t : Int), .int .i64 (h : Int), .int .i64 (g : Int)] 29)) (.cells #[.int .i64 a, .int .i64 b, .int .i64 c, .int .i64 d] 29)
    rw [World.size_alloc] at he
    exact ⟨he, ((Below.refl _ w).alloc (Nat.le_refl _) _).alloc (by simp) _⟩
  have FIN := Lib.hid fin
  clear fin
  rw [show credV o t h g = .agg #[.int .i64 (o : Int), .int .i64 (t : Int), .int .i64 (h : Int), .int .i64 (g : Int)] from rfl]
  match k, hk with
  | 0, _ =>
    simp only [actO, actT, actH, actG, actA]
    by_cases h1 : q < 0
    · have hu : min q.toNat o = 0 := by omega
      rw [hu]
      clear hu
      go_enter Try.func9, Try.ntmps9
      go_wp2_with fail
      refine bodyPost_ret (results_row_tmp4 rfl _ _ (w.heap.size + 1) 29 _ (0, 0) _ rfl (FIN.out _ _ _ _).1 Try.underlying29 rfl (by kernel_rfl)) rfl ?_
      refine ⟨cred_ret ?_ ?_ ?_ ?_ ?_, (FIN.out _ _ _ _).2⟩
      all_goals (first | rfl | omega)
    · by_cases h2 : (o : Int) < q
      · have hu : min q.toNat o = o := by omega
        rw [hu]
        clear hu
        go_enter Try.func9, Try.ntmps9
        go_wp2_with fail
        refine bodyPost_ret (results_row_tmp4 rfl _ _ (w.heap.size + 1) 29 _ (0, 0) _ rfl (FIN.out _ _ _ _).1 Try.underlying29 rfl (by kernel_rfl)) rfl ?_
        refine ⟨cred_ret ?_ ?_ ?_ ?_ ?_, (FIN.out _ _ _ _).2⟩
        all_goals (first | rfl | omega)
      · obtain ⟨n, rfl⟩ : ∃ n : Nat, q = (n : Int) := ⟨q.toNat, by omega⟩
        have hu : min (n : Int).toNat o = n := by omega
        rw [hu]
        clear hu
        go_enter Try.func9, Try.ntmps9
        go_wp2_with fail
        refine bodyPost_ret (results_row_tmp4 rfl _ _ (w.heap.size + 1) 29 _ (0, 0) _ rfl (FIN.out _ _ _ _).1 Try.underlying29 rfl (by kernel_rfl)) rfl ?_
        refine ⟨cred_ret ?_ ?_ ?_ ?_ ?_, (FIN.out _ _ _ _).2⟩
        all_goals (first | rfl | omega)
  | 1, _ =>
    simp only [actO, actT, actH, actG, actA]
    by_cases h1 : q < 0
    · rw [mvE_neg h1, mvN_neg h1]
      go_enter Try.func9, Try.ntmps9
      go_wp2_with fail
      refine bodyPost_ret (results_row_tmp4 rfl _ _ (w.heap.size + 1) 29 _ (0, 0) _ rfl (FIN.out _ _ _ _).1 Try.underlying29 rfl (by kernel_rfl)) rfl ?_
      refine ⟨cred_ret ?_ ?_ ?_ ?_ ?_, (FIN.out _ _ _ _).2⟩
      all_goals (first | rfl | omega)
    · by_cases h2 : (t : Int) < q
      · rw [mvE_more h2, mvN_more h2]
        go_enter Try.func9, Try.ntmps9
        go_wp2_with fail
        refine bodyPost_ret (results_row_tmp4 rfl _ _ (w.heap.size + 1) 29 _ (0, 0) _ rfl (FIN.out _ _ _ _).1 Try.underlying29 rfl (by kernel_rfl)) rfl ?_
        refine ⟨cred_ret ?_ ?_ ?_ ?_ ?_, (FIN.out _ _ _ _).2⟩
        all_goals (first | rfl | omega)
      · obtain ⟨n, rfl⟩ : ∃ n : Nat, q = (n : Int) := ⟨q.toNat, by omega⟩
        have hn : n ≤ t := by omega
        rw [mvE_ok hn, mvN_ok hn]
        go_enter Try.func9, Try.ntmps9
        go_wp2_with fail
        refine bodyPost_ret (results_row_tmp4 rfl _ _ (w.heap.size + 1) 29 _ (0, 0) _ rfl (FIN.out _ _ _ _).1 Try.underlying29 rfl (by kernel_rfl)) rfl ?_
        refine ⟨cred_ret ?_ ?_ ?_ ?_ ?_, (FIN.out _ _ _ _).2⟩
        all_goals (first | rfl | omega)
  | 2, _ =>
    simp only [actO, actT, actH, actG, actA]
    by_cases h1 : q < 0
    · rw [mvE_neg h1, mvN_neg h1]
      go_enter Try.func9, Try.ntmps9
      go_wp2_with fail
      refine bodyPost_ret (results_row_tmp4 rfl _ _ (w.heap.size + 1) 29 _ (0, 0) _ rfl (FIN.out _ _ _ _).1 Try.underlying29 rfl (by kernel_rfl)) rfl ?_
      refine ⟨cred_ret ?_ ?_ ?_ ?_ ?_, (FIN.out _ _ _ _).2⟩
      all_goals (first | rfl | omega)
    · by_cases h2 : (t : Int) < q
      · rw [mvE_more h2, mvN_more h2]
        go_enter Try.func9, Try.ntmps9
        go_wp2_with fail
        refine bodyPost_ret (results_row_tmp4 rfl _ _ (w.heap.size + 1) 29 _ (0, 0) _ rfl (FIN.out _ _ _ _).1 Try.underlying29 rfl (by kernel_rfl)) rfl ?_
        refine ⟨cred_ret ?_ ?_ ?_ ?_ ?_, (FIN.out _ _ _ _).2⟩
        all_goals (first | rfl | omega)
      · obtain ⟨n, rfl⟩ : ∃ n : Nat, q = (n : Int) := ⟨q.toNat, by omega⟩
        have hn : n ≤ t := by omega
        rw [mvE_ok hn, mvN_ok hn]
        go_enter Try.func9, Try.ntmps9
        go_wp2_with fail
        refine bodyPost_ret (results_row_tmp4 rfl _ _ (w.heap.size + 1) 29 _ (0, 0) _ rfl (FIN.out _ _ _ _).1 Try.underlying29 rfl (by kernel_rfl)) rfl ?_
        refine ⟨cred_ret ?_ ?_ ?_ ?_ ?_, (FIN.out _ _ _ _).2⟩
        all_goals (first | rfl | omega)
  | 3, _ =>
    simp only [actO, actT, actH, actG, actA]
    by_cases h1 : q < 0
    · rw [mvE_neg h1, mvN_neg h1]
      go_enter Try.func9, Try.ntmps9
      go_wp2_with fail
      refine bodyPost_ret (results_row_tmp4 rfl _ _ (w.heap.size + 1) 29 _ (0, 0) _ rfl (FIN.out _ _ _ _).1 Try.underlying29 rfl (by kernel_rfl)) rfl ?_
      refine ⟨cred_ret ?_ ?_ ?_ ?_ ?_, (FIN.out _ _ _ _).2⟩
      all_goals (first | rfl | omega)
    · by_cases h2 : (h : Int) < q
      · rw [mvE_more h2, mvN_more h2]
        go_enter Try.func9, Try.ntmps9
        go_wp2_with fail
        refine bodyPost_ret (results_row_tmp4 rfl _ _ (w.heap.size + 1) 29 _ (0, 0) _ rfl (FIN.out _ _ _ _).1 Try.underlying29 rfl (by kernel_rfl)) rfl ?_
        refine ⟨cred_ret ?_ ?_ ?_ ?_ ?_, (FIN.out _ _ _ _).2⟩
        all_goals (first | rfl | omega)
      · obtain ⟨n, rfl⟩ : ∃ n : Nat, q = (n : Int) := ⟨q.toNat, by omega⟩
        have hn : n ≤ h := by omega
        rw [mvE_ok hn, mvN_ok hn]
        go_enter Try.func9, Try.ntmps9
        go_wp2_with fail
        refine bodyPost_ret (results_row_tmp4 rfl _ _ (w.heap.size + 1) 29 _ (0, 0) _ rfl (FIN.out _ _ _ _).1 Try.underlying29 rfl (by kernel_rfl)) rfl ?_
        refine ⟨cred_ret ?_ ?_ ?_ ?_ ?_, (FIN.out _ _ _ _).2⟩
        all_goals (first | rfl | omega)

end Go.Proofs.Ytabikfckmjfllaa
