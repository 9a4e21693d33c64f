/- Slices of bytes: what they read as; parts of them; bytes behind others (append), as a step of a walk, in a round and outside. -/
import Derived.Test.YtnmjdpmfmbgoeaaRRRByteRows
import Derived.Test.YtnmjdpmfmbgoeaaRRRCellMem
import Derived.Test.YtnmjdpmfmbgoeaaRRRRangeLaw
import Derived.OwnWalkIn
import Derived.DataElems
import Derived.Laws.CopyOwn
import Derived.Maps.AppendAt
namespace Go.Proofs.YtnmjdpmfmbgoeaaRRR
open Go.ChangeShapes Go.WideShapes Go.ChangeAt Go.RowKit
set_option linter.unusedVariables false
set_option maxRecDepth 100000

/-- The slice v reads as xs. -/
def RD (W : World) (v : Value) (xs : List UInt8) : Prop :=
  ∃ p cap, v = .slice p xs.length cap ∧ xs.length ≤ cap ∧ cap ≤ maxLen ∧ (p = none → cap = 0) ∧ ∀ ad, p = some ad → ∀ (i : Nat) (b : UInt8), xs[i]? = some b → W.cell? (ad.add i) = some (.int .u8 (b.toNat : Int))

theorem addr_add_block (ad : Addr) (i : Nat) : (ad.add i).block = ad.block := by
  cases i with
  | zero => simp [Addr.add_zero']
  | succ n => simp [Addr.add_succ']

theorem RD.nil (W : World) : RD W (.slice none 0 0) [] := ⟨none, 0, rfl, Nat.le_refl _, by decide, fun _ => rfl, fun ad h => by cases h⟩
theorem RD.kept {W W' : World} {v : Value} {xs : List UInt8} (h : RD W v xs) (hk : ∀ k, v.ownBlock = some k → W'.heap[k]? = W.heap[k]?) : RD W' v xs := by
  obtain ⟨p, cap, rfl, h1, h2, h3, h4⟩ := h
  refine ⟨p, cap, rfl, h1, h2, h3, fun ad hp i b hb => ?_⟩
  subst hp
  refine (World.cell?_of_block ?_).trans (h4 ad rfl i b hb)
  rw [addr_add_block]
  exact hk _ rfl
theorem RD.lt {W : World} {v : Value} {xs : List UInt8} (h : RD W v xs) (hx : xs ≠ []) : ∃ k, v.ownBlock = some k ∧ k < W.heap.size := by
  obtain ⟨p, cap, rfl, h1, h2, h3, h4⟩ := h
  cases p with
  | none => exact absurd (List.eq_nil_of_length_eq_zero (by have := h3 rfl; omega)) hx
  | some ad =>
    cases xs with
    | nil => exact absurd rfl hx
    | cons b xs =>
      have := World.block_lt_of_cell? W _ (h4 ad rfl 0 b rfl)
      rw [addr_add_block] at this
      exact ⟨_, rfl, this⟩
theorem RD.same {W W' : World} {v : Value} {xs : List UInt8} (h : RD W v xs) (hk : ∀ k, v.ownBlock = some k → k < W.heap.size → W'.heap[k]? = W.heap[k]?) : RD W' v xs := by
  by_cases hx : xs = []
  · subst hx
    obtain ⟨p, cap, rfl, h1, h2, h3, h4⟩ := h
    exact ⟨p, cap, rfl, h1, h2, h3, fun ad hp i b hb => by simp at hb⟩
  · obtain ⟨k, hk1, hk2⟩ := h.lt hx
    exact h.kept fun k' hk' => by
      obtain rfl : k = k' := Option.some.inj (hk1.symm.trans hk')
      exact hk _ hk1 hk2
theorem RD.keep {W W' : World} {v : Value} {xs : List UInt8} (h : RD W v xs) (hk : xs ≠ [] → ∀ k, v.ownBlock = some k → W'.heap[k]? = W.heap[k]?) : RD W' v xs := by
  by_cases hx : xs = []
  · subst hx
    obtain ⟨p, cap, rfl, h1, h2, h3, h4⟩ := h
    exact ⟨p, cap, rfl, h1, h2, h3, fun ad hp i b hb => by simp at hb⟩
  · exact h.kept (hk hx)
theorem RD.below {W W' : World} {v : Value} {xs : List UInt8} (h : RD W v xs) (hb : Below W.heap.size W W') : RD W' v xs := h.same fun k _ hk => hb.block k hk
theorem RD.len {W : World} {p : Option Addr} {n c : Nat} {xs : List UInt8} (h : RD W (.slice p n c) xs) : n = xs.length := by
  obtain ⟨_, _, e, _⟩ := h
  cases e
  rfl
/-- A part of it. -/
theorem RD.part {W : World} {p : Option Addr} {n c : Nat} {xs : List UInt8} (h : RD W (.slice p n c) xs) {i j m : Nat} (hij : i ≤ j) (hj : j ≤ xs.length) (hm : j ≤ m) (hm' : m ≤ c) : RD W (sliced p i j m 1) ((xs.take j).drop i) := by
  obtain ⟨p', c', e, h1, h2, h3, h4⟩ := h
  cases e
  have hl : ((xs.take j).drop i).length = j - i := by simp; omega
  unfold sliced
  by_cases hc : m = i
  · rw [if_pos hc]
    refine ⟨p, m - i, by rw [hl], by omega, by omega, fun hp => by have := h3 hp; omega, fun ad hp k b hb => ?_⟩
    have := (List.getElem?_eq_some_iff.1 hb).1
    omega
  · rw [if_neg hc]
    refine ⟨_, m - i, by rw [hl], by omega, by omega, fun hp => ?_, fun ad hp k b hb => ?_⟩
    · cases p with
      | none => have := h3 rfl; omega
      | some a => simp at hp
    · cases p with
      | none => simp at hp
      | some a =>
        simp only [Option.map_some, Option.some.injEq] at hp
        subst hp
        rw [Addr.add_add]
        rw [List.getElem?_drop] at hb
        have hlt := (List.getElem?_eq_some_iff.1 hb).1
        rw [List.getElem?_take] at hb
        split at hb
        · simpa using h4 a rfl (i + k) b hb
        · simp at hb
theorem sliced_ownBlock {p : Option Addr} {i j m : Nat} {k : Nat} (h : (sliced p i j m 1).ownBlock = some k) : ∃ ad, p = some ad ∧ ad.block = k := by
  unfold sliced at h
  cases p with
  | none => split at h <;> simp [Value.ownBlock] at h
  | some a =>
    refine ⟨a, rfl, ?_⟩
    split at h
    · simpa [Value.ownBlock] using h
    · simpa [Value.ownBlock, addr_add_block] using h
/-- An own row reads as its bytes. -/
theorem RD.of_own {W : World} {base : Nat} {v : Value} {xs : List UInt8} {n : Nat} (h : W.ownsRow base 5 1 v n (bv xs)) : RD W v xs := by
  have h0 := h.1
  rw [bv_len] at h0
  rcases h.2 with ⟨rfl, hn⟩ | ⟨g, cap, cur, rfl, _, hh, h1, h2, h3, h4⟩
  · obtain rfl : xs = [] := List.eq_nil_of_length_eq_zero (by omega)
    exact RD.nil W
  · obtain rfl : n = xs.length := by omega
    refine ⟨_, cap, rfl, h1, h2, (fun h => by cases h), fun ad hp i b hb => ?_⟩
    cases hp
    exact h.cells (g := g) rfl i _ (by simp [bv, hb])
theorem bv_get (xs : List UInt8) (j : Nat) (u : Value) (h : (bv xs)[j]? = some u) : ∃ b, xs[j]? = some b ∧ u = .int .u8 (b.toNat : Int) := by
  simp only [bv, List.getElem?_map] at h
  cases hx : xs[j]? with
  | none => simp [hx] at h
  | some b => exact ⟨b, rfl, by simpa [hx] using h.symm⟩
theorem bv_one (xs : List UInt8) (u : Value) (h : u ∈ bv xs) : u.oneCell' = true := by
  simp only [bv, List.mem_map] at h
  obtain ⟨b, _, rfl⟩ := h
  rfl
theorem bv_app (xs ys : List UInt8) : bv xs ++ bv ys = bv (xs ++ ys) := by simp [bv]


theorem step_append_run {P : Program} {ops : Array Oper} {o : Oper} {a : Act} {w : World} {K : Act → World → Prop} {Q : Exit → Act → World → Prop} {E : Prop}
    (hg : o.guard = none) (s x : Operand) (t : TypeId) (hop : o.op = Op.call { callee := Callee.builtin Builtin.append, args := #[s, x], argTypes := #[t, t] })
    (v u v' : Value) (w' : World) (hs : a.eval s = v) (hx : a.eval x = u) (hrun : (Builtin.append_ #[t, t] o.type #[v, u]).run P w = .ok v' w')
    (hK : K (a.put o.dst v') w') : if Region.wanted o (yielded ops a.tmps) = true then Oper.wp P o a w K Q else E := by
  have hw : Region.wanted o (yielded ops a.tmps) = true := by simp [Region.wanted, hg]
  rw [if_pos hw]
  unfold Oper.wp
  simp [execOp, hop, resolve, invoke, builtin, hs, hx, hrun, Result.andThen]
  exact hK

/-- Bytes behind others, onto a row of the call's own. -/
theorem run_append_rd (w : World) (ty : TypeId) (base : Nat) (v u : Value) (k : Nat) (xs ys : List UInt8) (hown : w.ownsRow base 5 1 v k (bv xs)) (hu : RD w u ys) (hb : xs.length + ys.length ≤ 140737488355328) (hbase : base ≤ w.heap.size) :
    ∃ v' w', (Builtin.append_ #[34, 34] ty #[v, u]).run Try.prog w = .ok v' w' ∧ w'.ownsRow base 5 1 v' (xs ++ ys).length (bv (xs ++ ys)) ∧ w.grownBy w' v.ownBlock := by
  have hk : k = xs.length := by have := hown.1; rw [bv_len] at this; omega
  subst hk
  obtain ⟨i0, hi, hz0, hz1, hz2⟩ := info_parts byte_info
  obtain ⟨p, cap, rfl, h1, h2, h3, h4⟩ := hu
  cases p with
  | none =>
    have hc := h3 rfl
    obtain rfl : ys = [] := List.eq_nil_of_length_eq_zero (by omega)
    subst hc
    refine ⟨v, w, run_append_owned_none w base 34 ty 5 i0 1 Try.underlying34 hi v _ _ hown, by simpa using hown, ⟨rfl, rfl, rfl, Nat.le_refl _, fun _ _ _ => rfl⟩⟩
  | some ad =>
    obtain ⟨v', w', r0, r1, r2, _⟩ := run_append_own (P := Try.prog) w base 34 ty 5 i0 _ 1 1 Try.underlying34 hi hz0 hz1 hz2 rfl (by decide) v _ _ hown ad ys.length cap (bv ys) (by simp [bv])
      (fun j u hj => by obtain ⟨b, hb1, rfl⟩ := bv_get ys j u hj; exact h4 ad rfl j b hb1) (bv_one ys) (by simp only [maxLen]; omega) (by omega) hbase
    exact ⟨v', w', r0, by rw [List.length_append, ← bv_app]; exact r1, r2⟩
theorem wpList_append_rd {w : World} {ops : Array Oper} {rest : List Oper} {o : Oper} {a : Act} {Q : Exit → Act → World → Prop}
    (hg : o.guard = none) (s x : Operand) (hop : o.op = Op.call { callee := Callee.builtin Builtin.append, args := #[s, x], argTypes := #[34, 34] })
    (base : Nat) (v u : Value) (k : Nat) (xs ys : List UInt8) (hs : a.eval s = v) (hx : a.eval x = u) (hown : w.ownsRow base 5 1 v k (bv xs)) (hu : RD w u ys) (hb : xs.length + ys.length ≤ 140737488355328) (hbase : base ≤ w.heap.size)
    (hK : ∀ v' w', w'.ownsRow base 5 1 v' (xs ++ ys).length (bv (xs ++ ys)) → w.grownBy w' v.ownBlock → wpList Try.prog ops Q rest (a.put o.dst v') w') :
    wpList Try.prog ops Q (o :: rest) a w := by
  refine wpList_plain hg fun K hK' => ?_
  obtain ⟨v', w', hrun, r1, r2⟩ := run_append_rd w o.type base v u k xs ys hown hu hb hbase
  unfold Oper.wp
  simp [execOp, hop, resolve, invoke, builtin, hs, hx, hrun, Result.andThen]
  exact hK' _ _ (hK v' w' r1 r2)
theorem wpListIn_append_rd {F : Fence} {n : Nat} {w : World} {ops : Array Oper} {rest : List Oper} {o : Oper} {a : Act} {Q : Exit → Act → World → Prop}
    (hg : o.guard = none) (s x : Operand) (hop : o.op = Op.call { callee := Callee.builtin Builtin.append, args := #[s, x], argTypes := #[34, 34] })
    (base : Nat) (v u : Value) (k : Nat) (xs ys : List UInt8) (hs : a.eval s = v) (hx : a.eval x = u) (hown : w.ownsRow base 5 1 v k (bv xs)) (hu : RD w u ys) (hb : xs.length + ys.length ≤ 140737488355328) (hbase : base ≤ w.heap.size)
    (hK : ∀ v' w', w'.ownsRow base 5 1 v' (xs ++ ys).length (bv (xs ++ ys)) → w.grownBy w' v.ownBlock → wpListIn F n Try.prog ops Q rest (a.put o.dst v') w') :
    wpListIn F n Try.prog ops Q (o :: rest) a w := by
  refine wpListIn_plain hg fun K hK' => ?_
  obtain ⟨v', w', hrun, r1, r2⟩ := run_append_rd w o.type base v u k xs ys hown hu hb hbase
  unfold Oper.wpIn
  refine ⟨?_, ?_⟩
  · simp [Oper.about, hop, resolve, Target.leads, Sem.run_pure]
  · rw [Oper.semAt_plain F _ _ (by rw [hop]; intro c hc'; cases hc')]
    simp [execOp, hop, resolve, invoke, builtin, hs, hx, hrun, Result.andThen]
    exact hK' _ _ (hK v' w' r1 r2)


/-- The same where there is room. -/
theorem run_append_fit (w : World) (ty : TypeId) (base g cap : Nat) (u : Value) (xs ys : List UInt8) (hown : w.ownsRow base 5 1 (.slice (some ⟨g, 0, none⟩) xs.length cap) xs.length (bv xs)) (hu : RD w u ys) (hb : xs.length + ys.length ≤ cap) :
    ∃ w', (Builtin.append_ #[34, 34] ty #[.slice (some ⟨g, 0, none⟩) xs.length cap, u]).run Try.prog w = .ok (.slice (some ⟨g, 0, none⟩) (xs ++ ys).length cap) w' ∧ w'.ownsRow base 5 1 (.slice (some ⟨g, 0, none⟩) (xs ++ ys).length cap) (xs ++ ys).length (bv (xs ++ ys)) ∧ w.grownBy w' (some g) := by
  obtain ⟨i0, hi, hz0, hz1, hz2⟩ := info_parts byte_info
  obtain ⟨p, c, rfl, h1, h2, h3, h4⟩ := hu
  cases p with
  | none =>
    have hc := h3 rfl
    obtain rfl : ys = [] := List.eq_nil_of_length_eq_zero (by omega)
    subst hc
    exact ⟨w, by simpa using run_append_owned_none w base 34 ty 5 i0 1 Try.underlying34 hi _ _ _ hown, by simpa using hown, ⟨rfl, rfl, rfl, Nat.le_refl _, fun _ _ _ => rfl⟩⟩
  | some ad =>
    obtain ⟨w', r0, r1, r2⟩ := run_append_fits (P := Try.prog) w base 34 ty 5 i0 1 Try.underlying34 hi hz1 g xs.length cap _ hown ad ys.length c (bv ys) (by simp [bv])
      (fun j u hj => by obtain ⟨b, hb1, rfl⟩ := bv_get ys j u hj; exact h4 ad rfl j b hb1) (bv_one ys) hb
    exact ⟨w', by rw [List.length_append]; exact r0, by rw [List.length_append, ← bv_app]; exact r1, r2⟩
theorem wpListIn_append_fit {F : Fence} {n : Nat} {w : World} {ops : Array Oper} {rest : List Oper} {o : Oper} {a : Act} {Q : Exit → Act → World → Prop}
    (hg : o.guard = none) (s x : Operand) (hop : o.op = Op.call { callee := Callee.builtin Builtin.append, args := #[s, x], argTypes := #[34, 34] })
    (base g cap : Nat) (u : Value) (xs ys : List UInt8) (hs : a.eval s = .slice (some ⟨g, 0, none⟩) xs.length cap) (hx : a.eval x = u) (hown : w.ownsRow base 5 1 (.slice (some ⟨g, 0, none⟩) xs.length cap) xs.length (bv xs)) (hu : RD w u ys) (hb : xs.length + ys.length ≤ cap)
    (hK : ∀ w', w'.ownsRow base 5 1 (.slice (some ⟨g, 0, none⟩) (xs ++ ys).length cap) (xs ++ ys).length (bv (xs ++ ys)) → w.grownBy w' (some g) → wpListIn F n Try.prog ops Q rest (a.put o.dst (.slice (some ⟨g, 0, none⟩) (xs ++ ys).length cap)) w') :
    wpListIn F n Try.prog ops Q (o :: rest) a w := by
  refine wpListIn_plain hg fun K hK' => ?_
  obtain ⟨w', hrun, r1, r2⟩ := run_append_fit w o.type base g cap u xs ys hown hu hb
  unfold Oper.wpIn
  refine ⟨?_, ?_⟩
  · simp [Oper.about, hop, resolve, Target.leads, Sem.run_pure]
  · rw [Oper.semAt_plain F _ _ (by rw [hop]; intro c hc'; cases hc')]
    simp only [execOp, hop, resolve, invoke, builtin]
    simp [hs, hx, hrun, Result.andThen]
    exact hK' _ _ (by simpa using hK w' r1 r2)

/-- ys laid over cs from place f on. -/
def spl (cs : List UInt8) (f : Nat) (ys : List UInt8) : List UInt8 := cs.take f ++ ys ++ cs.drop (f + ys.length)
theorem spl_len (cs : List UInt8) (f : Nat) (ys : List UInt8) (h : f + ys.length ≤ cs.length) : (spl cs f ys).length = cs.length := by simp [spl]; omega
theorem spl_get (cs : List UInt8) (f : Nat) (ys : List UInt8) (h : f + ys.length ≤ cs.length) (i : Nat) : (spl cs f ys)[i]? = if f ≤ i ∧ i < f + ys.length then ys[i - f]? else cs[i]? := by
  unfold spl
  by_cases h1 : i < f
  · rw [if_neg (by omega), List.append_assoc, List.getElem?_append_left (by simp; omega), List.getElem?_take, if_pos h1]
  · by_cases h2 : i < f + ys.length
    · rw [if_pos (by omega), List.append_assoc, List.getElem?_append_right (by simp; omega), List.getElem?_append_left (by simp; omega)]
      congr 1
      simp; omega
    · rw [if_neg (by omega), List.getElem?_append_right (by simp; omega), List.getElem?_drop]
      congr 1
      simp; omega
/-- Bytes are copied into a part of a row. -/
theorem run_copy_rd (W : World) (ty : TypeId) (M : Nat) (cs ys : List UInt8) (f t : Nat) (sv : Value) (hM : W.heap[M]? = some (.cells (bv cs).toArray 5 (0, 0))) (hft : f ≤ t) (ht : t ≤ cs.length) (hs : RD W sv ys) :
    (Builtin.copy_ #[34, 34] ty #[sliced (some ⟨M, 0, none⟩) f t t 1, sv]).run Try.prog W = .ok (.int .i64 (min ys.length (t - f) : Nat)) (W.setRow M (bv (spl cs f (ys.take (min ys.length (t - f))))).toArray) := by
  have hsz : (Try.prog.info? 5).map (·.size) = some 1 := by
    obtain ⟨i0, hi, hz0, hz1, hz2⟩ := info_parts byte_info
    rw [hi]; simp [hz1]
  obtain ⟨p, cap, rfl, h1, h2, h3, h4⟩ := hs
  by_cases hn : min ys.length (t - f) = 0
  · rw [hn]
    have e : spl cs f (ys.take 0) = cs := by simp [spl]
    rw [e, setRow_self W M _ _ _ hM]
    unfold sliced
    exact run_copy_none W 34 34 ty 5 _ p _ _ _ _ Try.underlying34 hsz hn
  · have hne : ¬ t = f := by omega
    cases p with
    | none => have := h3 rfl; omega
    | some ad =>
      have hl : (bv (ys.take (min ys.length (t - f)))).length = min ys.length (t - f) := by rw [bv_len, List.length_take]; omega
      have e : sliced (some ⟨M, 0, none⟩) f t t 1 = .slice (some ⟨M, f, none⟩) (t - f) (t - f) := by
        unfold sliced
        rw [if_neg hne]
        simp [Addr.add_lit]
      rw [e]
      have := run_copy_row (P := Try.prog) W 34 34 ty 5 M f (t - f) (t - f) ad ys.length cap (bv cs).toArray 5 (bv (ys.take (min ys.length (t - f)))) Try.underlying34 hsz hM hl
        (fun j u hj => by
          obtain ⟨b, hb1, rfl⟩ := bv_get _ j u hj
          rw [List.getElem?_take] at hb1
          split at hb1
          · exact h4 ad rfl j b hb1
          · cases hb1) (by rw [hl, List.size_toArray, bv_len]; omega) (bv_one _)
      rw [this, hl]
      congr 3
      simp [spl, bv]
/-- The same for a walk: the builtin as a letter. -/
theorem copy_rd (W : World) (ty : TypeId) (M : Nat) (cs ys : List UInt8) (f t : Nat) (sv : Value) (hM : W.heap[M]? = some (.cells (bv cs).toArray 5 (0, 0))) (hft : f ≤ t) (ht : t ≤ cs.length) (hs : RD W sv ys) :
    ∃ F, Builtin.copy_ #[34, 34] ty #[sliced (some ⟨M, 0, none⟩) f t t 1, sv] = F ∧ F.run Try.prog W = .ok (.int .i64 (min ys.length (t - f) : Nat)) (W.setRow M (bv (spl cs f (ys.take (min ys.length (t - f))))).toArray) :=
  ⟨_, rfl, run_copy_rd W ty M cs ys f t sv hM hft ht hs⟩

/-! Parts of a slice of bytes, as equations that a walk takes from its context. -/
theorem byte_size (w : World) : (sizeOf (Try.prog.elem 34)).run Try.prog w = .ok 1 w := by
  obtain ⟨i0, hi, hz0, hz1, hz2⟩ := info_parts byte_info
  have he : Try.prog.elem 34 = 5 := by kernel_rfl
  rw [he]
  simp [sizeOf, typeInfo, hi, hz1]
theorem cut_lhm (p : Option Addr) (n c l h m : Nat) (h1 : l ≤ h) (h2 : h ≤ m) (h3 : m ≤ c) (w : World) :
    (Instr.slice 34 (.slice p n c) (some (.int .i64 (l : Int))) (some (.int .i64 (h : Int))) (some (.int .i64 (m : Int)))).run Try.prog w = .ok (sliced p l h m 1) w := by
  rw [run_slice_lhm w 34 _ _ _ Try.underlying34 .i64 .i64 .i64 l h m (by omega) (by omega) (by omega) (by omega), byte_size]
  simp [Result.andThen]
theorem cut_hm (p : Option Addr) (n c h m : Nat) (h2 : h ≤ m) (h3 : m ≤ c) (w : World) :
    (Instr.slice 34 (.slice p n c) none (some (.int .i64 (h : Int))) (some (.int .i64 (m : Int)))).run Try.prog w = .ok (sliced p 0 h m 1) w := by
  rw [run_slice_hm w 34 _ _ _ Try.underlying34 .i64 .i64 h m (by omega) (by omega) (by omega), byte_size]
  simp [Result.andThen]
theorem cut_lh (p : Option Addr) (n c l h : Nat) (h1 : l ≤ h) (h2 : h ≤ c) (w : World) :
    (Instr.slice 34 (.slice p n c) (some (.int .i64 (l : Int))) (some (.int .i64 (h : Int))) none).run Try.prog w = .ok (sliced p l h c 1) w := by
  rw [run_slice_lh w 34 _ _ _ Try.underlying34 .i64 .i64 l h (by omega) (by omega) (by omega), byte_size]
  simp [Result.andThen]
theorem cut_l (p : Option Addr) (n c l : Nat) (h1 : l ≤ n) (w : World) :
    (Instr.slice 34 (.slice p n c) (some (.int .i64 (l : Int))) none none).run Try.prog w = .ok (sliced p l n c 1) w := by
  rw [run_slice_l w 34 _ _ _ Try.underlying34 .i64 l (by omega) (by omega), byte_size]
  simp [Result.andThen]
theorem cut_h (p : Option Addr) (n c h : Nat) (h1 : h ≤ c) (w : World) :
    (Instr.slice 34 (.slice p n c) none (some (.int .i64 (h : Int))) none).run Try.prog w = .ok (sliced p 0 h c 1) w := by
  rw [run_slice_h w 34 _ _ _ Try.underlying34 .i64 h (by omega) (by omega), byte_size]
  simp [Result.andThen]

end Go.Proofs.YtnmjdpmfmbgoeaaRRR
