/- The ring's spans: the library's Collect over the parts; Clone. -/
import Derived.Test.YtbpbiliekbkciaaRingParts
namespace Go.Proofs.Ytbpbiliekbkciaa
open Go.ChangeShapes Go.WideShapes Go.ChangeAt Go.RowKit
open Go.Shelf
set_option linter.unusedVariables false
attribute [local go_sem] Oper.semAt_some

theorem row_info : (Try.prog.info? 29).map (fun i => (i.zero, i.size, i.bytes)) = some (some (.slice none 0 0), 1, 24) := by kernel_rfl
/-- One slice more at the end of a row of slices, as a step of a walk: the builtin as a letter. -/
theorem append_row (W : World) (base : Nat) (v x : Value) (k : Nat) (xs : List Value) (hx : x.oneCell' = true) (hown : W.ownsRow base 29 1 v k xs) (hk : k ≤ 1000) (hb : base ≤ W.heap.size) :
    ∃ g cap W', (Builtin.append_ #[52, 52] 52 #[v, .slice (some ⟨W.heap.size, 0, none⟩) 1 1]).run Try.prog (W.alloc (.cells #[x] 29)) = .ok (.slice (some ⟨g, 0, none⟩) (k + 1) cap) W' ∧
      W'.ownsRow base 29 1 (.slice (some ⟨g, 0, none⟩) (k + 1) cap) (k + 1) (xs ++ [x]) ∧ (W.alloc (.cells #[x] 29)).grownBy W' v.ownBlock ∧ (v.ownBlock = some g ∨ g = W.heap.size + 1) := by
  obtain ⟨i0, hi, hz0, hz1, hz2⟩ := info_parts row_info
  obtain ⟨v', w', r0, r1, r2, _, r3⟩ := run_append_own_at (P := Try.prog) (W.alloc (.cells #[x] 29)) base 52 52 29 i0 _ 1 24 Try.underlying52 hi hz0 hz1 hz2 rfl (by decide) v k xs (hown.alloc _)
    ⟨W.heap.size, 0, none⟩ 1 1 [x] rfl (cell_one_new _ _ _) (by simpa using hx) (by simp only [maxLen]; omega) (by omega) (by simp; omega)
  obtain ⟨g, cap, rfl⟩ := ownsRow_succ r1
  refine ⟨g, cap, w', r0, r1, r2, ?_⟩
  rcases r3 with r3 | r3
  · exact .inl r3.symm
  · simp [Value.ownBlock] at r3
    exact .inr r3

theorem sel_slice (M N h skip n j : Nat) : ∃ p l c, sel (partA M N h skip n) (partB M N h skip n) j = .slice p l c := by
  rw [part_sel]
  exact ⟨_, _, _, rfl⟩
theorem eql_nil (p : Option Addr) (l c : Nat) (w : World) : (binOp .eql 29 (.slice p l c) (.slice none 0 0)).run Try.prog w = .ok (.bool p.isNone) w := by
  cases p <;> rfl

/-- Behind j parts. -/
def SeqI (w : World) (B R M N h k : Nat) (j : Nat) (W : World) : Prop :=
  ∃ v, W.heap[w.heap.size]? = some (.cells #[v] 52 (0, 0)) ∧ W.ownsRow (w.heap.size + 3) 29 1 v j ([partA M N h 0 k, partB M N h 0 k].take j) ∧ v.oneCell' = true ∧ PartsSt B R M N h 0 k W ∧ Below w.heap.size w W ∧ w.heap.size + 1 ≤ W.heap.size
theorem own_one {W : World} {base k : Nat} {e : TypeId} {v : Value} {xs : List Value} (h : W.ownsRow base e 1 v k xs) : v.oneCell' = true := by
  rcases h.2 with ⟨rfl, _⟩ | ⟨g, cap, cur, rfl, _⟩ <;> rfl

theorem appendSeq_any (w : World) (B R M N h k : Nat) (hk : k ≤ N) (hN : N ≤ 65536) (hh : h < N) (hst : PartsSt B R M N h 0 k w) (hB : B + 2 < w.heap.size) (hR : R < w.heap.size) :
    Calls Try.prog 33 #[.slice none 0 0, .func (.func 32) #[] #[.pointer (some ⟨B, 0, none⟩), .pointer (some ⟨B + 1, 0, none⟩), .pointer (some ⟨B + 2, 0, none⟩)]] w fun e w' =>
      ∃ g cap, e = .returned (.slice (some ⟨g, 0, none⟩) 2 cap) ∧ w'.ownsRow w.heap.size 29 1 (.slice (some ⟨g, 0, none⟩) 2 cap) 2 [partA M N h 0 k, partB M N h 0 k] ∧ Below w.heap.size w w' := by
  refine calls_of_marks Try.func33 rfl ?_
  simp only [Try.ntmps33, List.size_toArray, List.length_cons, List.length_nil, Nat.reduceAdd, Nat.reduceSub, Array.replicate_succ, Array.replicate_zero, List.push_toArray, List.append_toArray, List.nil_append, List.cons_append]
  go_wp2_with fail
  have s0 : (w.alloc (.cells #[.slice none 0 0] 52)).heap.size = w.heap.size + 1 := by simp
  have hB0 : Below w.heap.size w (w.alloc (.cells #[.slice none 0 0] 52)) := (Below.refl _ w).alloc (Nat.le_refl _) _
  have hI0 : SeqI w B R M N h k 0 (w.alloc (.cells #[.slice none 0 0] 52)) :=
    ⟨_, new_one w _ _, World.ownsRow_nil _ _ _ _, rfl, hst.same (hB0.block _ (by omega)) (hB0.block _ (by omega)) (hB0.block _ (by omega)) (hB0.block _ (by omega)), hB0, by omega⟩
  generalize w.alloc (.cells #[.slice none 0 0] 52) = W0 at s0 hB0 hI0 ⊢
  refine wp_range (wpIn_range (gf := 32) rfl (enters_of Try.func32 (by kernel_rfl) rfl) (parts_seq B R M N h 0 k (Nat.zero_le _) hk hN hh) (fun j x hx => ?_)
    (SeqI w B R M N h k) (fun _ _ _ => False) ?_ (fun _ _ _ _ h _ => h) (fun _ _ ⟨_, _, _, _, h, _⟩ => h) hI0
    (fun j => { tmps := #[.slice none 0 0, .func (.func 32) #[] #[.pointer (some ⟨B, 0, none⟩), .pointer (some ⟨B + 1, 0, none⟩), .pointer (some ⟨B + 2, 0, none⟩)], .pointer (some ⟨w.heap.size, 0, none⟩), undef, .slice none 0 0, sel (partA M N h 0 k) (partB M N h 0 k) j,
      .func (.func 32) #[] #[.pointer (some ⟨B, 0, none⟩), .pointer (some ⟨B + 1, 0, none⟩), .pointer (some ⟨B + 2, 0, none⟩)], sel (partA M N h 0 k) (partB M N h 0 k) j, undef, undef, undef, undef, undef], defers := [] }) ?assign ?body ?done ?stop)
  · obtain ⟨rfl, _⟩ := sel_of hx
    match j with
    | 0 => rfl
    | j + 1 => rfl
  · rintro j W W' ⟨v, i1, i2, i3, i4, i5, i6⟩ hbu
    rw [s0] at hbu
    refine ⟨v, hbu.heap i1 (by omega) (by omega), own_same i2 (fun g hg => ?_), i3, i4.but hbu (by omega) (by omega), hbu.below i5 (by omega) i5.size, Nat.le_trans i6 hbu.size⟩
    have := i2.lt g hg
    exact hbu.block g (by omega) (by omega) (by omega)
  case assign =>
    intro j x W K hx hK
    obtain ⟨rfl, hj⟩ := sel_of hx
    have e : sel #[partA M N h 0 k] #[partB M N h 0 k] j = #[sel (partA M N h 0 k) (partB M N h 0 k) j] := by
      match j with
      | 0 => rfl
      | j + 1 => rfl
    rw [e]
    gi_wp2_with fail
    exact hK
  case body =>
    rintro j W ⟨v, i1, i2, i3, i4, i5, i6⟩ hj hsz
    rw [s0] at hsz ⊢
    obtain ⟨c1, c2⟩ := one_cell i1
    have hj2 : j < 2 := hj
    obtain ⟨p', l', c', hx⟩ := sel_slice M N h 0 k j
    obtain ⟨g, cap, W1, hrun, r1, r2, r3⟩ := append_row W (w.heap.size + 3) v (.slice p' l' c') j _ rfl i2 (by omega) (by omega)
    have hlt := i2.lt
    have hg : w.heap.size + 3 ≤ g := by
      rcases r3 with e | e
      · exact (hlt g e).1
      · omega
    have hO : ∀ r, r < W.heap.size → v.ownBlock ≠ some r → W1.heap[r]? = W.heap[r]? := fun r hr hv => (r2.block r (by simp; omega) (Ne.symm hv)).trans (Below.heap_alloc _ _ _ hr)
    have hv : ∀ r, r < w.heap.size + 3 → v.ownBlock ≠ some r := fun r hr e => by have := (hlt r e).1; omega
    have hz : W.heap.size ≤ W1.heap.size := by have := r2.size; simp at this; omega
    obtain ⟨d1, d2⟩ := one_cell ((hO w.heap.size (by omega) (hv _ (by omega))).trans i1)
    have htk : ([partA M N h 0 k, partB M N h 0 k].take j) ++ [.slice p' l' c'] = [partA M N h 0 k, partB M N h 0 k].take (j + 1) := by
      rw [← hx]
      match j, hj with
      | 0, _ => rfl
      | 1, _ => rfl
    have hT : ∀ r, r < W.heap.size → r < w.heap.size + 3 → r ≠ w.heap.size → (W1.setCell ⟨w.heap.size, 0, none⟩ (.slice (some ⟨g, 0, none⟩) (j + 1) cap)).heap[r]? = W.heap[r]? := fun r h1 h2 h3 =>
      (Below.heap_setCell _ _ _ _ h3).trans (hO r h1 (hv r h2))
    have hend : Held (w.heap.size + 1) False W (W1.setCell ⟨w.heap.size, 0, none⟩ (.slice (some ⟨g, 0, none⟩) (j + 1) cap)) ∧ SeqI w B R M N h k (j + 1) (W1.setCell ⟨w.heap.size, 0, none⟩ (.slice (some ⟨g, 0, none⟩) (j + 1) cap)) := by
      refine ⟨⟨by simp [World.setCell]; omega, hT _ (by omega) (by omega) (by omega), hT _ (by omega) (by omega) (by omega), fun h => h.elim⟩, ?_⟩
      refine ⟨.slice (some ⟨g, 0, none⟩) (j + 1) cap, heap_set _ ((hO w.heap.size (by omega) (hv _ (by omega))).trans i1), ?_, rfl, ?_, ?_, by simp [World.setCell]; omega⟩
      · rw [← htk]
        exact own_same r1 (fun r e => by cases e; exact Below.heap_setCell _ _ _ _ (by simp; omega))
      · exact i4.same (hT _ (by omega) (by omega) (by omega)) (hT _ (by omega) (by omega) (by omega)) (hT _ (by omega) (by omega) (by omega)) (hT _ (by omega) (by omega) (by omega))
      · exact i5.trans ⟨r2.os, r2.tape, r2.output, by simp [World.setCell]; omega, fun r hr => hT r (by omega) (by omega) (by omega)⟩
    have HE := Lib.hid hend
    have HRUN := Lib.hid hrun
    clear hend hT hO hv hlt htk r1 r2 r3 hrun
    gi_wp2_with (gi_at_builtin; refine wpListIn_append_run rfl (.tmp 8) (.tmp 10) 52 rfl _ _ _ _ rfl rfl HRUN.out ?_)
    exact HE.out
  case done =>
    rintro W ⟨v, i1, i2, i3, i4, i5, i6⟩ hD
    rw [s0] at hD ⊢
    obtain ⟨c1, c2⟩ := one_cell i1
    obtain ⟨g, cap, rfl⟩ := ownsRow_succ (k := 1) i2
    have HO := Lib.hid i2
    clear i2
    go_wp2_with fail
    refine left_mark rfl hD (results_tmp rfl _ _ _) ?_ (.inl rfl)
    have hbu : But (w.heap.size + 1) W (W.putObj (w.heap.size + 1) (.deferred none)) := But.putObj _ _ (.inl rfl) _
    refine ⟨g, cap, rfl, ?_, hbu.below i5 (by omega) i5.size⟩
    have hlt := HO.out.lt g rfl
    have := own_same (B := W.putObj (w.heap.size + 1) (.deferred none)) HO.out (fun r e => by cases e; exact hbu.block _ (by simp; omega) (by simp; omega) (by simp; omega))
    exact ⟨this.1, this.2.imp id (fun ⟨g', c', cur, e, hb, rest⟩ => ⟨g', c', cur, e, by omega, rest⟩)⟩
  case stop =>
    rintro c j W _ h _
    exact h.elim

theorem collect_any (w : World) (B R M N h k : Nat) (hk : k ≤ N) (hN : N ≤ 65536) (hh : h < N) (hst : PartsSt B R M N h 0 k w) (hB : B + 2 < w.heap.size) (hR : R < w.heap.size) :
    Calls Try.prog 30 #[.func (.func 32) #[] #[.pointer (some ⟨B, 0, none⟩), .pointer (some ⟨B + 1, 0, none⟩), .pointer (some ⟨B + 2, 0, none⟩)]] w fun e w' =>
      ∃ g cap, e = .returned (.slice (some ⟨g, 0, none⟩) 2 cap) ∧ w'.ownsRow w.heap.size 29 1 (.slice (some ⟨g, 0, none⟩) 2 cap) 2 [partA M N h 0 k, partB M N h 0 k] ∧ Below w.heap.size w w' := by
  have hc := appendSeq_any w B R M N h k hk hN hh hst hB hR
  go_enter Try.func30, Try.ntmps30
  go_wp2_with fail
  refine hc.mono ?_
  rintro e w' ⟨g, cap, rfl, h1, h2⟩
  have HO := Lib.hid h1
  clear h1 hc
  go_wp2_with fail
  go_ret
  exact ⟨g, cap, rfl, HO.out, h2⟩

/-- The library's Clone of bytes. -/
theorem clone_own (w : World) (p : Option Addr) (l c : Nat) (xs : List UInt8) (hb : RD w (.slice p l c) xs) (hl : xs.length ≤ 140737488355328) :
    Calls Try.prog 31 #[.slice p l c] w fun e w' => ∃ v, e = .returned v ∧ w'.ownsRow w.heap.size 5 1 v xs.length (bv xs) ∧ Below w.heap.size w w' := by
  have hll := hb.len
  subst hll
  cases p with
  | none =>
    obtain ⟨_, _, e, h1, h2, h3, h4⟩ := hb
    cases e
    have := h3 rfl
    subst this
    obtain rfl : xs = [] := List.eq_nil_of_length_eq_zero (by omega)
    have hq := eql_nil none 0 0
    go_enter Try.func31, Try.ntmps31
    go_wp2_with fail
    go_ret
    exact ⟨_, rfl, World.ownsRow_nil _ _ _ _, Below.refl _ _⟩
  | some ad =>
    have hq := eql_nil (some ad) xs.length c
    have hown : (w.alloc (.cells #[] 5)).ownsRow w.heap.size 5 1 (.slice (some ⟨w.heap.size, 0, none⟩) 0 0) 0 (bv []) := World.ownsRow_made w #[] 0 (Nat.le_refl _) (by decide) rfl
    obtain ⟨v', w', r0, r1, r2⟩ := run_append_rd (w.alloc (.cells #[] 5)) 29 w.heap.size _ _ 0 [] xs hown (hb.below ((Below.refl _ w).alloc (Nat.le_refl _) _)) (by simpa using hl) (by simp)
    have H0 := Lib.hid r0
    have H1 := Lib.hid r1
    have H2 := Lib.hid r2
    clear hb hown r0 r1 r2
    go_enter Try.func31, Try.ntmps31
    go_wp2_with (at_builtin; refine wpList_append_run rfl (.tmp 5) (.tmp 6) 29 rfl _ _ _ _ rfl rfl H0.out ?_)
    go_ret
    have h1 := H1.out
    refine ⟨v', rfl, by simpa using h1, ?_⟩
    exact ((Below.refl _ w).alloc (Nat.le_refl _) _).grown H2.out (by simp) (fun r e => by cases e; exact Nat.le_refl _)

theorem clone_any (w : World) (p : Option Addr) (l c : Nat) (xs : List UInt8) (hb : RD w (.slice p l c) xs) (hl : xs.length ≤ 140737488355328) :
    Calls Try.prog 31 #[.slice p l c] w fun e w' => ∃ v, e = .returned v ∧ RD w' v xs ∧ (∀ g, v.ownBlock = some g → w.heap.size ≤ g) ∧ Below w.heap.size w w' :=
  (clone_own w p l c xs hb hl).mono fun e w' ⟨v, h1, h2, h3⟩ => ⟨v, h1, RD.of_own h2, fun g hg => (h2.lt g hg).1, h3⟩
theorem own_base {W : World} {b b' n : Nat} {e : TypeId} {size : Nat} {v : Value} {xs : List Value} (h : W.ownsRow b e size v n xs) (hb : b' ≤ b) : W.ownsRow b' e size v n xs :=
  ⟨h.1, h.2.imp id (fun ⟨g, c, cur, e, hg, rest⟩ => ⟨g, c, cur, e, Nat.le_trans hb hg, rest⟩)⟩
theorem keep_s {W W' wz : World} {g R M N h k : Nat} {cs : List UInt8} {x y : Value} (hS : W.cell? ⟨g, 0, none⟩ = some x ∧ W.cell? ⟨g, 1, none⟩ = some y ∧ RingAt W R M N h k cs ∧ Below wz.heap.size wz W) (hb : Below W.heap.size W W') :
    W'.cell? ⟨g, 0, none⟩ = some x ∧ W'.cell? ⟨g, 1, none⟩ = some y ∧ RingAt W' R M N h k cs ∧ Below wz.heap.size wz W' := by
  obtain ⟨h1, h2, h3, h4⟩ := hS
  have hl := World.block_lt_of_cell? W _ h1
  exact ⟨(hb.cell hl).trans h1, (hb.cell (p := ⟨g, 1, none⟩) hl).trans h2, h3.below hb, h4.trans (hb.mono h4.size)⟩

theorem spans_own (w : World) (R M N h k : Nat) (cs : List UInt8) (H : RingAt w R M N h k cs) :
    Calls Try.prog 23 #[.pointer (some ⟨R, 0, none⟩)] w fun e w' => ∃ v1 v2 A B, e = .returned (.tuple #[v1, v2]) ∧ A ++ B = held cs h k ∧ A.length = min k (N - h) ∧ w'.ownsRow w.heap.size 5 1 v1 A.length (bv A) ∧ w'.ownsRow w.heap.size 5 1 v2 B.length (bv B) ∧ Below w.heap.size w w' := by
  have hk := H.hk
  have hh := H.hh
  have hN := H.hN
  have hl := H.lt
  have h2 := H.c2
  have hAB := parts_held (n := k) cs H.len hh
  have hpa := fun (W : World) (hW : RingAt W R M N h k cs) => partA_rd hW 0 k
  have hpb := fun (W : World) (hW : RingAt W R M N h k cs) => partB_rd hW 0 k hk
  have hlA : ((cs.take (pTo N h 0 k)).drop ((h + 0) % N)).length = min k (N - h) := by
    have := H.len
    rw [Nat.add_zero, Nat.mod_eq_of_lt hh, List.length_drop, List.length_take]
    unfold pTo
    rw [Nat.add_zero, Nat.mod_eq_of_lt hh]
    omega
  have hlB : (cs.take (pRest N h 0 k)).length ≤ 65536 := by have := H.len; rw [List.length_take]; omega
  generalize (cs.take (pTo N h 0 k)).drop ((h + 0) % N) = A at hAB hpa hlA
  generalize cs.take (pRest N h 0 k) = B at hAB hpb hlB
  obtain ⟨pA, lA, cA, eA⟩ : ∃ p l c, partA M N h 0 k = .slice p l c := ⟨_, _, _, rfl⟩
  obtain ⟨pB, lB, cB, eB⟩ : ∃ p l c, partB M N h 0 k = .slice p l c := ⟨_, _, _, rfl⟩
  have hcol := fun w1 (hst : PartsSt w.heap.size R M N h 0 k w1) h1 h2 => collect_any w1 w.heap.size R M N h k hk hN hh hst h1 h2
  rw [eA, eB] at hcol
  rw [eA] at hpa
  rw [eB] at hpb
  have hst := parts_start H 0 k
  have HH := Lib.hid H
  have HPA := Lib.hid hpa
  have HPB := Lib.hid hpb
  have HAB := Lib.hid hAB
  have HLA := Lib.hid hlA
  have HST := Lib.hid hst
  have HC := Lib.hid hcol
  clear H hpa hpb hAB hlA hst hcol eA eB
  go_enter Try.func23, Try.ntmps23
  go_wp2_with (go_at_call 26; refine (parts_any _ R 0 k).mono ?_; rintro e w' ⟨rfl, rfl⟩)
  obtain ⟨w1, hw1⟩ : ∃ w1, (((w.alloc (.cells #[.pointer (some ⟨R, 0, none⟩)] 25)).alloc (.cells #[.int .i64 0] 3)).alloc (.cells #[.int .i64 (k : Int)] 3)) = w1 := ⟨_, rfl⟩
  have s1 : w1.heap.size = w.heap.size + 3 := by rw [← hw1]; simp
  have b1 : Below w.heap.size w w1 := by rw [← hw1]; exact (((Below.refl _ w).alloc (Nat.le_refl _) _).alloc (by simp) _).alloc (by simp; omega) _
  have hc := HC.out w1 (by rw [← hw1]; exact HST.out) (by omega) (by omega)
  rw [hw1]
  refine hc.mono ?_
  rintro e w2 ⟨g, cap, rfl, hrow, hb2⟩
  have B2 : Below w.heap.size w w2 := b1.trans (hb2.mono b1.size)
  have x0 : w2.cell? ⟨g, 0, none⟩ = some (.slice pA lA cA) := hrow.cells (g := g) rfl 0 _ rfl
  have x1 : w2.cell? ⟨g, 1, none⟩ = some (.slice pB lB cB) := by have := hrow.cells (g := g) rfl 1 _ rfl; rwa [Addr.add_lit] at this
  have R2 := HH.out.below B2
  clear hc hw1 HC HST hrow h2
  go_wp2_with fail
  go_region_held3 (fun w' => w'.cell? ⟨g, 0, none⟩ = some (.slice pA lA cA) ∧ w'.cell? ⟨g, 1, none⟩ = some (.slice pB lB cB) ∧ RingAt w' R M N h k cs ∧ Below w2.heap.size w2 w')
    (first | exact ⟨x0, x1, R2.drew, (Below.refl _ w2).drew⟩ | exact keep_s (by assumption) (by assumption))
    (first
    | (go_at_call 31; refine (clone_own _ pA lA cA A ?_ ?_).mono ?_; (exact HPA.out _ (And.left (And.right (And.right (by assumption))))); (rw [HLA.out]; omega); rintro e w' ⟨vA, rfl, hrA, hbA⟩)
    | (go_at_call 31; refine (clone_own _ pB lB cB B ?_ ?_).mono ?_; (exact HPB.out _ (And.left (And.right (And.right (by assumption))))); omega; rintro e w' ⟨vB, rfl, hrB, hbB⟩))
  go_wp2_with fail
  go_ret2
  have z2 := B2.size
  have z3 : Below w.heap.size w _ := B2.drew.trans (hbA.mono z2)
  have z4 := hbA.size
  have z5 : w2.drew.heap.size = w2.heap.size := rfl
  exact ⟨vA, vB, A, B, rfl, HAB.out, HLA.out, own_base (own_same hrA (fun g hg => hbB.block g (hrA.lt g hg).2)) (by omega), own_base hrB (by omega), z3.trans (hbB.mono z3.size)⟩
theorem spans_any (w : World) (R M N h k : Nat) (cs : List UInt8) (H : RingAt w R M N h k cs) :
    Calls Try.prog 23 #[.pointer (some ⟨R, 0, none⟩)] w fun e w' => ∃ v1 v2 A B, e = .returned (.tuple #[v1, v2]) ∧ A ++ B = held cs h k ∧ A.length = min k (N - h) ∧ RD w' v1 A ∧ RD w' v2 B ∧
      (∀ g, v1.ownBlock = some g → w.heap.size ≤ g) ∧ (∀ g, v2.ownBlock = some g → w.heap.size ≤ g) ∧ Below w.heap.size w w' :=
  (spans_own w R M N h k cs H).mono fun e w' ⟨v1, v2, A, B, h1, h2, h3, h4, h5, h6⟩ => ⟨v1, v2, A, B, h1, h2, h3, RD.of_own h4, RD.of_own h5, fun g hg => (h4.lt g hg).1, fun g hg => (h5.lt g hg).1, h6⟩

end Go.Proofs.Ytbpbiliekbkciaa
