/- The ring's parts: the iterator over its two spans. -/
import Derived.Test.YtbpbiliekbkciaaRingSmall
import Derived.Test.YtbpbiliekbkciaaRingMath
import Derived.Sort.QuietIn
import Derived.Shelf.AbstractIn
namespace Go.Proofs.Ytbpbiliekbkciaa
open Go.ChangeShapes Go.WideShapes Go.ChangeAt Go.RowKit
open Go.Shelf
set_option linter.unusedVariables false
attribute [local go_sem] Oper.semAt_some

theorem parts_any (w : World) (R skip n : Nat) :
    Calls Try.prog 26 #[.pointer (some ⟨R, 0, none⟩), .int .i64 (skip : Int), .int .i64 (n : Int)] w fun e w' =>
      e = .returned (.func (.func 32) #[] #[.pointer (some ⟨w.heap.size, 0, none⟩), .pointer (some ⟨w.heap.size + 1, 0, none⟩), .pointer (some ⟨w.heap.size + 2, 0, none⟩)]) ∧
      w' = ((w.alloc (.cells #[.pointer (some ⟨R, 0, none⟩)] 25)).alloc (.cells #[.int .i64 (skip : Int)] 3)).alloc (.cells #[.int .i64 (n : Int)] 3) := by
  go_enter Try.func26, Try.ntmps26
  go_wp2_with fail
  go_ret
  exact ⟨rfl, rfl⟩

/-- What the iterator reads. -/
structure PartsSt (B R M N h skip n : Nat) (W : World) : Prop where
  b0 : W.cell? ⟨B, 0, none⟩ = some (.pointer (some ⟨R, 0, none⟩))
  b1 : W.cell? ⟨B + 1, 0, none⟩ = some (.int .i64 (skip : Int))
  b2 : W.cell? ⟨B + 2, 0, none⟩ = some (.int .i64 (n : Int))
  c0 : W.cell? ⟨R, 0, none⟩ = some (.slice (some ⟨M, 0, none⟩) N N)
  c1 : W.cell? ⟨R, 1, none⟩ = some (.int .i64 (h : Int))
theorem PartsSt.but {B R M N h skip n D : Nat} {W W' : World} (H : PartsSt B R M N h skip n W) (hb : But D W W') (h1 : B + 2 < D) (h2 : R < D) : PartsSt B R M N h skip n W' :=
  ⟨hb.cell H.b0 (by simp; omega) (by simp; omega), hb.cell H.b1 (by simp; omega) (by simp; omega), hb.cell H.b2 (by simp; omega) (by simp; omega), hb.cell H.c0 (by simp; omega) (by simp; omega), hb.cell H.c1 (by simp; omega) (by simp; omega)⟩
theorem PartsSt.same {B R M N h skip n : Nat} {W W' : World} (H : PartsSt B R M N h skip n W) (h0 : W'.heap[B]? = W.heap[B]?) (h1 : W'.heap[B + 1]? = W.heap[B + 1]?) (h2 : W'.heap[B + 2]? = W.heap[B + 2]?) (h3 : W'.heap[R]? = W.heap[R]?) : PartsSt B R M N h skip n W' :=
  ⟨(World.cell?_of_block h0).trans H.b0, (World.cell?_of_block h1).trans H.b1, (World.cell?_of_block h2).trans H.b2, (World.cell?_of_block h3).trans H.c0, (World.cell?_of_block h3).trans H.c1⟩
/-- Where the first part ends. -/
def pTo (N h skip n : Nat) : Nat := min ((h + skip) % N + n) N
/-- How much lies in the second part. -/
def pRest (N h skip n : Nat) : Nat := n - (pTo N h skip n - (h + skip) % N)
def partA (M N h skip n : Nat) : Value := sliced (some ⟨M, 0, none⟩) ((h + skip) % N) (pTo N h skip n) (pTo N h skip n) 1
def partB (M N h skip n : Nat) : Value := sliced (some ⟨M, 0, none⟩) 0 (pRest N h skip n) (pRest N h skip n) 1

/-- Behind the call of parts. -/
theorem parts_start {w : World} {R M N h k : Nat} {cs : List UInt8} (H : RingAt w R M N h k cs) (skip n : Nat) :
    PartsSt w.heap.size R M N h skip n (((w.alloc (.cells #[.pointer (some ⟨R, 0, none⟩)] 25)).alloc (.cells #[.int .i64 (skip : Int)] 3)).alloc (.cells #[.int .i64 (n : Int)] 3)) := by
  obtain ⟨w1, h1⟩ : ∃ w1, w.alloc (.cells #[.pointer (some ⟨R, 0, none⟩)] 25) = w1 := ⟨_, rfl⟩
  obtain ⟨w2, h2⟩ : ∃ w2, w1.alloc (.cells #[.int .i64 (skip : Int)] 3) = w2 := ⟨_, rfl⟩
  have s1 : w1.heap.size = w.heap.size + 1 := by rw [← h1]; simp
  have s2 : w2.heap.size = w.heap.size + 2 := by rw [← h2]; simp [s1]
  have b1 : Below w.heap.size w w1 := by rw [← h1]; exact (Below.refl _ w).alloc (Nat.le_refl _) _
  have b2 : Below w1.heap.size w1 w2 := by rw [← h2]; exact (Below.refl _ w1).alloc (Nat.le_refl _) _
  have b3 : Below w2.heap.size w2 (w2.alloc (.cells #[.int .i64 (n : Int)] 3)) := (Below.refl _ w2).alloc (Nat.le_refl _) _
  have hl := H.lt.1
  rw [h1, h2]
  refine ⟨?_, ?_, ?_, ?_, ?_⟩
  · rw [b3.cell (by simp; omega), b2.cell (by simp; omega), ← h1]; exact (one_cell (new_one w _ _)).1
  · rw [b3.cell (by simp; omega), ← h2, ← s1]; exact (one_cell (new_one w1 _ _)).1
  · rw [← s2]; exact (one_cell (new_one w2 _ _)).1
  · rw [b3.cell (by simp; omega), b2.cell (by simp; omega), b1.cell (by simp; omega)]; exact H.c0
  · rw [b3.cell (by simp; omega), b2.cell (by simp; omega), b1.cell (by simp; omega)]; exact H.c1
theorem RingAt.rd {W : World} {R M N h k : Nat} {cs : List UInt8} (H : RingAt W R M N h k cs) : RD W (.slice (some ⟨M, 0, none⟩) N N) cs := by
  refine ⟨_, N, by rw [H.len], by rw [H.len]; exact Nat.le_refl _, by have := H.hN; simp only [maxLen]; omega, (fun h => by cases h), fun ad hp i b hb => ?_⟩
  cases hp
  rw [Addr.add_lit]
  have hlt := (List.getElem?_eq_some_iff.1 hb).1
  simp [World.cell?, H.room, bv, hb]
theorem partA_rd {W : World} {R M N h k : Nat} {cs : List UInt8} (H : RingAt W R M N h k cs) (skip n : Nat) : RD W (partA M N h skip n) ((cs.take (pTo N h skip n)).drop ((h + skip) % N)) := by
  have hl := H.len
  have hh := H.hh
  have hf : (h + skip) % N < N := Nat.mod_lt _ (by omega)
  exact H.rd.part (by unfold pTo; omega) (by unfold pTo; omega) (Nat.le_refl _) (by unfold pTo; omega)
theorem partB_rd {W : World} {R M N h k : Nat} {cs : List UInt8} (H : RingAt W R M N h k cs) (skip n : Nat) (hn : n ≤ N) : RD W (partB M N h skip n) (cs.take (pRest N h skip n)) := by
  have hl := H.len
  have := H.rd.part (i := 0) (j := pRest N h skip n) (m := pRest N h skip n) (Nat.zero_le _) (by unfold pRest; omega) (Nat.le_refl _) (by unfold pRest; omega)
  rw [List.drop_zero] at this
  exact this
theorem parts_held {N h n : Nat} (cs : List UInt8) (hl : cs.length = N) (hh : h < N) : (cs.take (pTo N h 0 n)).drop ((h + 0) % N) ++ cs.take (pRest N h 0 n) = held cs h n := by
  subst hl
  unfold held pRest pTo
  rw [Nat.add_zero, Nat.mod_eq_of_lt hh]
theorem part_block {M N h skip n g k : Nat} (e : (sel (partA M N h skip n) (partB M N h skip n) g).ownBlock = some k) : k = M := by
  match g with
  | 0 => obtain ⟨ad, e1, e2⟩ := sliced_ownBlock e; cases e1; exact e2.symm
  | g + 1 => obtain ⟨ad, e1, e2⟩ := sliced_ownBlock e; cases e1; exact e2.symm

theorem part_sel (M N h skip n j : Nat) : sel (partA M N h skip n) (partB M N h skip n) j = sliced (some ⟨M, 0, none⟩) (sel ((h + skip) % N) 0 j) (sel (pTo N h skip n) (pRest N h skip n) j) (sel (pTo N h skip n) (pRest N h skip n) j) 1 := by
  match j with
  | 0 => rfl
  | j + 1 => rfl

theorem parts_seq (B R M N h skip n : Nat) (hq : skip ≤ N) (hn : n ≤ N) (hN : N ≤ 65536) (hh : h < N) :
    Seq Try.prog 32 #[.pointer (some ⟨B, 0, none⟩), .pointer (some ⟨B + 1, 0, none⟩), .pointer (some ⟨B + 2, 0, none⟩)] [#[partA M N h skip n], #[partB M N h skip n]] (PartsSt B R M N h skip n) False := by
  intro l J Jx W hJ hJx hSt hY h0
  obtain ⟨b0, b1, b2, c0, c1⟩ := hSt 0 W h0
  have hp := place_cells W R M N h skip hq hN hh c0 c1
  have hf : (h + skip) % N < N := Nat.mod_lt _ (by omega)
  have HA : Hid (partA M N h skip n = sliced (some ⟨M, 0, none⟩) ((h + skip) % N) (pTo N h skip n) (pTo N h skip n) 1) := Lib.hid rfl
  have HB : Hid (partB M N h skip n = sliced (some ⟨M, 0, none⟩) 0 (pRest N h skip n) (pRest N h skip n) 1) := Lib.hid rfl
  have ht : pTo N h skip n = min ((h + skip) % N + n) N := rfl
  have hr : pRest N h skip n = n - (pTo N h skip n - (h + skip) % N) := rfl
  generalize partA M N h skip n = pa at HA hY
  generalize partB M N h skip n = pb at HB hY
  generalize pRest N h skip n = r at HB hr
  generalize pTo N h skip n = t at HA hr ht
  generalize (h + skip) % N = f at hp hf HA ht hr
  have i1 : min ((f : Int) + (n : Int)) (N : Int) = (t : Int) := by omega
  have i2 : (n : Int) - ((t : Int) - (f : Int)) = (r : Int) := by omega
  have l1 : (f : Int) ≤ (t : Int) := by omega
  have l2 : (t : Int) ≤ (N : Int) := by omega
  have l3 : (r : Int) ≤ (N : Int) := by omega
  clear ht hr
  have hs1 := cut_lhm (some ⟨M, 0, none⟩) N N f t t (by omega) (Nat.le_refl _) (by omega)
  have hs2 := cut_hm (some ⟨M, 0, none⟩) N N r r (Nat.le_refl _) (by omega)
  rw [← HA.out] at hs1
  rw [← HB.out] at hs2
  refine callsIn_of_wp Try.func32 rfl trivial ?_ rfl
  simp only [Try.ntmps32, List.size_toArray, List.length_cons, List.length_nil, Nat.reduceAdd, Nat.reduceSub, Array.replicate_succ, Array.replicate_zero, List.push_toArray, List.append_toArray, List.nil_append, List.cons_append]
  gi_wp2_with (refine ⟨trivial, rfl, ?_⟩; gi_at_call 28; refine (callsIn_wide.2 hp).mono ?_; rintro e w' ⟨rfl, m, rfl⟩)
  gi_quiet (fail)
  gi_wp2_with fail
  obtain ⟨fn1, tm1, as1, bo1, hy1, hR1⟩ := hY 0 (W.drewN (m + nq)) _ (hJ 0 W _ h0 ⟨rfl, rfl, rfl, Nat.le_refl _, fun _ _ => rfl⟩) (Nat.le_refl _) rfl
  rw [hy1]
  gi_wp2_with fail
  refine ⟨rfl, hR1.mono ?_⟩
  rintro e W2 (⟨rfl, hJ2, hz2, -⟩ | ⟨rfl, hJx2⟩)
  · obtain ⟨d0, d1, d2, e0, e1⟩ := hSt 1 W2 hJ2
    clear b0 b1 b2 c0 c1 hs1
    gi_wp2_with fail
    obtain ⟨fn2, tm2, as2, bo2, hy2, hR2⟩ := hY 1 W2 _ hJ2 hz2 rfl
    rw [hy2]
    gi_wp2_with fail
    refine ⟨rfl, hR2.mono ?_⟩
    rintro e W3 (⟨rfl, hJ3, hz3, -⟩ | ⟨rfl, hJx3⟩)
    · gi_wp2_with fail
      go_end0
      exact ⟨⟨_, rfl⟩, .inl hJ3⟩
    · gi_wp2_with fail
      go_end0
      exact ⟨⟨_, rfl⟩, .inr ⟨2, Nat.le_refl _, hJx3⟩⟩
  · gi_wp2_with fail
    go_end0
    exact ⟨⟨_, rfl⟩, .inr ⟨1, by decide, hJx2⟩⟩

end Go.Proofs.Ytbpbiliekbkciaa
