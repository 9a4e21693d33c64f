/- Between two rounds of the program's Advance. -/
import Derived.Test.YtcmkdeejofoibaaClkIter
import Derived.Maps.OwnIn
namespace Go.Proofs.Ytcmkdeejofoibaa
open Go.ChangeShapes Go.WideShapes Go.ChangeAt Go.RowKit
open Ck
set_option linter.unusedVariables false
set_option maxRecDepth 100000

namespace Ck
theorem fires_at {l : List Tm} (ho : l.Pairwise fun a b => lt a b = true) {b : Int} {j : Nat} (h1 : ∀ t ∈ l.take j, t.due ≤ b) (h2 : ∀ t, l[j]? = some t → b < t.due) :
    l.filter (fun t => decide (t.due ≤ b)) = l.take j ∧ l.filter (fun t => decide (b < t.due)) = l.drop j := by
  have hd : ∀ t ∈ l.drop j, b < t.due := by
    intro t ht
    cases hg : l[j]? with
    | none =>
      have := List.getElem?_eq_none_iff.1 hg
      rw [List.drop_eq_nil_of_le this] at ht
      simp at ht
    | some s =>
      have hs := h2 s hg
      obtain ⟨hj, he⟩ := List.getElem?_eq_some_iff.1 hg
      have hc : l.drop j = s :: l.drop (j + 1) := by rw [List.drop_eq_getElem_cons hj, he]
      have hp : (l.drop j).Pairwise fun a b => lt a b = true := ho.sublist (List.drop_sublist j l)
      rw [hc] at hp ht
      rcases List.mem_cons.1 ht with rfl | ht
      · exact hs
      · have := lt_due ((List.pairwise_cons.1 hp).1 t ht)
        omega
  have e : l = l.take j ++ l.drop j := (List.take_append_drop j l).symm
  constructor
  · conv => lhs; rw [e]
    rw [List.filter_append, List.filter_eq_self.2 (fun t ht => decide_eq_true (h1 t ht)), List.filter_eq_nil_iff.2 (fun t ht => by have := hd t ht; simp; omega), List.append_nil]
  · conv => lhs; rw [e]
    rw [List.filter_append, List.filter_eq_nil_iff.2 (fun t ht => by have := h1 t ht; simp; omega), List.filter_eq_self.2 (fun t ht => decide_eq_true (hd t ht)), List.nil_append]
theorem wo_head {t : Tm} {l : List Tm} (h : (t :: l).Pairwise fun a b => a.id ≠ b.id) : wo (t :: l) t.id = l := by
  obtain ⟨h1, -⟩ := List.pairwise_cons.1 h
  unfold wo
  rw [List.filter_cons_of_neg (by simp)]
  exact List.filter_eq_self.2 fun s hs => by have := h1 s hs; simp; exact fun e => this e.symm
end Ck

/-- The clock has so many timers left, so many have been told; rows of the call's own lie from H on. -/
structure AdvI (w : World) (R m H : Nat) (now : Int) (rest : List Tm) (out : List Int) (W : World) : Prop where
  clk : ClkAt R m ⟨now, rest⟩ W
  ptr : W.heap[w.heap.size]? = some (.cells #[.pointer (some ⟨R, 0, none⟩)] 24 (0, 0))
  cell : ∃ p n c, W.heap[w.heap.size + 1]? = some (.cells #[.slice p n c] 37 (0, 0)) ∧ W.ownsRow H 3 1 (.slice p n c) out.length (iv out)
  mv : Mv15 (fun g => g = R ∨ g = m) (fun g => g = R ∨ g = m) w W
  top : w.heap.size + 2 ≤ W.heap.size
  hR : R < w.heap.size
  hm : m < w.heap.size
theorem AdvI.but {w : World} {R m H D : Nat} {now : Int} {rest : List Tm} {out : List Int} {A B : World} (h : AdvI w R m H now rest out A) (hb : But D A B) (hD : w.heap.size + 2 ≤ D) (hH : D + 2 ≤ H) : AdvI w R m H now rest out B := by
  have h1 := h.hR
  have h2 := h.hm
  have h3 := h.top
  obtain ⟨p, n, c, hc, ho⟩ := h.cell
  refine ⟨h.clk.keep (hb.block _ (by omega) (by omega) (by omega)) (hb.block _ (by omega) (by omega) (by omega)), hb.heap h.ptr (by omega) (by omega), ⟨p, n, c, hb.heap hc (by omega) (by omega), own_same ho fun g hg => hb.block g (ho.lt g hg).2 (by have := (ho.lt g hg).1; omega) (by have := (ho.lt g hg).1; omega)⟩, ?_, Nat.le_trans h3 hb.size, h1, h2⟩
  exact ⟨hb.os.trans h.mv.os, hb.tape.trans h.mv.tape, hb.output.trans h.mv.output, Nat.le_trans h.mv.size hb.size, fun k hk hn => (hb.block k (by omega) (by omega) (by omega)).trans (h.mv.block k hk hn), h.mv.sub⟩
/-- One timer fires. -/
theorem AdvI.step {w : World} {R m H n : Nat} {now : Int} {t : Tm} {rest : List Tm} {out : List Int} {W w3 : World} {D : DataW Unit} (h : AdvI w R m H now (t :: rest) out W) (ho : w3.ownsMap Try.prog 3 (plainElem Try.prog 2) m n D) (hD : MapIs D rest) (ht : W.mapTurned w3 m) (hlen : out.length ≤ 1000000) (hH : w.heap.size + 2 ≤ H) (hHW : H ≤ W.heap.size) :
    ∃ p n c p' n' c' w4, w3.cell? ⟨w.heap.size + 1, 0, none⟩ = some (.slice p n c) ∧ (Builtin.append_ #[37, 37] 37 #[.slice p n c, .slice (some ⟨w3.heap.size, 0, none⟩) 1 1]).run Try.prog (w3.alloc (.cells #[.int .i64 t.id] 3)) = .ok (.slice p' n' c') w4 ∧
      (w4.cell? ⟨w.heap.size + 1, 0, none⟩ = some (.slice p n c) ∧ w4.frozen? ⟨w.heap.size + 1, 0, none⟩ = false) ∧ AdvI w R m H now rest (out ++ [t.id]) (w4.setCell ⟨w.heap.size + 1, 0, none⟩ (.slice p' n' c')) ∧
      (∀ r, w.heap.size + 2 ≤ r → r < H → (w4.setCell ⟨w.heap.size + 1, 0, none⟩ (.slice p' n' c')).heap[r]? = W.heap[r]?) ∧ W.heap.size ≤ (w4.setCell ⟨w.heap.size + 1, 0, none⟩ (.slice p' n' c')).heap.size := by
  have h1 := h.hR
  have h2 := h.hm
  have h3 := h.top
  have hne := h.clk.ne
  have hg3 := ht.grown
  have hz3 := hg3.size
  obtain ⟨p, q, c, hc, hrow⟩ := h.cell
  have hk3 : ∀ r, r < W.heap.size → r ≠ m → w3.heap[r]? = W.heap[r]? := fun r hr hn => hg3.block r hr (fun e => hn (Option.some.inj e))
  have hrow3 := own_same hrow fun g hg => hk3 g (hrow.lt g hg).2 (by have := (hrow.lt g hg).1; omega)
  have hc3 := (hk3 (w.heap.size + 1) (by omega) (by omega)).trans hc
  obtain ⟨wa, hwa⟩ : ∃ wa, w3.alloc (.cells #[.int .i64 t.id] 3) = wa := ⟨_, rfl⟩
  have ba : Below w3.heap.size w3 wa := by rw [← hwa]; exact below_box _ _
  have hza := ba.size
  have hrowa := own_same hrow3 fun g hg => ba.block g (hrow3.lt g hg).2
  have hia : IS wa (.slice (some ⟨w3.heap.size, 0, none⟩) 1 1) [t.id] := by rw [← hwa]; exact is_one w3 t.id 3
  obtain ⟨v', w4, hrun, hrow4, hg4⟩ := run_append_iv wa 37 H _ _ out [t.id] hrowa hia (by simp; omega) (by omega)
  obtain ⟨p', q', c', rfl⟩ := own_slice hrow4
  have hz4 := hg4.size
  have hlow : ∀ r, r < H → some r ≠ (Value.slice p q c).ownBlock := fun r hr e => by have := (hrow.lt r e.symm).1; omega
  have hk4 : ∀ r, r < H → r ≠ m → w4.heap[r]? = W.heap[r]? := fun r hr hn => (hg4.block r (by omega) (hlow r hr)).trans ((ba.block r (by omega)).trans (hk3 r (by omega) hn))
  have hs : ∀ r, r ≠ w.heap.size + 1 → (w4.setCell ⟨w.heap.size + 1, 0, none⟩ (.slice p' q' c')).heap[r]? = w4.heap[r]? := fun r hr => Below.heap_setCell _ _ _ _ hr
  have hc4 := (hk4 (w.heap.size + 1) (by omega) (by omega)).trans hc
  have hzs : (w4.setCell ⟨w.heap.size + 1, 0, none⟩ (.slice p' q' c')).heap.size = w4.heap.size := by simp [World.setCell]
  have hom4 : (w4.setCell ⟨w.heap.size + 1, 0, none⟩ (.slice p' q' c')).heap[m]? = w3.heap[m]? := (hs m (by omega)).trans ((hg4.block m (by omega) (hlow m (by omega))).trans (ba.block m (by omega)))
  refine ⟨p, q, c, p', q', c', w4, one15 hc3, by rw [hwa]; exact hrun, ⟨one15 hc4, ?_⟩, ⟨⟨?_, hne, D, ?_, hD⟩, ?_, ⟨p', q', c', heap_set _ hc4, own_same hrow4 fun g hg => hs g (by have := (hrow4.lt g hg).1; omega)⟩, ?_, by omega, h1, h2⟩, fun r hr hrH => (hs r (by omega)).trans (hk4 r hrH (by omega)), by omega⟩
  · simp [World.frozen?, hc4]
  · exact (hs R (by omega)).trans ((hk4 R (by omega) hne).trans h.clk.box)
  · obtain ⟨es, clock, hb, r⟩ := own_tight ho
    rw [hD.size] at r
    exact ⟨es, clock, hom4.trans hb, r⟩
  · exact (hs _ (by omega)).trans ((hk4 _ (by omega) (by omega)).trans h.ptr)
  · refine ⟨?_, ?_, ?_, by have := h.mv.size; omega, fun k hk hn => (hs k (by omega)).trans ((hk4 k (by omega) (fun e => hn (.inr e))).trans (h.mv.block k hk hn)), h.mv.sub⟩
    · exact (hg4.os.trans (ba.os.trans hg3.os)).trans h.mv.os
    · exact (hg4.tape.trans (ba.tape.trans hg3.tape)).trans h.mv.tape
    · exact (hg4.output.trans (ba.output.trans hg3.output)).trans h.mv.output

end Go.Proofs.Ytcmkdeejofoibaa
