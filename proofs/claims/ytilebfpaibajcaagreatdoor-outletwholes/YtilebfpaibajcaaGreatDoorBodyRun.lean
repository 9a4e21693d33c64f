/- The reader's data. -/
import Derived.Test.YtilebfpaibajcaaGreatDoorBodyExt
namespace Go.Proofs.YtilebfpaibajcaaGreatDoor
open Go.ChangeShapes Go.WideShapes Go.ChangeAt Go.RowKit
open Oc Fl Bk Bd
set_option linter.unusedVariables false
set_option maxRecDepth 100000

theorem RAt.not_own {B R : Nat} {tv : Value} {T : List UInt8} {l : Lim} {k : Nat} {dv : Value} {D : List UInt8} {W : World} (h : RAt B R tv T l k dv D W) : ∀ g, g < B → some g ≠ dv.ownBlock := fun g hg e => by
  have := (h.own.lt g e.symm).1
  omega
theorem RAt.grown {B R : Nat} {tv : Value} {T : List UInt8} {l : Lim} {k : Nat} {dv : Value} {D : List UInt8} {W w3 : World} (h : RAt B R tv T l k dv D W) (hg : W.grownBy w3 dv.ownBlock) : w3.heap[R]? = W.heap[R]? := hg.block R (by have := h.base; omega) (h.not_own R h.base.1)
/-- Data come behind. -/
theorem RAt.data {B R : Nat} {tv : Value} {T : List UInt8} {l : Lim} {k : Nat} {dv : Value} {D : List UInt8} {W w3 : World} {ys : List UInt8} {v' : Value} (h : RAt B R tv T l k dv D W) (hg : W.grownBy w3 dv.ownBlock)
    (ho : w3.ownsRow B 5 1 v' (D ++ ys).length (bv (D ++ ys))) {k' : Nat} (hk : k' = k + ys.length) (hk' : k' ≤ T.length) :
    RAt B R tv T l k' v' (D ++ ys) ((w3.setCell ⟨R, 5, none⟩ v').setCell ⟨R, 4, none⟩ (.int .i64 (k' : Int))) := by
  have hB := h.base
  have hR := (h.grown hg).trans h.blk
  have hR5 : (w3.setCell ⟨R, 5, none⟩ v').heap[R]? = _ := heap_set _ hR
  have far : ∀ g, g ≠ R → ((w3.setCell ⟨R, 5, none⟩ v').setCell ⟨R, 4, none⟩ (.int .i64 (k' : Int))).heap[g]? = w3.heap[g]? := fun g hg => (Below.heap_setCell _ _ _ _ hg).trans (Below.heap_setCell _ _ _ _ hg)
  refine ⟨heap_set _ hR5, ?_, h.far, own_same ho fun g hg' => far g (by have := (ho.lt g hg').1; omega), ⟨hB.1, ?_⟩, ⟨h.small.1, hk', by have := h.small; simp; omega⟩, h.lims⟩
  · refine h.text.kept fun g hg' => ?_
    have := h.far g hg'
    exact (far g this.2).trans (hg.block g (by omega) (h.not_own g this.1))
  · have := hg.size
    simp [World.setCell]
    omega
theorem Solo.data {B R : Nat} {tv : Value} {T : List UInt8} {l : Lim} {k : Nat} {dv : Value} {D : List UInt8} {A W w3 : World} (h : RAt B R tv T l k dv D W) (hs : Solo B R A W) (hg : W.grownBy w3 dv.ownBlock) (v u : Value) :
    Solo B R A ((w3.setCell ⟨R, 5, none⟩ v).setCell ⟨R, 4, none⟩ u) :=
  ((hs.trans ⟨hg.os, hg.tape, hg.output, hg.size, fun g hg' _ => hg.block g (by have := h.base; omega) (h.not_own g hg')⟩).set 5 v).set 4 u

/-- What data leave. -/
def RunQ (B R : Nat) (tv : Value) (T : List UInt8) (l : Lim) (k n : Nat) (D : List UInt8) (w : World) (x : Ending) (w' : World) : Prop :=
  ∃ dv', Solo B R w w' ∧ (k + n ≤ T.length → RAt B R tv T l (k + n) dv' (D ++ (T.drop k).take n) w' ∧ x = .returned (.tuple #[])) ∧ (T.length < k + n → RAt B R tv T l T.length dv' (D ++ T.drop k) w' ∧ x = threw 4)

set_option maxHeartbeats 8000000 in
theorem run_any {B R : Nat} {tv : Value} {T : List UInt8} {l : Lim} {k n : Nat} {dv : Value} {D : List UInt8} (w : World) (h : RAt B R tv T l k dv D w) (hn : n ≤ 4611686018427387903) :
    Calls Tryz.prog 73 #[.pointer (some ⟨R, 0, none⟩), .int .u64 (n : Int)] w fun x w' => RunQ B R tv T l k n D w x w' := by
  obtain ⟨p, cap, htv, hcap, h3⟩ := h.slice
  have hk := h.small
  obtain ⟨p', c', hsl, hl1, hl2, hl3, hl4⟩ := (htv ▸ h.text : RD w (.slice p T.length cap) T).part (i := k) (j := T.length) (m := cap) (by omega) (by omega) (by omega) (by omega)
  have hrest : (T.take T.length).drop k = T.drop k := by rw [List.take_length]
  obtain ⟨L, hL⟩ : ∃ L, (T.drop k).length = L := ⟨_, rfl⟩
  have hL' : L = T.length - k := by rw [← hL]; simp
  rw [hrest, hL] at hsl
  rw [hrest] at hl1 hl4
  have hcut : ∀ W, (Instr.slice 35 (.slice p T.length cap) (some (.int .i64 (k : Int))) none none).run Tryz.prog W = .ok (.slice p' L c') W := fun W => hsl ▸ cut_l p T.length cap k (by omega) W
  obtain ⟨m, hm⟩ : ∃ m, min n L = m := ⟨_, rfl⟩
  have hm1 : m ≤ n ∧ m ≤ L := by omega
  obtain ⟨uv, huv⟩ : ∃ uv, sliced p' 0 m c' 1 = uv := ⟨_, rfl⟩
  have hcut' : ∀ W, (Instr.slice 35 (.slice p' L c') none (some (.int .i64 (m : Int))) none).run Tryz.prog W = .ok uv W := fun W => huv ▸ cut_h p' L c' m (by omega) W
  have hrd : ∀ i, RD (w.drewN i) uv ((T.drop k).take m) := fun i => by
    have h0 : RD (w.drewN i) (.slice p' L c') (T.drop k) := ⟨p', c', by rw [hL], hl1, hl2, hl3, hl4⟩
    have := h0.part (i := 0) (j := m) (m := c') (by omega) (by omega) (by omega) (by omega)
    rw [huv, List.drop_zero] at this
    exact this
  have hyl : ((T.drop k).take m).length = m := by simp; omega
  have HA := Lib.hid fun i => run_append_rd (w.drewN i) 35 B dv uv D.length D ((T.drop k).take m) (h.drewN i).own (hrd i) (by omega) (h.drewN i).base.2
  have c0 : ∀ i, (w.drewN i).cell? ⟨R, 0, none⟩ = some (.slice p T.length cap) := fun i => htv ▸ h.c0
  have c4 : ∀ i, (w.drewN i).cell? ⟨R, 4, none⟩ = some (.int .i64 (k : Int)) := fun i => h.c4
  have c5 : ∀ i, (w.drewN i).cell? ⟨R, 5, none⟩ = some dv := fun i => h.c5
  have c0' : w.cell? ⟨R, 0, none⟩ = some (.slice p T.length cap) := c0 0
  have c4' : w.cell? ⟨R, 4, none⟩ = some (.int .i64 (k : Int)) := c4 0
  have w1 : IntKind.u64.wrap (L : Int) = (L : Int) := IntWalk.u64_in _ (by omega)
  have w2 : IntKind.i64.wrap (m : Int) = (m : Int) := IntWalk.i64_in _ (by omega)
  have w3' : IntKind.u64.wrap (m : Int) = (m : Int) := IntWalk.u64_in _ (by omega)
  obtain ⟨km, hkm⟩ : ∃ km, k + m = km := ⟨_, rfl⟩
  have w4 : IntKind.i64.wrap ((k : Int) + (m : Int)) = (km : Int) := by rw [IntWalk.i64_in _ (by omega)]; omega
  have H := Lib.hid h
  have HL := Lib.hid (And.intro hL' (And.intro hm (And.intro hkm (And.intro hyl hk))))
  have hmin : min (n : Int) (L : Int) = (m : Int) := by omega
  clear h hsl hl1 hl2 hl3 hl4 h3 huv hrd hrest hL hkm htv hyl hL' hm hk
  go_enter Tryz.func73, Tryz.ntmps73
  go_wp2_with fail
  go_quiet (fail)
  go_wp2_with fail
  obtain ⟨v', w3, hrun, ho, hg⟩ := HA.out (nq + 1)
  obtain ⟨p2, l2, c2, rfl⟩ : ∃ p2 l2 c2, v' = .slice p2 l2 c2 := by rcases ho.2 with ⟨rfl, _⟩ | ⟨g, cap, cur, rfl, _⟩ <;> exact ⟨_, _, _, rfl⟩
  have HG := Lib.hid hg
  have HO := Lib.hid ho
  have HR := Lib.hid hrun
  have hR := ((H.out.drewN (nq + 1)).grown hg).trans (H.out.drewN (nq + 1)).blk
  have d5 : w3.cell? ⟨R, 5, none⟩ = some dv := by simp [World.cell?, hR]
  have g5 : w3.frozen? ⟨R, 5, none⟩ = false := by simp [World.frozen?, hR]
  have hR5 : (w3.setCell ⟨R, 5, none⟩ (.slice p2 l2 c2)).heap[R]? = _ := heap_set _ hR
  have d4 : (w3.setCell ⟨R, 5, none⟩ (.slice p2 l2 c2)).cell? ⟨R, 4, none⟩ = some (.int .i64 (k : Int)) := by simp [World.cell?, hR5]
  have g4 : (w3.setCell ⟨R, 5, none⟩ (.slice p2 l2 c2)).frozen? ⟨R, 4, none⟩ = false := by simp [World.frozen?, hR5]
  have HQ := Lib.hid (fun x => show ((n : Int) = (m : Int) → x = .returned (.tuple #[])) → ((n : Int) ≠ (m : Int) → x = threw 4) → RunQ B R tv T l k n D w x ((w3.setCell ⟨R, 5, none⟩ (.slice p2 l2 c2)).setCell ⟨R, 4, none⟩ (.int .i64 (km : Int))) from by
    intro h1 h2
    obtain ⟨hL', hm, hkm, hyl, hk⟩ := HL.out
    have hdat := (H.out.drewN (nq + 1)).data (k' := km) hg ho (by omega) (by omega)
    refine ⟨.slice p2 l2 c2, Solo.data (H.out.drewN (nq + 1)) ((Solo.refl _ _ _).drewN _) hg _ _, fun hle => ?_, fun hlt => ?_⟩
    · obtain rfl : m = n := by omega
      subst hkm
      exact ⟨hdat, h1 rfl⟩
    · obtain rfl : km = T.length := by omega
      rw [List.take_of_length_le (by simp; omega)] at hdat
      exact ⟨hdat, h2 (by omega)⟩)
  clear hrun ho hg hR hR5 HA c0' c4'
  go_region_law (refine step_append_run rfl (.tmp 25) (.tmp 28) 35 rfl dv uv (.slice p2 l2 c2) w3 (by simp [Act.eval]) (by simp [Act.eval]) HR.out ?_)
  all_goals
    by_cases hmn : n = m
    · subst hmn
      go_wp2_with fail
      go_end0
      exact HQ.out _ (fun _ => rfl) (fun h => absurd rfl h)
    · have hb : (m : Int) < (n : Int) := by omega
      go_wp2_with (go_at_call 76; refine (giveUp_any _ _ _).mono ?_; rintro e w'' ⟨rfl, rfl⟩)
      exact ⟨rfl, HQ.out _ (fun h => absurd h (by omega)) (fun _ => rfl)⟩

end Go.Proofs.YtilebfpaibajcaaGreatDoor
