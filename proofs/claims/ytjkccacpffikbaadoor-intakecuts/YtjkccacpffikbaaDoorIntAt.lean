/- An intake as those who call it see it. -/
import Derived.Test.YtjkccacpffikbaaDoorIntKinds
namespace Go.Proofs.YtjkccacpffikbaaDoor
open Go.ChangeShapes Go.WideShapes Go.ChangeAt Go.RowKit
open Oc Fl Bk Bd Dk Ik
set_option linter.unusedVariables false
set_option maxRecDepth 100000

theorem KdAt.moved {K : Nat} {k : Kd} {T : TypeId} {M : Nat → Prop} {W W' : World} (h : KdAt K k T M W) (hm : ∀ g, M g → W'.heap[g]? = W.heap[g]?) (hs : Spans W') : KdAt K k T M W' := by
  cases k with
  | fix n c =>
    obtain ⟨h1, rfl, h3, h4⟩ := h
    exact ⟨h1, rfl, (hm K rfl).trans h3, h4⟩
  | unt b c =>
    obtain ⟨h1, rfl, h3⟩ := h
    exact ⟨h1, rfl, (hm K rfl).trans h3⟩
  | dec l x => exact ⟨h.1, h.2.1.moved hm hs, h.2.2⟩

/-- An intake at the block R: k takes its bytes, it failed with e; its blocks are M's. -/
def InAt (R : Nat) (k : Kd) (e : Nat) (M : Nat → Prop) (W : World) : Prop :=
  ∃ (T : TypeId) (K : Nat) (M0 : Nat → Prop), W.heap[R]? = some (.cells #[.iface T (.pointer (some ⟨K, 0, none⟩)), .int .i64 (e : Int)] 54 (0, 0)) ∧ KdAt K k T M0 W ∧ ¬ M0 R ∧ 0 < R ∧ M = fun g => g = R ∨ M0 g

section
variable {R : Nat} {k : Kd} {e : Nat} {M : Nat → Prop} {W W' : World}
theorem InAt.lt (h : InAt R k e M W) {g : Nat} (hg : M g) : g < W.heap.size := by
  obtain ⟨T, K, M0, h1, h2, h3, h4, rfl⟩ := h
  rcases hg with rfl | hg
  · exact (Array.getElem?_eq_some_iff.1 h1).1
  · exact h2.lt hg
theorem InAt.below (h : InAt R k e M W) (hb : Below W.heap.size W W') : InAt R k e M W' := by
  obtain ⟨T, K, M0, h1, h2, h3, h4, rfl⟩ := h
  exact ⟨T, K, M0, two_below h1 hb, h2.below hb, h3, h4, rfl⟩
theorem InAt.moved (h : InAt R k e M W) (hm : ∀ g, M g → W'.heap[g]? = W.heap[g]?) (hs : Spans W') : InAt R k e M W' := by
  obtain ⟨T, K, M0, h1, h2, h3, h4, rfl⟩ := h
  exact ⟨T, K, M0, (hm R (.inl rfl)).trans h1, h2.moved (fun g hg => hm g (.inr hg)) hs, h3, h4, rfl⟩
theorem InAt.own (h : InAt R k e M W) : M R := by
  obtain ⟨T, K, M0, h1, h2, h3, h4, rfl⟩ := h
  exact .inl rfl
end

section
variable {R : Nat} {k : Kd} {e : Nat} {M : Nat → Prop} {w : World}
set_option maxHeartbeats 1000000 in
theorem errI (h : InAt R k e M w) : Calls Tryd.prog 18 #[.pointer (some ⟨R, 0, none⟩)] w fun x w' => x = .returned (.int .i64 (e : Int)) ∧ w = w' := by
  obtain ⟨T, K, M0, h1, -⟩ := h
  have c1 : w.cell? ⟨R, 1, none⟩ = some (.int .i64 (e : Int)) := by simp [World.cell?, h1]
  clear h1
  go_enter Tryd.func18, Tryd.ntmps18
  go_wp2_with fail
  go_ret
  exact ⟨rfl, rfl⟩
set_option maxHeartbeats 1000000 in
theorem fdone12_any (K n c : Nat) (hK : w.heap[K]? = some (.cells #[.int .i64 (c : Int), .int .u64 (n : Int)] 62 (0, 0))) :
    Calls Tryd.prog 103 #[.pointer (some ⟨K, 0, none⟩)] w fun x w' => x = .returned (.bool (decide (n = 0))) ∧ w = w' := by
  have c1 : w.cell? ⟨K, 1, none⟩ = some (.int .u64 (n : Int)) := by simp [World.cell?, hK]
  clear hK
  go_enter Tryd.func103, Tryd.ntmps103
  go_wp2_with fail
  go_ret
  exact ⟨ret_bool (by rw [Bool.eq_iff_iff]; simp), rfl⟩
set_option maxHeartbeats 1000000 in
theorem udone12_any (K c : Nat) (b : Bool) (hK : w.heap[K]? = some (.cells #[.int .i64 (c : Int), .bool b] 59 (0, 0))) :
    Calls Tryd.prog 97 #[.pointer (some ⟨K, 0, none⟩)] w fun x w' => x = .returned (.bool b) ∧ w = w' := by
  have c1 : w.cell? ⟨K, 1, none⟩ = some (.bool b) := by simp [World.cell?, hK]
  clear hK
  go_enter Tryd.func97, Tryd.ntmps97
  go_wp2_with fail
  go_ret
  exact ⟨rfl, rfl⟩
set_option maxHeartbeats 1000000 in
theorem ptaken12_any (K c : Nat) (cs : Array Value) (ty : TypeId) (hK : w.heap[K]? = some (.cells cs ty (0, 0))) (hc : cs[0]? = some (.int .i64 (c : Int))) :
    Calls Tryd.prog 100 #[.pointer (some ⟨K, 0, none⟩)] w fun x w' => x = .returned (.int .i64 (c : Int)) ∧ w = w' := by
  have c0 : w.cell? ⟨K, 0, none⟩ = some (.int .i64 (c : Int)) := by simp [World.cell?, hK, hc]
  clear hK hc
  go_enter Tryd.func100, Tryd.ntmps100
  go_wp2_with fail
  go_ret
  exact ⟨rfl, rfl⟩
set_option maxHeartbeats 2000000 in
theorem doneI (h : InAt R k e M w) : Calls Tryd.prog 12 #[.pointer (some ⟨R, 0, none⟩)] w fun x w' => x = .returned (.bool (doneK k)) ∧ w = w' := by
  obtain ⟨T, K, M0, h1, h2, h3, h4, -⟩ := h
  have c0 : w.cell? ⟨R, 0, none⟩ = some (.iface T (.pointer (some ⟨K, 0, none⟩))) := by simp [World.cell?, h1]
  cases k with
  | fix n c =>
    obtain ⟨rfl, -, hK, -⟩ := h2
    have HD := Lib.hid (fdone12_any K n c hK)
    show Calls _ _ _ _ fun x w' => x = .returned (.bool (decide (n = 0))) ∧ w = w'
    generalize decide (n = 0) = d at *
    clear h1 h3 h4 hK
    go_enter Tryd.func12, Tryd.ntmps12
    go_wp2_with fail
    refine HD.out.mono ?_
    rintro x w' ⟨rfl, rfl⟩
    go_wp2_with fail
    go_ret
    exact ⟨rfl, rfl⟩
  | unt b c =>
    obtain ⟨rfl, -, hK⟩ := h2
    have HD := Lib.hid (udone12_any K c b hK)
    show Calls _ _ _ _ fun x w' => x = .returned (.bool b) ∧ w = w'
    clear h1 h3 h4 hK
    go_enter Tryd.func12, Tryd.ntmps12
    go_wp2_with fail
    refine HD.out.mono ?_
    rintro x w' ⟨rfl, rfl⟩
    go_wp2_with fail
    go_ret
    exact ⟨rfl, rfl⟩
  | dec l y =>
    obtain ⟨rfl, hK, -⟩ := h2
    have HD := Lib.hid (doneX w hK)
    show Calls _ _ _ _ fun x w' => x = .returned (.bool (decide (y.2.2 = 0))) ∧ w = w'
    generalize decide (y.2.2 = 0) = d at *
    clear h1 h3 h4 hK
    go_enter Tryd.func12, Tryd.ntmps12
    go_wp2_with fail
    refine HD.out.mono ?_
    rintro x w' ⟨rfl, rfl⟩
    go_wp2_with fail
    go_ret
    exact ⟨rfl, rfl⟩

set_option maxHeartbeats 2000000 in
theorem takenI (h : InAt R k e M w) : Calls Tryd.prog 11 #[.pointer (some ⟨R, 0, none⟩)] w fun x w' => x = .returned (.int .i64 (takenK k : Int)) ∧ w = w' := by
  obtain ⟨T, K, M0, h1, h2, h3, h4, -⟩ := h
  have c0 : w.cell? ⟨R, 0, none⟩ = some (.iface T (.pointer (some ⟨K, 0, none⟩))) := by simp [World.cell?, h1]
  cases k with
  | fix n c =>
    obtain ⟨rfl, -, hK, -⟩ := h2
    have HD := Lib.hid (ptaken12_any K c _ _ hK rfl)
    show Calls _ _ _ _ fun x w' => x = .returned (.int .i64 (c : Int)) ∧ w = w'
    clear h1 h3 h4 hK
    go_enter Tryd.func11, Tryd.ntmps11
    go_wp2_with fail
    refine HD.out.mono ?_
    rintro x w' ⟨rfl, rfl⟩
    go_wp2_with fail
    go_ret
    exact ⟨rfl, rfl⟩
  | unt b c =>
    obtain ⟨rfl, -, hK⟩ := h2
    have HD := Lib.hid (ptaken12_any K c _ _ hK rfl)
    show Calls _ _ _ _ fun x w' => x = .returned (.int .i64 (c : Int)) ∧ w = w'
    clear h1 h3 h4 hK
    go_enter Tryd.func11, Tryd.ntmps11
    go_wp2_with fail
    refine HD.out.mono ?_
    rintro x w' ⟨rfl, rfl⟩
    go_wp2_with fail
    go_ret
    exact ⟨rfl, rfl⟩
  | dec l y =>
    obtain ⟨rfl, hK, -⟩ := h2
    have HD := Lib.hid (takenX w hK)
    show Calls _ _ _ _ fun x w' => x = .returned (.int .i64 (y.2.1 : Int)) ∧ w = w'
    generalize y.2.1 = d at *
    clear h1 h3 h4 hK
    go_enter Tryd.func11, Tryd.ntmps11
    go_wp2_with fail
    refine HD.out.mono ?_
    rintro x w' ⟨rfl, rfl⟩
    go_wp2_with fail
    go_ret
    exact ⟨rfl, rfl⟩

/-- What a type switch on an intake's input finds. -/
theorem asF (K : Nat) (W : World) : (Instr.typeAssert (.iface 60 (.pointer (some ⟨K, 0, none⟩))) 52 60 true).run Tryd.prog W = .ok (.tuple #[.pointer (some ⟨K, 0, none⟩), .bool true]) W ∧
    (Instr.typeAssert (.iface 55 (.pointer (some ⟨K, 0, none⟩))) 52 60 true).run Tryd.prog W = .ok (.tuple #[.pointer none, .bool false]) W ∧
    (Instr.typeAssert (.iface 48 (.pointer (some ⟨K, 0, none⟩))) 52 60 true).run Tryd.prog W = .ok (.tuple #[.pointer none, .bool false]) W := ⟨by kernel_rfl, by kernel_rfl, by kernel_rfl⟩
theorem asU (K : Nat) (W : World) : (Instr.typeAssert (.iface 60 (.pointer (some ⟨K, 0, none⟩))) 52 55 true).run Tryd.prog W = .ok (.tuple #[.pointer none, .bool false]) W ∧
    (Instr.typeAssert (.iface 55 (.pointer (some ⟨K, 0, none⟩))) 52 55 true).run Tryd.prog W = .ok (.tuple #[.pointer (some ⟨K, 0, none⟩), .bool true]) W ∧
    (Instr.typeAssert (.iface 48 (.pointer (some ⟨K, 0, none⟩))) 52 55 true).run Tryd.prog W = .ok (.tuple #[.pointer none, .bool false]) W := ⟨by kernel_rfl, by kernel_rfl, by kernel_rfl⟩
theorem asD (K : Nat) (W : World) : (Instr.typeAssert (.iface 60 (.pointer (some ⟨K, 0, none⟩))) 52 48 true).run Tryd.prog W = .ok (.tuple #[.pointer none, .bool false]) W ∧
    (Instr.typeAssert (.iface 55 (.pointer (some ⟨K, 0, none⟩))) 52 48 true).run Tryd.prog W = .ok (.tuple #[.pointer none, .bool false]) W ∧
    (Instr.typeAssert (.iface 48 (.pointer (some ⟨K, 0, none⟩))) 52 48 true).run Tryd.prog W = .ok (.tuple #[.pointer (some ⟨K, 0, none⟩), .bool true]) W := ⟨by kernel_rfl, by kernel_rfl, by kernel_rfl⟩

set_option maxHeartbeats 4000000 in
theorem wantsI (h : InAt R k e M w) : Calls Tryd.prog 17 #[.pointer (some ⟨R, 0, none⟩)] w fun x w' => x = .returned (.int .u64 (wantsK k e : Int)) ∧ w = w' := by
  have HD := Lib.hid (doneI h)
  obtain ⟨T, K, M0, h1, h2, h3, h4, -⟩ := h
  have c0 : w.cell? ⟨R, 0, none⟩ = some (.iface T (.pointer (some ⟨K, 0, none⟩))) := by simp [World.cell?, h1]
  have c1 : w.cell? ⟨R, 1, none⟩ = some (.int .i64 (e : Int)) := by simp [World.cell?, h1]
  by_cases he : e = 0
  case neg =>
    have hb : ((e : Int) != 0) = true := by unfold bne; rw [beq_eq_false_iff_ne.2 (by omega)]; rfl
    rw [show wantsK k e = 0 from if_pos (.inl he)]
    clear h1 h2 h3 h4 he HD
    go_enter Tryd.func17, Tryd.ntmps17
    go_wp2_with fail
    go_ret
    exact ⟨rfl, rfl⟩
  subst he
  cases hd : doneK k with
  | true =>
    rw [show wantsK k 0 = 0 from if_pos (.inr hd)]
    rw [hd] at HD
    clear h1 h2 h3 h4 hd
    go_enter Tryd.func17, Tryd.ntmps17
    go_wp2_with fail
    refine HD.out.mono ?_
    rintro x w' ⟨rfl, rfl⟩
    go_wp2_with fail
    go_ret
    exact ⟨rfl, rfl⟩
  | false =>
    rw [show wantsK k 0 = leftK k from if_neg (by rw [hd]; decide)]
    rw [hd] at HD
    clear hd
    cases k with
    | fix n c =>
      obtain ⟨rfl, -, hK, -⟩ := h2
      have hta := fun W => (asF K W).1
      have c2 : w.cell? ⟨K, 1, none⟩ = some (.int .u64 (n : Int)) := by simp [World.cell?, hK]
      show Calls _ _ _ _ fun x w' => x = .returned (.int .u64 (n : Int)) ∧ w = w'
      clear h1 h3 h4 hK
      go_enter Tryd.func17, Tryd.ntmps17
      go_wp2_with fail
      refine HD.out.mono ?_
      rintro x w' ⟨rfl, rfl⟩
      go_wp2_with fail
      go_ret
      exact ⟨rfl, rfl⟩
    | unt b c =>
      obtain ⟨rfl, -, hK⟩ := h2
      have hta := fun W => (asF K W).2.1
      show Calls _ _ _ _ fun x w' => x = .returned (.int .u64 4611686018427387903) ∧ w = w'
      clear h1 h3 h4 hK
      go_enter Tryd.func17, Tryd.ntmps17
      go_wp2_with fail
      refine HD.out.mono ?_
      rintro x w' ⟨rfl, rfl⟩
      go_wp2_with fail
      go_ret
      exact ⟨rfl, rfl⟩
    | dec l y =>
      obtain ⟨rfl, hK, -⟩ := h2
      have hta := fun W => (asF K W).2.2
      show Calls _ _ _ _ fun x w' => x = .returned (.int .u64 4611686018427387903) ∧ w = w'
      clear h1 h3 h4 hK
      go_enter Tryd.func17, Tryd.ntmps17
      go_wp2_with fail
      refine HD.out.mono ?_
      rintro x w' ⟨rfl, rfl⟩
      go_wp2_with fail
      go_ret
      exact ⟨rfl, rfl⟩

set_option maxHeartbeats 2000000 in
theorem fieldsI (h : InAt R k e M w) : Calls Tryd.prog 14 #[.pointer (some ⟨R, 0, none⟩)] w fun x w' => ∃ u, x = .returned u ∧ FS w' u (fieldsK k) ∧ Below w.heap.size w w' := by
  obtain ⟨T, K, M0, h1, h2, h3, h4, -⟩ := h
  have c0 : w.cell? ⟨R, 0, none⟩ = some (.iface T (.pointer (some ⟨K, 0, none⟩))) := by simp [World.cell?, h1]
  cases k with
  | fix n c =>
    obtain ⟨rfl, -, hK, -⟩ := h2
    have hta := fun W => (asD K W).1
    clear h1 h3 h4 hK
    go_enter Tryd.func14, Tryd.ntmps14
    go_wp2_with fail
    go_ret
    exact ⟨_, rfl, RS.nil _ _, Below.refl _ _⟩
  | unt b c =>
    obtain ⟨rfl, -, hK⟩ := h2
    have hta := fun W => (asD K W).2.1
    clear h1 h3 h4 hK
    go_enter Tryd.func14, Tryd.ntmps14
    go_wp2_with fail
    go_ret
    exact ⟨_, rfl, RS.nil _ _, Below.refl _ _⟩
  | dec l y =>
    obtain ⟨rfl, hK, hl⟩ := h2
    have hta := fun W => (asD K W).2.2
    have HD := Lib.hid (fieldsXA w hK hl.2.1)
    show Calls _ _ _ _ fun x w' => ∃ u, x = .returned u ∧ FS w' u (fieldsX y) ∧ Below w.heap.size w w'
    generalize fieldsX y = fx at *
    clear h1 h3 h4 hK hl
    go_enter Tryd.func14, Tryd.ntmps14
    go_wp2_with fail
    refine HD.out.mono ?_
    rintro x w' ⟨u, rfl, hu, hb⟩
    have HU := Lib.hid hu
    have HB := Lib.hid hb
    obtain ⟨q, c, rfl, -⟩ := RS.slice hu
    clear hu hb HD
    go_wp2_with fail
    go_ret
    exact ⟨_, rfl, HU.out, HB.out⟩
theorem InAt.fields_le (h : InAt R k e M w) : (fieldsK k).length ≤ 65536 := by
  obtain ⟨T, K, M0, h1, h2, h3, h4, -⟩ := h
  cases k with
  | fix n c => exact Nat.zero_le _
  | unt b c => exact Nat.zero_le _
  | dec l y => exact Nat.le_trans h2.2.1.fields_le h2.2.2.2.1
end

end Go.Proofs.YtjkccacpffikbaaDoor
