/- An intake is given a piece, is closed, is made. -/
import Derived.Test.YtjkccacpffikbaaDoorIntAt
import Derived.Test.YtjkccacpffikbaaDoorByteSame
namespace Go.Proofs.YtjkccacpffikbaaDoor
open Go.ChangeShapes Go.WideShapes Go.ChangeAt Go.RowKit
open Oc Fl Bk Bd Dk Ik
set_option linter.unusedVariables false
set_option maxRecDepth 100000

/-- A piece, where it failed with e. -/
def nextP (k : Kd) (e : Nat) (b : List UInt8) : Kd := if e = 0 then nextK k b else k
def dataP (k : Kd) (e : Nat) (b : List UInt8) : List UInt8 := if e = 0 then dataK k b else []
def numP (k : Kd) (e : Nat) (b : List UInt8) : Nat := if e = 0 then numK k b else 0
def errP (k : Kd) (e : Nat) (b : List UInt8) : Nat := if e = 0 then errK k b else e

/-- What a piece leaves. -/
def PutI (R : Nat) (k : Kd) (e : Nat) (M : Nat → Prop) (b : List UInt8) (w : World) (x : Ending) (w' : World) : Prop :=
  ∃ (M1 : Nat → Prop) (p : Option Addr) (c : Nat), x = .returned (.tuple #[.slice p (dataP k e b).length c, .int .i64 (numP k e b : Int), .int .i64 (errP k e b : Int)]) ∧ InAt R (nextP k e b) (errP k e b) M1 w' ∧ Moves M M1 w w' ∧
    RD w' (.slice p (dataP k e b).length c) (dataP k e b) ∧ (∀ g, (Value.slice p (dataP k e b).length c).ownBlock = some g → w.heap.size ≤ g ∧ g < w'.heap.size ∧ ¬ M1 g)

section
variable {R K : Nat} {k : Kd} {e : Nat} {M M0 : Nat → Prop} {T : TypeId} {w w1 : World} {b : List UInt8} {x : Ending}
theorem KdQ.into (h1 : w.heap[R]? = some (.cells #[.iface T (.pointer (some ⟨K, 0, none⟩)), .int .i64 0] 54 (0, 0))) (h3 : ¬ M0 R) (h4 : 0 < R) (q : KdQ K k T M0 b w x w1) :
    ∃ (p : Option Addr) (n c : Nat), x = .returned (.tuple #[.slice p n c, .int .i64 (numK k b : Int), .int .i64 (errK k b : Int)]) ∧ w1.heap[R]? = some (.cells #[.iface T (.pointer (some ⟨K, 0, none⟩)), .int .i64 0] 54 (0, 0)) ∧
      ∀ m, PutI R k 0 (fun g => g = R ∨ M0 g) b w (.returned (.tuple #[.slice p n c, .int .i64 (numK k b : Int), .int .i64 (errK k b : Int)])) ((w1.setCell ⟨R, 1, none⟩ (.int .i64 (errK k b : Int))).drewN m) := by
  obtain ⟨M1, p, c, rfl, hk, mv, hrd, hown⟩ := q
  have hlt := (Array.getElem?_eq_some_iff.1 h1).1
  have hR1 := (mv.block R hlt h3).trans h1
  have hn1 : ¬ M1 R := fun hm => by
    rcases mv.own R hm with h' | h'
    · exact h3 h'
    · omega
  refine ⟨p, _, c, rfl, hR1, fun m => ⟨fun g => g = R ∨ M1 g, p, c, rfl, ⟨T, K, M1, heap_set _ hR1, (hk.beside hn1 h4).below (drewN_below8 _ m), hn1, h4, rfl⟩, ?_, ?_, fun g hg => ?_⟩⟩
  · refine ⟨mv.os, mv.tape, mv.output, by simpa [World.setCell] using mv.size, fun g hg hn => ?_, fun g hg => ?_⟩
    · exact (Below.heap_setCell _ _ _ _ (fun (e : g = R) => hn (.inl e))).trans (mv.block g hg (fun h => hn (.inr h)))
    · rcases hg with hg | hg
      · exact .inl (.inl hg)
      · exact (mv.own g hg).imp .inr id
  · exact rd_drewN (hrd.keep fun _ g hg => Below.heap_setCell _ _ _ _ (fun (e : g = R) => by have := (hown g hg).1; omega)) m
  · obtain ⟨a1, a2, a3⟩ := hown g hg
    exact ⟨a1, by simpa [World.setCell] using a2, fun hg' => by
      rcases hg' with hg' | hg'
      · omega
      · exact a3 hg'⟩

set_option maxHeartbeats 4000000 in
theorem putI (p : Option Addr) (c : Nat) (h : InAt R k e M w) (hb : RD w (.slice p b.length c) b) (hp : b ≠ [] → ∀ g, (Value.slice p b.length c).ownBlock = some g → ¬ M g) (hl : b.length ≤ 100000) (hc : takenK k ≤ 1000000) :
    Calls Tryd.prog 9 #[.pointer (some ⟨R, 0, none⟩), .slice p b.length c] w fun x w' => PutI R k e M b w x w' := by
  by_cases he : e = 0
  case neg =>
    have HQ : Hid (∀ m, PutI R k e M b w (.returned (.tuple #[.slice none 0 0, .int .i64 0, .int .i64 (e : Int)])) (w.drewN m)) := Lib.hid fun m => by
      have e1 : nextP k e b = k := if_neg he
      have e2 : dataP k e b = [] := if_neg he
      have e3 : numP k e b = 0 := if_neg he
      have e4 : errP k e b = e := if_neg he
      unfold PutI
      rw [e1, e2, e3, e4]
      exact ⟨M, none, 0, rfl, h.below (drewN_below8 _ m), Moves.of_below (drewN_below8 _ m), RD.nil _, fun g hg => by simp [Value.ownBlock] at hg⟩
    have hne : ((e : Int) != 0) = true := by unfold bne; rw [beq_eq_false_iff_ne.2 (by omega)]; rfl
    obtain ⟨T, K, M0, h1, -⟩ := h
    have c1 : w.cell? ⟨R, 1, none⟩ = some (.int .i64 (e : Int)) := by simp [World.cell?, h1]
    clear h1 hb hp hl hc he
    generalize b.length = L at *
    go_enter Tryd.func9, Tryd.ntmps9
    go_wp2_with fail
    go_quiet (fail)
    go_wp2_with fail
    go_ret3
    exact HQ.out _
  subst he
  obtain ⟨T, K, M0, h1, h2, h3, h4, rfl⟩ := h
  have c0 : w.cell? ⟨R, 0, none⟩ = some (.iface T (.pointer (some ⟨K, 0, none⟩))) := by simp [World.cell?, h1]
  have c1 : w.cell? ⟨R, 1, none⟩ = some (.int .i64 0) := by simp [World.cell?, h1]
  have HI : Hid (∀ x w1, KdQ K k T M0 b w x w1 → _) := Lib.hid fun x w1 q => KdQ.into h1 h3 h4 q
  have hp0 : b ≠ [] → ∀ g, (Value.slice p b.length c).ownBlock = some g → ¬ M0 g := fun hne g hg hm => hp hne g hg (.inr hm)
  cases k with
  | fix n q =>
    have HP := Lib.hid (fput12_any b p c h2 hb hp0 hl hc)
    obtain ⟨rfl, -⟩ := h2
    clear h1 hb hp hp0 hl hc h3 h4
    go_enter Tryd.func9, Tryd.ntmps9
    go_wp2_with fail
    refine HP.out.mono ?_
    intro x w1 hq
    obtain ⟨pv, nv, cv, rfl, hR1, hQ⟩ := HI.out _ _ hq
    have HQ := Lib.hid hQ
    have f1 : w1.frozen? ⟨R, 1, none⟩ = false := by simp [World.frozen?, hR1]
    have g1 : w1.cell? ⟨R, 1, none⟩ = some (.int .i64 0) := by simp [World.cell?, hR1]
    have g2 : (w1.setCell ⟨R, 1, none⟩ (.int .i64 (errK (.fix n q) b : Int))).cell? ⟨R, 1, none⟩ = some (.int .i64 (errK (.fix n q) b : Int)) := by have := heap_set (i := 1) (.int .i64 (errK (.fix n q) b : Int)) hR1; simp [World.cell?, this]
    clear hq hQ hR1 HI HP c0 c1
    generalize errK (.fix n q) b = er at *
    generalize numK (.fix n q) b = nu at *
    go_wp2_with fail
    go_quiet (fail)
    go_wp2_with fail
    go_ret3
    exact HQ.out _
  | unt cl q =>
    have HP := Lib.hid (uput12_any cl b p c h2 hb hp0 hl hc)
    obtain ⟨rfl, -⟩ := h2
    clear h1 hb hp hp0 hl hc h3 h4
    go_enter Tryd.func9, Tryd.ntmps9
    go_wp2_with fail
    refine HP.out.mono ?_
    intro x w1 hq
    obtain ⟨pv, nv, cv, rfl, hR1, hQ⟩ := HI.out _ _ hq
    have HQ := Lib.hid hQ
    have f1 : w1.frozen? ⟨R, 1, none⟩ = false := by simp [World.frozen?, hR1]
    have g1 : w1.cell? ⟨R, 1, none⟩ = some (.int .i64 0) := by simp [World.cell?, hR1]
    have g2 : (w1.setCell ⟨R, 1, none⟩ (.int .i64 (errK (.unt cl q) b : Int))).cell? ⟨R, 1, none⟩ = some (.int .i64 (errK (.unt cl q) b : Int)) := by have := heap_set (i := 1) (.int .i64 (errK (.unt cl q) b : Int)) hR1; simp [World.cell?, this]
    clear hq hQ hR1 HI HP c0 c1
    generalize errK (.unt cl q) b = er at *
    generalize numK (.unt cl q) b = nu at *
    go_wp2_with fail
    go_quiet (fail)
    go_wp2_with fail
    go_ret3
    exact HQ.out _
  | dec l y =>
    have HP := Lib.hid (dput12_any b p c h2 hb hp0 hl hc)
    obtain ⟨rfl, -⟩ := h2
    clear h1 hb hp hp0 hl hc h3 h4
    go_enter Tryd.func9, Tryd.ntmps9
    go_wp2_with fail
    refine HP.out.mono ?_
    intro x w1 hq
    obtain ⟨pv, nv, cv, rfl, hR1, hQ⟩ := HI.out _ _ hq
    have HQ := Lib.hid hQ
    have f1 : w1.frozen? ⟨R, 1, none⟩ = false := by simp [World.frozen?, hR1]
    have g1 : w1.cell? ⟨R, 1, none⟩ = some (.int .i64 0) := by simp [World.cell?, hR1]
    have g2 : (w1.setCell ⟨R, 1, none⟩ (.int .i64 (errK (.dec l y) b : Int))).cell? ⟨R, 1, none⟩ = some (.int .i64 (errK (.dec l y) b : Int)) := by have := heap_set (i := 1) (.int .i64 (errK (.dec l y) b : Int)) hR1; simp [World.cell?, this]
    clear hq hQ hR1 HI HP c0 c1
    generalize errK (.dec l y) b = er at *
    generalize numK (.dec l y) b = nu at *
    go_wp2_with fail
    go_quiet (fail)
    go_wp2_with fail
    go_ret3
    exact HQ.out _
end

section
variable {R : Nat} {k : Kd} {e : Nat} {M : Nat → Prop} {w : World}
/-- What Close leaves. -/
def ShutI (R : Nat) (k : Kd) (e : Nat) (M : Nat → Prop) (w : World) (x : Ending) (w' : World) : Prop :=
  x = .returned (.int .i64 (shutE k e : Int)) ∧ InAt R (shutK k) (shutE k e) M w' ∧ Moves M M w w'
theorem Moves.one {M : Nat → Prop} {g i : Nat} {v : Value} (h : M g) : Moves M M w (w.setCell ⟨g, i, none⟩ v) :=
  ⟨rfl, rfl, rfl, by simp [World.setCell], fun j _ hj => Below.heap_setCell _ _ _ _ (fun (e : j = g) => hj (e ▸ h)), fun _ h => .inl h⟩
theorem InAt.fail {T : TypeId} {K : Nat} {M0 : Nat → Prop} (h1 : w.heap[R]? = some (.cells #[.iface T (.pointer (some ⟨K, 0, none⟩)), .int .i64 (e : Int)] 54 (0, 0))) (h2 : KdAt K k T M0 w) (h3 : ¬ M0 R) (h4 : 0 < R) (f : Nat) :
    InAt R k f (fun g => g = R ∨ M0 g) (w.setCell ⟨R, 1, none⟩ (.int .i64 (f : Int))) := ⟨T, K, M0, heap_set _ h1, h2.beside h3 h4, h3, h4, rfl⟩

set_option maxHeartbeats 4000000 in
theorem closeI (h : InAt R k e M w) : Calls Tryd.prog 15 #[.pointer (some ⟨R, 0, none⟩)] w fun x w' => ShutI R k e M w x w' := by
  have H := Lib.hid h
  obtain ⟨T, K, M0, h1, h2, h3, h4, rfl⟩ := h
  have c0 : w.cell? ⟨R, 0, none⟩ = some (.iface T (.pointer (some ⟨K, 0, none⟩))) := by simp [World.cell?, h1]
  have c1 : w.cell? ⟨R, 1, none⟩ = some (.int .i64 (e : Int)) := by simp [World.cell?, h1]
  have f1 : w.frozen? ⟨R, 1, none⟩ = false := by simp [World.frozen?, h1]
  cases k with
  | unt cl q =>
    obtain ⟨rfl, rfl, hK⟩ := h2
    have hne : R ≠ K := h3
    have fK : w.frozen? ⟨K, 1, none⟩ = false := by simp [World.frozen?, hK]
    have cK : w.cell? ⟨K, 1, none⟩ = some (.bool cl) := by simp [World.cell?, hK]
    have g1 : (w.setCell ⟨K, 1, none⟩ (.bool true)).cell? ⟨R, 1, none⟩ = some (.int .i64 (e : Int)) := by
      rw [World.cell?_of_block (Below.heap_setCell _ _ _ _ hne)]; exact c1
    have hta := fun W => (asU K W).2.1
    have HQ : Hid (ShutI R (.unt cl q) e (fun g => g = R ∨ g = K) w (.returned (.int .i64 (e : Int))) (w.setCell ⟨K, 1, none⟩ (.bool true))) := Lib.hid
      ⟨rfl, ⟨_, K, _, (Below.heap_setCell _ _ _ _ hne).trans h1, ⟨rfl, rfl, heap_set _ hK⟩, h3, h4, rfl⟩, Moves.one (.inr rfl)⟩
    clear h1 h3 h4 hK H
    go_enter Tryd.func15, Tryd.ntmps15
    go_wp2_with fail
    go_ret
    exact HQ.out
  | fix n q =>
    have HD := Lib.hid (fdone12_any K n q h2.2.2.1)
    have HF := Lib.hid (InAt.fail h1 h2 h3 h4 4)
    obtain ⟨rfl, -, hK, -⟩ := h2
    have hta := fun W => (asU K W).1
    have hE : shutE (.fix n q) e = if e = 0 ∧ decide (n = 0) = false then 4 else e := rfl
    unfold ShutI
    rw [hE, show shutK (.fix n q) = .fix n q from rfl]
    by_cases he : e = 0
    case neg =>
      rw [if_neg (fun h => he h.1)]
      have hb : ((e : Int) == 0) = false := beq_eq_false_iff_ne.2 (by omega)
      clear h1 h3 h4 hK HD HF he hE
      go_enter Tryd.func15, Tryd.ntmps15
      go_wp2_with fail
      go_ret
      exact ⟨rfl, H.out, Moves.refl _ _⟩
    subst he
    cases hd : decide (n = 0) with
    | true =>
      rw [hd] at HD
      rw [if_neg (by decide)]
      clear h1 h3 h4 hK HF hE hd
      go_enter Tryd.func15, Tryd.ntmps15
      go_wp2_with fail
      refine HD.out.mono ?_
      rintro x w' ⟨rfl, rfl⟩
      go_wp2_with fail
      go_ret
      exact ⟨rfl, H.out, Moves.refl _ _⟩
    | false =>
      rw [hd] at HD
      rw [if_pos (by decide)]
      have HM := Lib.hid (Moves.one (w := w) (M := fun g => g = R ∨ M0 g) (i := 1) (v := .int .i64 4) (.inl rfl))
      clear h1 h3 h4 hK H hE hd
      go_enter Tryd.func15, Tryd.ntmps15
      go_wp2_with fail
      refine HD.out.mono ?_
      rintro x w' ⟨rfl, rfl⟩
      go_wp2_with fail
      go_ret
      exact ⟨rfl, HF.out, HM.out⟩
  | dec l y =>
    have HD := Lib.hid (doneX w h2.2.1)
    have HF := Lib.hid (InAt.fail h1 h2 h3 h4 4)
    obtain ⟨rfl, hK, -⟩ := h2
    have hta := fun W => (asU K W).2.2
    have hE : shutE (.dec l y) e = if e = 0 ∧ decide (y.2.2 = 0) = false then 4 else e := rfl
    unfold ShutI
    rw [hE, show shutK (.dec l y) = .dec l y from rfl]
    by_cases he : e = 0
    case neg =>
      rw [if_neg (fun h => he h.1)]
      have hb : ((e : Int) == 0) = false := beq_eq_false_iff_ne.2 (by omega)
      clear h1 h3 h4 hK HD HF he hE
      go_enter Tryd.func15, Tryd.ntmps15
      go_wp2_with fail
      go_ret
      exact ⟨rfl, H.out, Moves.refl _ _⟩
    subst he
    cases hd : decide (y.2.2 = 0) with
    | true =>
      rw [hd] at HD
      rw [if_neg (by decide)]
      clear h1 h3 h4 hK HF hE hd
      go_enter Tryd.func15, Tryd.ntmps15
      go_wp2_with fail
      refine HD.out.mono ?_
      rintro x w' ⟨rfl, rfl⟩
      go_wp2_with fail
      go_ret
      exact ⟨rfl, H.out, Moves.refl _ _⟩
    | false =>
      rw [hd] at HD
      rw [if_pos (by decide)]
      have HM := Lib.hid (Moves.one (w := w) (M := fun g => g = R ∨ M0 g) (i := 1) (v := .int .i64 4) (.inl rfl))
      clear h1 h3 h4 hK H hE hd
      go_enter Tryd.func15, Tryd.ntmps15
      go_wp2_with fail
      refine HD.out.mono ?_
      rintro x w' ⟨rfl, rfl⟩
      go_wp2_with fail
      go_ret
      exact ⟨rfl, HF.out, HM.out⟩
end

end Go.Proofs.YtjkccacpffikbaaDoor
