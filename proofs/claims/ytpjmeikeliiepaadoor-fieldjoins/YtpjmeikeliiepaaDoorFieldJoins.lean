/- The law FieldJoins. -/
import Derived.Test.YtpjmeikeliiepaaDoorFieldGets
namespace Go.Proofs.YtpjmeikeliiepaaDoor
open Go.ChangeShapes Go.WideShapes Go.ChangeAt Go.RowKit
open Oc Fl
set_option linter.unusedVariables false

/-- An empty list, just built, and lists behind it. -/
theorem ToldF.made (w : World) : ToldF w (w.alloc (.cells #[] 24)) (.slice (some ⟨w.heap.size, 0, none⟩) 0 0) [] :=
  ⟨World.ownsRow_made w #[] 0 (Nat.le_refl _) (by decide) rfl, below_box w _⟩
theorem Told.made (w : World) : Told w (w.alloc (.cells #[] 9)) (.slice (some ⟨w.heap.size, 0, none⟩) 0 0) [] :=
  ⟨World.ownsRow_made w #[] 0 (Nat.le_refl _) (by decide) rfl, below_box w _⟩
theorem ToldF.all {w wr : World} {v u : Value} {xs ys : List Fld} (h : ToldF w wr v xs) (hu : FS wr u ys) (ty : TypeId) (hl : xs.length + ys.length ≤ 1000000) :
    ∃ v' w', (Builtin.append_ #[35, 35] ty #[v, u]).run Tryd.prog wr = .ok v' w' ∧ ToldF w w' v' (xs ++ ys) := by
  have hz := h.below.size
  obtain ⟨v', w', r0, r1, r2⟩ := run_append_fs wr ty w.heap.size v u xs ys h.own hu (by omega) hz
  exact ⟨v', w', r0, r1, h.below.grown r2 hz (fun k hk => (h.own.lt k hk).1)⟩
theorem Told.all {w wr : World} {v u : Value} {xs ys : List ByteArray} (h : Told w wr v xs) (hu : TX wr u ys) (ty : TypeId) (hl : xs.length + ys.length ≤ 1000000) :
    ∃ v' w', (Builtin.append_ #[36, 36] ty #[v, u]).run Tryd.prog wr = .ok v' w' ∧ Told w w' v' (xs ++ ys) := by
  have hz := h.below.size
  obtain ⟨v', w', r0, r1, r2⟩ := run_append_tx wr ty w.heap.size v u xs ys h.own hu (by omega) hz
  exact ⟨v', w', r0, r1, h.below.grown r2 hz (fun k hk => (h.own.lt k hk).1)⟩

theorem wpList_append_wanted {P : Program} {w : World} {ops : Array Oper} {rest : List Oper} {o : Oper} {a : Act} {Q : Exit → Act → World → Prop}
    (hw : Region.wanted o (yielded ops a.tmps) = true) (s x : Operand) (t : TypeId) (hop : o.op = Op.call { callee := Callee.builtin Builtin.append, args := #[s, x], argTypes := #[t, t] })
    (v u v' : Value) (w' : World) (hs : a.eval s = v) (hx : a.eval x = u) (hrun : (Builtin.append_ #[t, t] o.type #[v, u]).run P w = .ok v' w')
    (hK : wpList P ops Q rest (a.put o.dst v') w') : wpList P ops Q (o :: rest) a w := by
  refine wpList_step fun K hK' => ?_
  rw [if_pos hw]
  unfold Oper.wp
  simp [execOp, hop, resolve, invoke, builtin, hs, hx, hrun, Result.andThen]
  exact hK' _ _ hK

set_option maxHeartbeats 8000000 in
set_option maxRecDepth 20000 in
theorem joins_walk (a b : List Fld) (n : ByteArray) (p q : Option Addr) (c d : Nat) (w : World) (hsp : Spans w) (hA : FS w (.slice p a.length c) a) (hB : FS w (.slice q b.length d) b) (hla : a.length ≤ 140737488355328) (hlb : b.length ≤ 140737488355328) (hfa : ∀ f ∈ a, f.name.size ≤ 140737488355328 ∧ f.value.size ≤ 140737488355328) (hfb : ∀ f ∈ b, f.name.size ≤ 140737488355328 ∧ f.value.size ≤ 140737488355328) (hnz : n.size ≤ 9223372036854775807) :
    Calls Tryd.prog 7 #[.slice p a.length c, .slice q b.length d, .string n] w fun e w' => e = .returned (.bool true) ∧ Below w.heap.size w w' := by
  have hW := Lib.hid (wakes5 w hsp)
  have hG : Hid (∀ W, Below w.heap.size w W → _) := Lib.hid fun W hb => great_any a p c W (hA.below hb) hla hfa
  have hG' : Hid (∀ W, Below w.heap.size w W → _) := Lib.hid fun W hb => great_any b q d W (hB.below hb) hlb hfb
  clear hsp hfa hfb
  by_cases h1 : 2000 < bulk a
  · rw [decide_eq_true h1] at hG
    clear h1 hA hB hG'
    go_enter Tryd.func7, Tryd.ntmps7
    go_wp2_with fail
    refine hW.out.mono ?_
    rintro e w1 ⟨rfl, hb1⟩
    replace hb1 := Lib.hid hb1
    go_wp2_with fail
    refine (hG.out _ hb1.out).mono ?_
    rintro e w2 ⟨rfl, hb2⟩
    replace hb2 := Lib.hid (ahead hb1.out hb2)
    go_wp2_with fail
    go_ret
    exact ⟨rfl, hb2.out⟩
  rw [decide_eq_false h1] at hG
  by_cases h2 : 2000 < bulk b
  · rw [decide_eq_true h2] at hG'
    clear h1 h2 hA hB
    go_enter Tryd.func7, Tryd.ntmps7
    go_wp2_with fail
    refine hW.out.mono ?_
    rintro e w1 ⟨rfl, hb1⟩
    replace hb1 := Lib.hid hb1
    go_wp2_with fail
    refine (hG.out _ hb1.out).mono ?_
    rintro e w2 ⟨rfl, hb2⟩
    replace hb2 := Lib.hid (ahead hb1.out hb2)
    go_wp2_with fail
    refine (hG'.out _ hb2.out).mono ?_
    rintro e w3 ⟨rfl, hb3⟩
    replace hb2 := Lib.hid (ahead hb2.out hb3)
    go_wp2_with fail
    go_ret
    exact ⟨rfl, hb2.out⟩
  rw [decide_eq_false h2] at hG'
  by_cases h3 : (300 : Int) < (n.size : Int)
  · clear h1 h2 hA hB
    go_enter Tryd.func7, Tryd.ntmps7
    go_wp2_with fail
    refine hW.out.mono ?_
    rintro e w1 ⟨rfl, hb1⟩
    replace hb1 := Lib.hid hb1
    go_wp2_with fail
    refine (hG.out _ hb1.out).mono ?_
    rintro e w2 ⟨rfl, hb2⟩
    replace hb2 := Lib.hid (ahead hb1.out hb2)
    go_wp2_with fail
    refine (hG'.out _ hb2.out).mono ?_
    rintro e w3 ⟨rfl, hb3⟩
    replace hb2 := Lib.hid (ahead hb2.out hb3)
    go_wp2_with fail
    go_ret
    exact ⟨rfl, hb2.out⟩
  have hn' : n.size ≤ 1099511627776 := by omega
  have la := small_len h1
  have lb := small_len h2
  have ma := Lib.hid (small_mem h1)
  have mb := Lib.hid (small_mem h2)
  have mab := Lib.hid (show ∀ f ∈ a ++ b, f.name.size ≤ 1099511627776 from fun f hf => by rcases List.mem_append.1 hf with hf | hf; exact ma.out f hf; exact mb.out f hf)
  have HA := Lib.hid hA
  have HB := Lib.hid hB
  clear h1 h2 hA hB
  go_enter Tryd.func7, Tryd.ntmps7
  go_wp2_with fail
  refine hW.out.mono ?_
  rintro e w1 ⟨rfl, hb1⟩
  replace hb1 := Lib.hid hb1
  go_wp2_with fail
  refine (hG.out _ hb1.out).mono ?_
  rintro e w2 ⟨rfl, hb2⟩
  replace hb2 := Lib.hid (ahead hb1.out hb2)
  go_wp2_with fail
  refine (hG'.out _ hb2.out).mono ?_
  rintro e w3 ⟨rfl, hb3⟩
  replace hb2 := Lib.hid (ahead hb2.out hb3)
  clear hb3 hb1 hG hW hG'
  replace HA := Lib.hid (HA.out.below hb2.out)
  replace HB := Lib.hid (HB.out.below hb2.out)
  obtain ⟨v1, w4, r0, r1⟩ := (ToldF.made w3).all (HA.out.below (below_box w3 _)) 35 (by simp; omega)
  obtain ⟨v2, w5, r2, r3⟩ := r1.all (HB.out.below r1.below) 35 (by simp; omega)
  rw [List.nil_append] at r3
  have R0 := Lib.hid r0
  have R2 := Lib.hid r2
  have R3 := Lib.hid r3
  clear r0 r1 r2 r3
  go_wp2_with (at_builtin; first | refine wpList_append_is rfl (.tmp 21) (.tmp 22) 35 rfl _ _ _ _ rfl rfl R0.out ?_ | refine wpList_append_is rfl (.tmp 23) (.tmp 24) 35 rfl _ _ _ _ rfl rfl R2.out ?_)
  obtain ⟨ab, hab⟩ : ∃ ab, ab = a ++ b := ⟨_, rfl⟩
  rw [← hab] at R3 mab
  have lab : ab.length ≤ 1000000 := by rw [hab]; simp; omega
  have jg := Lib.hid (show Fl.get ab n = Fl.get a n ++ Fl.get b n by rw [hab, get_append])
  have jw := Lib.hid (show without ab [n] = without a [n] ++ without b [n] by rw [hab, without_append])
  clear hab
  have HC := Lib.hid (show FS w5 v2 ab from RS.of_own R3.out.own)
  replace hb2 := Lib.hid (ahead hb2.out R3.out.below)
  replace HA := Lib.hid (HA.out.below R3.out.below)
  replace HB := Lib.hid (HB.out.below R3.out.below)
  clear R0 R2 R3
  obtain ⟨p2, c2, rfl, -, -⟩ := RS.slice HC.out
  have ga := get_len a n
  have gb := get_len b n
  have gab := get_len ab n
  have wa := without_len a [n]
  have wb := without_len b [n]
  have wab := without_len ab [n]
  have hone : Hid (∀ s ∈ [n], s.size ≤ 1099511627776) := Lib.hid fun s hs => by simp at hs; subst hs; exact hn'
  refine (get_any ab n p2 c2 w5 HC.out lab mab.out hn').mono ?_
  rintro e w6 ⟨v3, rfl, t1, hb3⟩
  replace hb2 := Lib.hid (ahead hb2.out hb3)
  replace HA := Lib.hid (HA.out.below hb3)
  replace HB := Lib.hid (HB.out.below hb3)
  replace HC := Lib.hid (HC.out.below hb3)
  have T1 := Lib.hid t1
  clear t1 hb3
  have O := Lib.hid (Told.made w6)
  go_wp2_with fail
  generalize w6.alloc _ = W at O ⊢
  refine (get_any a n p c W (HA.out.below O.out.below) (by omega) ma.out hn').mono ?_
  rintro e w7 ⟨v4, rfl, t2, hb3⟩
  obtain ⟨v5, w8, r0, r1⟩ := (O.out.next hb3).all t2 36 (by simp; omega)
  rw [List.nil_append] at r1
  have R0 := Lib.hid r0
  replace O := Lib.hid r1
  clear r0 r1 t2 hb3
  go_wp2_with (at_builtin; refine wpList_append_is rfl (.tmp 29) (.tmp 32) 36 rfl _ _ _ _ rfl rfl R0.out ?_)
  clear R0
  refine (get_any b n q d w8 (HB.out.below O.out.below) (by omega) mb.out hn').mono ?_
  rintro e w9 ⟨v6, rfl, t2, hb3⟩
  obtain ⟨v7, w10, r0, r1⟩ := (O.out.next hb3).all t2 36 (by omega)
  have R0 := Lib.hid r0
  replace O := Lib.hid r1
  clear r0 r1 t2 hb3
  go_wp2_with (at_builtin; refine wpList_append_is rfl (.tmp 33) (.tmp 36) 36 rfl _ _ _ _ rfl rfl R0.out ?_)
  clear R0
  refine (texts_any _ _ v3 v7 w10 (T1.out.below O.out.below) (RS.of_own O.out.own) (by omega) (by simp; omega) jg.out).mono ?_
  rintro e w11 ⟨rfl, hb3⟩
  have hb6 := Lib.hid (ahead O.out.below hb3)
  replace hb2 := Lib.hid (ahead hb2.out hb6.out)
  replace HA := Lib.hid (HA.out.below hb6.out)
  replace HB := Lib.hid (HB.out.below hb6.out)
  replace HC := Lib.hid (HC.out.below hb6.out)
  clear hb3 hb6 T1 O
  have hbx := below_box w11 (.cells #[.string n] 9)
  have hWn := Lib.hid (without_any ab [n] p2 (some ⟨w11.heap.size, 0, none⟩) c2 1 (w11.alloc (.cells #[.string n] 9)) (HC.out.below hbx) (tx_one_at w11 n 9) lab (by simp) mab.out hone.out)
  replace hb2 := Lib.hid (ahead hb2.out hbx)
  replace HA := Lib.hid (HA.out.below hbx)
  replace HB := Lib.hid (HB.out.below hbx)
  clear hbx HC
  go_wp2_with fail
  refine hWn.out.mono ?_
  rintro e w12 ⟨v8, rfl, t3, hb3⟩
  replace hb2 := Lib.hid (ahead hb2.out hb3)
  replace HA := Lib.hid (HA.out.below hb3)
  replace HB := Lib.hid (HB.out.below hb3)
  have T3 := Lib.hid t3
  clear t3 hb3 hWn
  have O := Lib.hid (ToldF.made w12)
  have hsz : (w12.alloc (.cells #[] 24)).heap.size = w12.heap.size + 1 := by simp
  have hWa := Lib.hid (without_any a [n] p (some ⟨w12.heap.size + 1, 0, none⟩) c 1 ((w12.alloc (.cells #[] 24)).alloc (.cells #[.string n] 9)) (HA.out.below (ahead O.out.below (below_box _ _))) (by have := tx_one_at (w12.alloc (.cells #[] 24)) n 9; rw [hsz] at this; exact this) (by omega) (by simp) ma.out hone.out)
  replace O := Lib.hid (O.out.next (below_box _ (.cells #[.string n] 9)))
  clear hsz
  go_wp2_with fail
  generalize (w12.alloc _).alloc _ = W2 at O hWa ⊢
  refine hWa.out.mono ?_
  rintro e w13 ⟨v9, rfl, t4, hb3⟩
  obtain ⟨v10, w14, r0, r1⟩ := (O.out.next hb3).all t4 35 (by simp; omega)
  rw [List.nil_append] at r1
  have R0 := Lib.hid r0
  replace O := Lib.hid r1
  clear r0 r1 t4 hb3 hWa
  have hbx := below_box w14 (.cells #[.string n] 9)
  have hWb := Lib.hid (without_any b [n] q (some ⟨w14.heap.size, 0, none⟩) d 1 (w14.alloc (.cells #[.string n] 9)) ((HB.out.below O.out.below).below hbx) (tx_one_at w14 n 9) (by omega) (by simp) mb.out hone.out)
  clear hbx
  go_wp2_with (at_builtin; refine wpList_append_wanted rfl (.tmp 44) (.tmp 48) 35 rfl _ _ _ _ rfl rfl R0.out ?_)
  clear R0
  refine hWb.out.mono ?_
  rintro e w15 ⟨v11, rfl, t4, hb3⟩
  obtain ⟨v12, w16, r0, r1⟩ := ((O.out.next (below_box _ _)).next hb3).all t4 35 (by omega)
  have R0 := Lib.hid r0
  replace O := Lib.hid r1
  clear r0 r1 t4 hb3 hWb
  go_wp2_with (at_builtin; refine wpList_append_wanted rfl (.tmp 49) (.tmp 53) 35 rfl _ _ _ _ rfl rfl R0.out ?_)
  clear R0
  refine (fields_any _ _ v8 v12 w16 (T3.out.below O.out.below) (RS.of_own O.out.own) (by omega) (by simp; omega) jw.out).mono ?_
  rintro e w17 ⟨rfl, hb3⟩
  replace hb2 := Lib.hid (ahead (ahead hb2.out O.out.below) hb3)
  clear hb3 O T3
  go_wp2_with fail
  go_ret
  exact ⟨rfl, hb2.out⟩

end Go.Proofs.YtpjmeikeliiepaaDoor
