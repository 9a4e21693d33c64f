/- What the document's Step answers, at each place. -/
import Derived.Test.YtilebfpaibajcaaGreatDoorME
import Derived.Test.YtilebfpaibajcaaGreatDoorHexaBody
import Derived.Test.YtilebfpaibajcaaGreatDoorMD
import Derived.Test.YtilebfpaibajcaaGreatDoorFieldRef
import Derived.Test.YtilebfpaibajcaaGreatDoorMC
namespace Go.Proofs.YtilebfpaibajcaaGreatDoor
open Go.ChangeShapes Go.WideShapes Go.ChangeAt Go.RowKit
open Oc Fl Bk Bd
set_option linter.unusedVariables false
set_option maxRecDepth 100000

/-- A state of the document's reader, as a value; limits. -/
abbrev stc (p n c li si : Nat) (tx : List UInt8) (dv gv : Value) : Array Value := #[.int .i64 (p : Int), .int .u64 (n : Int), .int .i64 (c : Int), .int .i64 (li : Int), .int .i64 (si : Int), .string (arr tx), dv, gv]
def stv (s : St) (dv gv : Value) : Value := .agg (stc s.place s.n s.count s.lines s.size s.text dv gv)
def limv (l : Lim) : Value := .agg #[.int .i64 (l.ext : Int), .int .i64 (l.fields : Int), .int .i64 (l.bytes : Int)]

/-- Some state or other. -/
def AnySt (v : Value) : Prop := ∃ (a0 a1 a2 a3 a4 : Int) (a5 : ByteArray) (p6 : Option Addr) (n6 c6 : Nat) (p7 : Option Addr) (n7 c7 : Nat), v = .agg #[.int .i64 a0, .int .u64 a1, .int .i64 a2, .int .i64 a3, .int .i64 a4, .string a5, .slice p6 n6 c6, .slice p7 n7 c7]
/-- What a step leaves. -/
def StepQ (l : Lim) (s : St) (b : UInt8) (gv0 : Value) (w : World) (e : Ending) (w' : World) : Prop :=
  Below w.heap.size w w' ∧ (er l s b ≠ 0 → ∃ v, AnySt v ∧ e = .returned (.tuple #[v, .int .i64 ((er l s b : Nat) : Int)])) ∧
    (er l s b = 0 → ∃ dv gv, e = .returned (.tuple #[stv (nxt s b) dv gv, .int .i64 0]) ∧ RD w' dv (nxt s b).data ∧ FS w' gv (nxt s b).fields ∧ (gv = gv0 ∨ ∀ g, gv.ownBlock = some g → w.heap.size ≤ g))
theorem StepQ.bad {l : Lim} {s : St} {b : UInt8} {gv0 : Value} {w w' : World} {a0 a1 a2 a3 a4 : Int} {a5 : ByteArray} {p6 : Option Addr} {n6 c6 : Nat} {p7 : Option Addr} {n7 c7 : Nat} {k : Nat} (he : er l s b = k) (hk : k ≠ 0) (hb : Below w.heap.size w w') :
    StepQ l s b gv0 w (.returned (.tuple #[.agg #[.int .i64 a0, .int .u64 a1, .int .i64 a2, .int .i64 a3, .int .i64 a4, .string a5, .slice p6 n6 c6, .slice p7 n7 c7], .int .i64 (k : Int)])) w' :=
  ⟨hb, fun _ => ⟨_, ⟨a0, a1, a2, a3, a4, a5, p6, n6, c6, p7, n7, c7, rfl⟩, by rw [he]⟩, fun h => absurd (he.symm.trans h) hk⟩
theorem StepQ.ok {l : Lim} {s s' : St} {b : UInt8} {w w' : World} {dv gv gv0 : Value} (he : er l s b = 0) (hs : nxt s b = s') (hb : Below w.heap.size w w') (h1 : RD w' dv s'.data) (h2 : FS w' gv s'.fields) (hg : gv = gv0 ∨ ∀ g, gv.ownBlock = some g → w.heap.size ≤ g := by exact .inl rfl) : StepQ l s b gv0 w (.returned (.tuple #[stv s' dv gv, .int .i64 0])) w' :=
  ⟨hb, fun h => absurd he h, fun _ => ⟨dv, gv, by rw [hs], by rw [hs]; exact h1, by rw [hs]; exact h2, hg⟩⟩

theorem box3 (w : World) (x y z : Obj) : (((w.alloc x).alloc y).alloc z).heap[w.heap.size + 1 + 1]? = some z := by
  have := World.alloc_heap_new ((w.alloc x).alloc y) z
  simpa using this
theorem below3 (w : World) (x y z : Obj) : Below w.heap.size w (((w.alloc x).alloc y).alloc z) := ahead (ahead (below_box _ _) (below_box _ _)) (below_box _ _)
theorem below4 (w : World) (x y z u : Obj) : Below w.heap.size w ((((w.alloc x).alloc y).alloc z).alloc u) := ahead (below3 w x y z) (below_box _ _)
theorem box4 (w : World) (x y z u : Obj) : ((((w.alloc x).alloc y).alloc z).alloc u).heap[w.heap.size + 1 + 1]? = some z := by
  rw [Below.heap_alloc _ _ _ (by simp)]; exact box3 w x y z
theorem ub_ne {b c : UInt8} (h : b ≠ c) : (((b.toNat : Int)) == (c.toNat : Int)) = false := beq_eq_false_iff_ne.2 (fun e => h (UInt8.toNat.inj (by omega)))
theorem ub_nne {b c : UInt8} (h : b ≠ c) : (((b.toNat : Int)) != (c.toNat : Int)) = true := by unfold bne; rw [ub_ne h]; rfl
theorem conv_one8 (b : UInt8) (g : Nat) (wx : World) (h : wx.cell? ⟨g, 0, none⟩ = some (.int .u8 (b.toNat : Int))) :
    (convert 35 9 (.slice (some ⟨g, 0, none⟩) 1 1)).run Tryz.prog wx = .ok (.string ⟨#[b]⟩) wx :=
  run_convert_bytes_back (P := Tryz.prog) wx 35 9 5 ⟨g, 0, none⟩ 1 [b] Tryz.underlying35 Tryz.underlying5 Tryz.underlying9 (fun j hj => by
    obtain rfl : j = 0 := by simpa using hj
    exact h)
theorem token_one (b : UInt8) : token [b] = tkb b := by simp [token, tkb, every]

set_option maxHeartbeats 4000000 in
theorem step_4 {n c li si : Nat} {tx D : List UInt8} {fs : List Fld} {dv gv : Value} {b : UInt8} {l : Lim} (w : World) (hD : RD w dv D) (hF : FS w gv fs) :
    Calls Tryz.prog 46 #[stv ⟨4, n, c, li, si, tx, D, fs⟩ dv gv, .int .u8 (b.toNat : Int), limv l] w fun e w' => StepQ l ⟨4, n, c, li, si, tx, D, fs⟩ b gv w e w' := by
  have HD := Lib.hid hD
  have HF := Lib.hid hF
  obtain ⟨pd, cd, rfl, -⟩ := hD
  obtain ⟨pf, cf, rfl, -⟩ := RS.slice hF
  clear hF
  unfold stv limv stc
  simp only
  by_cases h13 : b = 13
  · subst h13
    go_enter Tryz.func46, Tryz.ntmps46
    go_wp2_with fail
    refine bodyPost_ret (results_two rfl _ _ (w.heap.size + 1 + 1) 75 _ (0, 0) _ rfl (box3 w _ _ _) Tryz.underlying75 rfl (by kernel_rfl)) rfl ?_
    exact StepQ.ok rfl rfl (below3 _ _ _ _) (HD.out.below (below3 _ _ _ _)) (HF.out.below (below3 _ _ _ _))
  · have hne : ((b.toNat : Int) != 13) = true := ub_nne h13
    have HE := Lib.hid (show er l ⟨4, n, c, li, si, tx, D, fs⟩ b = 2 by simp [er, h13])
    go_enter Tryz.func46, Tryz.ntmps46
    go_wp2_with fail
    refine bodyPost_ret (results_two rfl _ _ (w.heap.size + 1 + 1) 75 _ (0, 0) _ rfl (box3 w _ _ _) Tryz.underlying75 rfl (by kernel_rfl)) rfl ?_
    exact StepQ.bad (k := 2) HE.out (by decide) (below3 _ _ _ _)

set_option maxHeartbeats 4000000 in
theorem step_10 {n c li si : Nat} {tx D : List UInt8} {fs : List Fld} {dv gv : Value} {b : UInt8} {l : Lim} (w : World) (hD : RD w dv D) (hF : FS w gv fs) :
    Calls Tryz.prog 46 #[stv ⟨10, n, c, li, si, tx, D, fs⟩ dv gv, .int .u8 (b.toNat : Int), limv l] w fun e w' => StepQ l ⟨10, n, c, li, si, tx, D, fs⟩ b gv w e w' := by
  have HD := Lib.hid hD
  have HF := Lib.hid hF
  obtain ⟨pd, cd, rfl, -⟩ := hD
  obtain ⟨pf, cf, rfl, -⟩ := RS.slice hF
  clear hF
  unfold stv limv stc
  simp only
  by_cases h13 : b = 10
  · subst h13
    go_enter Tryz.func46, Tryz.ntmps46
    go_wp2_with fail
    refine bodyPost_ret (results_two rfl _ _ (w.heap.size + 1 + 1) 75 _ (0, 0) _ rfl (box3 w _ _ _) Tryz.underlying75 rfl (by kernel_rfl)) rfl ?_
    exact StepQ.ok rfl rfl (below3 _ _ _ _) (HD.out.below (below3 _ _ _ _)) (HF.out.below (below3 _ _ _ _))
  · have hne : ((b.toNat : Int) != 10) = true := ub_nne h13
    have HE := Lib.hid (show er l ⟨10, n, c, li, si, tx, D, fs⟩ b = 2 by simp [er, h13])
    go_enter Tryz.func46, Tryz.ntmps46
    go_wp2_with fail
    refine bodyPost_ret (results_two rfl _ _ (w.heap.size + 1 + 1) 75 _ (0, 0) _ rfl (box3 w _ _ _) Tryz.underlying75 rfl (by kernel_rfl)) rfl ?_
    exact StepQ.bad (k := 2) HE.out (by decide) (below3 _ _ _ _)

set_option maxHeartbeats 4000000 in
theorem step_5 {n c li si : Nat} {tx D : List UInt8} {fs : List Fld} {dv gv : Value} {b : UInt8} {l : Lim} (w : World) (hD : RD w dv D) (hF : FS w gv fs) :
    Calls Tryz.prog 46 #[stv ⟨5, n, c, li, si, tx, D, fs⟩ dv gv, .int .u8 (b.toNat : Int), limv l] w fun e w' => StepQ l ⟨5, n, c, li, si, tx, D, fs⟩ b gv w e w' := by
  have HD := Lib.hid hD
  have HF := Lib.hid hF
  obtain ⟨pd, cd, rfl, -⟩ := hD
  obtain ⟨pf, cf, rfl, -⟩ := RS.slice hF
  clear hF
  unfold stv limv stc
  simp only
  by_cases h13 : b = 10
  · subst h13
    go_enter Tryz.func46, Tryz.ntmps46
    go_wp2_with fail
    refine bodyPost_ret (results_two rfl _ _ (w.heap.size + 1 + 1) 75 _ (0, 0) _ rfl (box3 w _ _ _) Tryz.underlying75 rfl (by kernel_rfl)) rfl ?_
    exact StepQ.ok rfl rfl (below3 _ _ _ _) (HD.out.below (below3 _ _ _ _)) (HF.out.below (below3 _ _ _ _))
  · have hne : ((b.toNat : Int) != 10) = true := ub_nne h13
    have HE := Lib.hid (show er l ⟨5, n, c, li, si, tx, D, fs⟩ b = 2 by simp [er, h13])
    go_enter Tryz.func46, Tryz.ntmps46
    go_wp2_with fail
    refine bodyPost_ret (results_two rfl _ _ (w.heap.size + 1 + 1) 75 _ (0, 0) _ rfl (box3 w _ _ _) Tryz.underlying75 rfl (by kernel_rfl)) rfl ?_
    exact StepQ.bad (k := 2) HE.out (by decide) (below3 _ _ _ _)

set_option maxHeartbeats 4000000 in
theorem step_2 {n c li si : Nat} {tx D : List UInt8} {fs : List Fld} {dv gv : Value} {b : UInt8} {l : Lim} (w : World) (hD : RD w dv D) (hF : FS w gv fs) :
    Calls Tryz.prog 46 #[stv ⟨2, n, c, li, si, tx, D, fs⟩ dv gv, .int .u8 (b.toNat : Int), limv l] w fun e w' => StepQ l ⟨2, n, c, li, si, tx, D, fs⟩ b gv w e w' := by
  have HD := Lib.hid hD
  have HF := Lib.hid hF
  obtain ⟨pd, cd, rfl, -⟩ := hD
  obtain ⟨pf, cf, rfl, -⟩ := RS.slice hF
  clear hF
  unfold stv limv stc
  simp only
  by_cases h13 : b = 10
  · subst h13
    by_cases hn : n = 0
    · subst hn
      go_enter Tryz.func46, Tryz.ntmps46
      go_wp2_with fail
      refine bodyPost_ret (results_two rfl _ _ (w.heap.size + 1 + 1) 75 _ (0, 0) _ rfl (box3 w _ _ _) Tryz.underlying75 rfl (by kernel_rfl)) rfl ?_
      exact StepQ.ok rfl rfl (below3 _ _ _ _) (HD.out.below (below3 _ _ _ _)) (HF.out.below (below3 _ _ _ _))
    · have hn0 : (0 : Int) < (n : Int) := by omega
      have HE := Lib.hid (show nxt ⟨2, n, c, li, si, tx, D, fs⟩ 10 = ⟨3, n, c, li, si, tx, D, fs⟩ by simp [nxt, Nat.pos_of_ne_zero hn])
      go_enter Tryz.func46, Tryz.ntmps46
      go_wp2_with fail
      refine bodyPost_ret (results_two rfl _ _ (w.heap.size + 1 + 1) 75 _ (0, 0) _ rfl (box3 w _ _ _) Tryz.underlying75 rfl (by kernel_rfl)) rfl ?_
      exact StepQ.ok rfl HE.out (below3 _ _ _ _) (HD.out.below (below3 _ _ _ _)) (HF.out.below (below3 _ _ _ _))
  · have hne : ((b.toNat : Int) != 10) = true := ub_nne h13
    have HE := Lib.hid (show er l ⟨2, n, c, li, si, tx, D, fs⟩ b = 2 by simp [er, h13])
    go_enter Tryz.func46, Tryz.ntmps46
    go_wp2_with fail
    refine bodyPost_ret (results_two rfl _ _ (w.heap.size + 1 + 1) 75 _ (0, 0) _ rfl (box3 w _ _ _) Tryz.underlying75 rfl (by kernel_rfl)) rfl ?_
    exact StepQ.bad (k := 2) HE.out (by decide) (below3 _ _ _ _)

set_option maxHeartbeats 4000000 in
theorem step_1 {n c li si : Nat} {tx D : List UInt8} {fs : List Fld} {dv gv : Value} {b : UInt8} {l : Lim} (w : World) (hD : RD w dv D) (hF : FS w gv fs) (hc : c ≤ 65536) (hl : l.ext ≤ 65536) :
    Calls Tryz.prog 46 #[stv ⟨1, n, c, li, si, tx, D, fs⟩ dv gv, .int .u8 (b.toNat : Int), limv l] w fun e w' => StepQ l ⟨1, n, c, li, si, tx, D, fs⟩ b gv w e w' := by
  have HD := Lib.hid hD
  have HF := Lib.hid hF
  obtain ⟨pd, cd, rfl, -⟩ := hD
  obtain ⟨pf, cf, rfl, -⟩ := RS.slice hF
  clear hF
  unfold stv limv stc
  simp only
  by_cases h13 : b = 13
  · subst h13
    go_enter Tryz.func46, Tryz.ntmps46
    go_wp2_with fail
    refine bodyPost_ret (results_two rfl _ _ (w.heap.size + 1 + 1) 75 _ (0, 0) _ rfl (box3 w _ _ _) Tryz.underlying75 rfl (by kernel_rfl)) rfl ?_
    exact StepQ.ok rfl rfl (below3 _ _ _ _) (HD.out.below (below3 _ _ _ _)) (HF.out.below (below3 _ _ _ _))
  · have hne : ((b.toNat : Int) == 13) = false := ub_ne h13
    have hBy : Hid (∀ W, _) := Lib.hid fun W => rbyte_any (b.toNat : Int) (byte_lo _) (byte_hi _) W
    cases hx : txb b with
    | false =>
      have HE := Lib.hid (show er l ⟨1, n, c, li, si, tx, D, fs⟩ b = 2 by simp [er, h13, hx])
      rw [show txtB (b.toNat : Int) = false from hx] at hBy
      clear hx
      go_enter Tryz.func46, Tryz.ntmps46
      go_wp2_with (go_at_call 58; refine (hBy.out _).mono ?_; rintro e w' ⟨rfl, rfl⟩)
      refine bodyPost_ret (results_two rfl _ _ (w.heap.size + 1 + 1) 75 _ (0, 0) _ rfl (box3 w _ _ _) Tryz.underlying75 rfl (by kernel_rfl)) rfl ?_
      exact StepQ.bad (k := 2) HE.out (by decide) (below3 _ _ _ _)
    | true =>
      rw [show txtB (b.toNat : Int) = true from hx] at hBy
      by_cases hge : l.ext ≤ c
      · have HE := Lib.hid (show er l ⟨1, n, c, li, si, tx, D, fs⟩ b = 5 by simp [er, h13, hx, hge])
        have hge' : (l.ext : Int) ≤ (c : Int) := by omega
        clear hx
        go_enter Tryz.func46, Tryz.ntmps46
        go_wp2_with (go_at_call 58; refine (hBy.out _).mono ?_; rintro e w' ⟨rfl, rfl⟩)
        refine bodyPost_ret (results_two rfl _ _ (w.heap.size + 1 + 1) 75 _ (0, 0) _ rfl (box3 w _ _ _) Tryz.underlying75 rfl (by kernel_rfl)) rfl ?_
        exact StepQ.bad (k := 5) HE.out (by decide) (below3 _ _ _ _)
      · have HE := Lib.hid (show er l ⟨1, n, c, li, si, tx, D, fs⟩ b = 0 by simp [er, h13, hx, hge])
        have HN := Lib.hid (show nxt ⟨1, n, c, li, si, tx, D, fs⟩ b = ⟨1, n, c + 1, li, si, tx, D, fs⟩ by simp [nxt, h13])
        have hge' : ¬ (l.ext : Int) ≤ (c : Int) := by omega
        have hwr : IntKind.i64.wrap ((c : Int) + 1) = ((c + 1 : Nat) : Int) := by rw [IntWalk.i64_in _ (by omega)]; omega
        clear hx
        go_enter Tryz.func46, Tryz.ntmps46
        go_wp2_with (go_at_call 58; refine (hBy.out _).mono ?_; rintro e w' ⟨rfl, rfl⟩)
        refine bodyPost_ret (results_two rfl _ _ (w.heap.size + 1 + 1) 75 _ (0, 0) _ rfl (box3 w _ _ _) Tryz.underlying75 rfl (by kernel_rfl)) rfl ?_
        exact StepQ.ok HE.out HN.out (below3 _ _ _ _) (HD.out.below (below3 _ _ _ _)) (HF.out.below (below3 _ _ _ _))

set_option maxHeartbeats 4000000 in
theorem step_0 {n c li si : Nat} {tx D : List UInt8} {fs : List Fld} {dv gv : Value} {b : UInt8} {l : Lim} (w : World) (hD : RD w dv D) (hF : FS w gv fs) (hc : c ≤ 16) (hn : n ≤ 4611686018427387903) (hl : l.ext ≤ 65536) :
    Calls Tryz.prog 46 #[stv ⟨0, n, c, li, si, tx, D, fs⟩ dv gv, .int .u8 (b.toNat : Int), limv l] w fun e w' => StepQ l ⟨0, n, c, li, si, tx, D, fs⟩ b gv w e w' := by
  have HD := Lib.hid hD
  have HF := Lib.hid hF
  obtain ⟨pd, cd, rfl, -⟩ := hD
  obtain ⟨pf, cf, rfl, -⟩ := RS.slice hF
  clear hF
  unfold stv limv stc
  simp only
  obtain ⟨d, hd⟩ : ∃ d, Hx.dg (b.toNat : Int) = d := ⟨_, rfl⟩
  have hDg : Hid (∀ W, _) := Lib.hid fun W => H8.rdigit_any (b.toNat : Int) (H8.byte_lo _) (H8.byte_hi _) W
  rw [hd] at hDg
  have hd1 := Hx.dg_hi (b.toNat : Int)
  have hd2 := Hx.dg_lo (b.toNat : Int)
  rw [hd] at hd1 hd2
  cases hi : Hx.isd b with
  | true =>
    have hd0 : 0 ≤ d := by rw [← hd]; simpa [Hx.isd] using hi
    have HDN := Lib.hid (show ((dn b : Nat) : Int) = d by unfold dn; rw [hd]; omega)
    have w1 : IntKind.u64.wrap d = d := IntWalk.u64_in _ (by omega)
    have w2 : IntKind.u64.wrap (4611686018427387903 - d) = 4611686018427387903 - d := IntWalk.u64_in _ (by omega)
    have w3 : IntKind.u64.wrap ((4611686018427387903 - d).tdiv 16) = 288230376151711743 := by
      rw [Int.tdiv_eq_ediv_of_nonneg (by omega), IntWalk.u64_in _ (by omega)]; omega
    by_cases hbig : c = 16 ∨ 288230376151711743 < n
    · have HE := Lib.hid (show er l ⟨0, n, c, li, si, tx, D, fs⟩ b = 3 by simp [er, hi, hbig])
      clear hi hd
      by_cases hc16 : c = 16
      · subst hc16
        go_enter Tryz.func46, Tryz.ntmps46
        go_wp2_with (go_at_call 57; refine (hDg.out _).mono ?_; rintro e w' ⟨rfl, rfl⟩)
        refine bodyPost_ret (results_two rfl _ _ (w.heap.size + 1 + 1) 75 _ (0, 0) _ rfl (box3 w _ _ _) Tryz.underlying75 rfl (by kernel_rfl)) rfl ?_
        exact StepQ.bad (k := 3) HE.out (by decide) (below3 _ _ _ _)
      · have hc1 : ((c : Int) == 16) = false := beq_eq_false_iff_ne.2 (by omega)
        have hn1 : (288230376151711743 : Int) < (n : Int) := by omega
        go_enter Tryz.func46, Tryz.ntmps46
        go_wp2_with (go_at_call 57; refine (hDg.out _).mono ?_; rintro e w' ⟨rfl, rfl⟩)
        refine bodyPost_ret (results_two rfl _ _ (w.heap.size + 1 + 1) 75 _ (0, 0) _ rfl (box3 w _ _ _) Tryz.underlying75 rfl (by kernel_rfl)) rfl ?_
        exact StepQ.bad (k := 3) HE.out (by decide) (below3 _ _ _ _)
    · have HE := Lib.hid (show er l ⟨0, n, c, li, si, tx, D, fs⟩ b = 0 by simp [er, hi, hbig])
      have HN := Lib.hid (show nxt ⟨0, n, c, li, si, tx, D, fs⟩ b = ⟨0, 16 * n + dn b, c + 1, li, si, tx, D, fs⟩ by simp [nxt, hi])
      have hc1 : ((c : Int) == 16) = false := beq_eq_false_iff_ne.2 (by omega)
      have hn1 : ¬ (288230376151711743 : Int) < (n : Int) := by omega
      have w4 : IntKind.u64.wrap (16 * (n : Int)) = 16 * (n : Int) := IntWalk.u64_in _ (by omega)
      have w5 : IntKind.u64.wrap (16 * (n : Int) + d) = ((16 * n + dn b : Nat) : Int) := by have := HDN.out; rw [IntWalk.u64_in _ (by omega)]; omega
      have w6 : IntKind.i64.wrap ((c : Int) + 1) = ((c + 1 : Nat) : Int) := by rw [IntWalk.i64_in _ (by omega)]; omega
      clear hi hd
      go_enter Tryz.func46, Tryz.ntmps46
      go_wp2_with (go_at_call 57; refine (hDg.out _).mono ?_; rintro e w' ⟨rfl, rfl⟩)
      refine bodyPost_ret (results_two rfl _ _ (w.heap.size + 1 + 1) 75 _ (0, 0) _ rfl (box3 w _ _ _) Tryz.underlying75 rfl (by kernel_rfl)) rfl ?_
      exact StepQ.ok HE.out HN.out (below3 _ _ _ _) (HD.out.below (below3 _ _ _ _)) (HF.out.below (below3 _ _ _ _))
  | false =>
    have hd0 : ¬ 0 ≤ d := by rw [← hd]; simpa [Hx.isd] using hi
    by_cases h2 : c = 0 ∨ (b ≠ 59 ∧ b ≠ 13)
    · have HE := Lib.hid (show er l ⟨0, n, c, li, si, tx, D, fs⟩ b = 2 by simp only [er]; rw [hi, if_neg (by decide), if_pos h2])
      clear hi hd
      by_cases hc0 : c = 0
      · subst hc0
        go_enter Tryz.func46, Tryz.ntmps46
        go_wp2_with (go_at_call 57; refine (hDg.out _).mono ?_; rintro e w' ⟨rfl, rfl⟩)
        refine bodyPost_ret (results_two rfl _ _ (w.heap.size + 1 + 1) 75 _ (0, 0) _ rfl (box3 w _ _ _) Tryz.underlying75 rfl (by kernel_rfl)) rfl ?_
        exact StepQ.bad (k := 2) HE.out (by decide) (below3 _ _ _ _)
      · have hc1 : ((c : Int) == 0) = false := beq_eq_false_iff_ne.2 (by omega)
        have hb := h2.resolve_left hc0
        have n1 : ((b.toNat : Int) != 59) = true := ub_nne hb.1
        have n2 : ((b.toNat : Int) != 13) = true := ub_nne hb.2
        go_enter Tryz.func46, Tryz.ntmps46
        go_wp2_with (go_at_call 57; refine (hDg.out _).mono ?_; rintro e w' ⟨rfl, rfl⟩)
        refine bodyPost_ret (results_two rfl _ _ (w.heap.size + 1 + 1) 75 _ (0, 0) _ rfl (box3 w _ _ _) Tryz.underlying75 rfl (by kernel_rfl)) rfl ?_
        exact StepQ.bad (k := 2) HE.out (by decide) (below3 _ _ _ _)
    · have hc0 : c ≠ 0 := fun h => h2 (.inl h)
      have hc1 : ((c : Int) == 0) = false := beq_eq_false_iff_ne.2 (by omega)
      by_cases h13 : b = 13
      · subst h13
        have HE := Lib.hid (show er l ⟨0, n, c, li, si, tx, D, fs⟩ 13 = 0 by simp only [er]; rw [hi, if_neg (by decide), if_neg h2]; rfl)
        have HN := Lib.hid (show nxt ⟨0, n, c, li, si, tx, D, fs⟩ 13 = ⟨2, n, c, li, si, tx, D, fs⟩ by simp [nxt, hi])
        clear hi hd h2
        go_enter Tryz.func46, Tryz.ntmps46
        go_wp2_with (go_at_call 57; refine (hDg.out _).mono ?_; rintro e w' ⟨rfl, rfl⟩)
        refine bodyPost_ret (results_two rfl _ _ (w.heap.size + 1 + 1) 75 _ (0, 0) _ rfl (box3 w _ _ _) Tryz.underlying75 rfl (by kernel_rfl)) rfl ?_
        exact StepQ.ok HE.out HN.out (below3 _ _ _ _) (HD.out.below (below3 _ _ _ _)) (HF.out.below (below3 _ _ _ _))
      · have h59 : b = 59 := Classical.byContradiction fun h => h2 (.inr ⟨h, h13⟩)
        subst h59
        by_cases hl0 : l.ext < 1
        · have HE := Lib.hid (show er l ⟨0, n, c, li, si, tx, D, fs⟩ 59 = 5 by simp only [er]; rw [hi, if_neg (by decide), if_neg h2, if_neg (by decide), if_pos hl0])
          have hl1 : (l.ext : Int) < 1 := by omega
          clear hi hd h2
          go_enter Tryz.func46, Tryz.ntmps46
          go_wp2_with (go_at_call 57; refine (hDg.out _).mono ?_; rintro e w' ⟨rfl, rfl⟩)
          refine bodyPost_ret (results_two rfl _ _ (w.heap.size + 1 + 1) 75 _ (0, 0) _ rfl (box3 w _ _ _) Tryz.underlying75 rfl (by kernel_rfl)) rfl ?_
          exact StepQ.bad (k := 5) HE.out (by decide) (below3 _ _ _ _)
        · have HE := Lib.hid (show er l ⟨0, n, c, li, si, tx, D, fs⟩ 59 = 0 by simp only [er]; rw [hi, if_neg (by decide), if_neg h2, if_neg (by decide), if_neg hl0])
          have HN := Lib.hid (show nxt ⟨0, n, c, li, si, tx, D, fs⟩ 59 = ⟨1, n, 1, li, si, tx, D, fs⟩ by simp [nxt, hi])
          have hl1 : ¬ (l.ext : Int) < 1 := by omega
          clear hi hd h2
          go_enter Tryz.func46, Tryz.ntmps46
          go_wp2_with (go_at_call 57; refine (hDg.out _).mono ?_; rintro e w' ⟨rfl, rfl⟩)
          refine bodyPost_ret (results_two rfl _ _ (w.heap.size + 1 + 1) 75 _ (0, 0) _ rfl (box3 w _ _ _) Tryz.underlying75 rfl (by kernel_rfl)) rfl ?_
          exact StepQ.ok HE.out HN.out (below3 _ _ _ _) (HD.out.below (below3 _ _ _ _)) (HF.out.below (below3 _ _ _ _))

end Go.Proofs.YtilebfpaibajcaaGreatDoor
