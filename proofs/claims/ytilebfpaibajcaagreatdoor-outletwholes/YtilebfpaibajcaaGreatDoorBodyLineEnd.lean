/- What the document's line answers at a line's end. -/
import Derived.Test.YtilebfpaibajcaaGreatDoorBodyLine
namespace Go.Proofs.YtilebfpaibajcaaGreatDoor
open Go.ChangeShapes Go.WideShapes Go.ChangeAt Go.RowKit
open Oc Fl Bk Bd
set_option linter.unusedVariables false
set_option maxRecDepth 100000

theorem eight_cells {A : World} {R : Nat} {x0 x1 x2 x3 x4 x5 x6 x7 : Value} {t : TypeId} (h : A.heap[R]? = some (.cells #[x0, x1, x2, x3, x4, x5, x6, x7] t (0, 0))) :
    (A.cell? ⟨R, 0, none⟩ = some x0 ∧ A.cell? ⟨R, 1, none⟩ = some x1 ∧ A.cell? ⟨R, 2, none⟩ = some x2 ∧ A.cell? ⟨R, 3, none⟩ = some x3 ∧ A.cell? ⟨R, 4, none⟩ = some x4 ∧ A.cell? ⟨R, 5, none⟩ = some x5 ∧ A.cell? ⟨R, 6, none⟩ = some x6 ∧ A.cell? ⟨R, 7, none⟩ = some x7) ∧ ∀ i, A.frozen? ⟨R, i, none⟩ = false := by
  simp [World.cell?, World.frozen?, h]
/-- A state is laid over another. -/
def over8 (A : World) (R : Nat) (u0 u1 u2 u3 u4 u5 u6 u7 : Value) : World := (((((((A.setCell ⟨R, 0, none⟩ u0).setCell ⟨R, 1, none⟩ u1).setCell ⟨R, 2, none⟩ u2).setCell ⟨R, 3, none⟩ u3).setCell ⟨R, 4, none⟩ u4).setCell ⟨R, 5, none⟩ u5).setCell ⟨R, 6, none⟩ u6).setCell ⟨R, 7, none⟩ u7
theorem over8_row {A : World} {R : Nat} {x0 x1 x2 x3 x4 x5 x6 x7 : Value} {t : TypeId} (h : A.heap[R]? = some (.cells #[x0, x1, x2, x3, x4, x5, x6, x7] t (0, 0))) (u0 u1 u2 u3 u4 u5 u6 u7 : Value) :
    (over8 A R u0 u1 u2 u3 u4 u5 u6 u7).heap[R]? = some (.cells #[u0, u1, u2, u3, u4, u5, u6, u7] t (0, 0)) := by
  have h0 : (A.setCell ⟨R, 0, none⟩ u0).heap[R]? = some (.cells #[u0, x1, x2, x3, x4, x5, x6, x7] t (0, 0)) := heap_set u0 h
  have h1 : ((A.setCell ⟨R, 0, none⟩ u0).setCell ⟨R, 1, none⟩ u1).heap[R]? = some (.cells #[u0, u1, x2, x3, x4, x5, x6, x7] t (0, 0)) := heap_set u1 h0
  have h2 : (((A.setCell ⟨R, 0, none⟩ u0).setCell ⟨R, 1, none⟩ u1).setCell ⟨R, 2, none⟩ u2).heap[R]? = some (.cells #[u0, u1, u2, x3, x4, x5, x6, x7] t (0, 0)) := heap_set u2 h1
  have h3 : ((((A.setCell ⟨R, 0, none⟩ u0).setCell ⟨R, 1, none⟩ u1).setCell ⟨R, 2, none⟩ u2).setCell ⟨R, 3, none⟩ u3).heap[R]? = some (.cells #[u0, u1, u2, u3, x4, x5, x6, x7] t (0, 0)) := heap_set u3 h2
  have h4 : (((((A.setCell ⟨R, 0, none⟩ u0).setCell ⟨R, 1, none⟩ u1).setCell ⟨R, 2, none⟩ u2).setCell ⟨R, 3, none⟩ u3).setCell ⟨R, 4, none⟩ u4).heap[R]? = some (.cells #[u0, u1, u2, u3, u4, x5, x6, x7] t (0, 0)) := heap_set u4 h3
  have h5 : ((((((A.setCell ⟨R, 0, none⟩ u0).setCell ⟨R, 1, none⟩ u1).setCell ⟨R, 2, none⟩ u2).setCell ⟨R, 3, none⟩ u3).setCell ⟨R, 4, none⟩ u4).setCell ⟨R, 5, none⟩ u5).heap[R]? = some (.cells #[u0, u1, u2, u3, u4, u5, x6, x7] t (0, 0)) := heap_set u5 h4
  have h6 : (((((((A.setCell ⟨R, 0, none⟩ u0).setCell ⟨R, 1, none⟩ u1).setCell ⟨R, 2, none⟩ u2).setCell ⟨R, 3, none⟩ u3).setCell ⟨R, 4, none⟩ u4).setCell ⟨R, 5, none⟩ u5).setCell ⟨R, 6, none⟩ u6).heap[R]? = some (.cells #[u0, u1, u2, u3, u4, u5, u6, x7] t (0, 0)) := heap_set u6 h5
  have h7 : ((((((((A.setCell ⟨R, 0, none⟩ u0).setCell ⟨R, 1, none⟩ u1).setCell ⟨R, 2, none⟩ u2).setCell ⟨R, 3, none⟩ u3).setCell ⟨R, 4, none⟩ u4).setCell ⟨R, 5, none⟩ u5).setCell ⟨R, 6, none⟩ u6).setCell ⟨R, 7, none⟩ u7).heap[R]? = some (.cells #[u0, u1, u2, u3, u4, u5, u6, u7] t (0, 0)) := heap_set u7 h6
  exact h7
theorem over8_below {B : Nat} {A W : World} (h : Below B A W) {R : Nat} (hR : B ≤ R) (u0 u1 u2 u3 u4 u5 u6 u7 : Value) : Below B A (over8 W R u0 u1 u2 u3 u4 u5 u6 u7) :=
  (((((((h.setCell hR _).setCell hR _).setCell hR _).setCell hR _).setCell hR _).setCell hR _).setCell hR _).setCell hR _
theorem over8_other (A : World) (R : Nat) (u0 u1 u2 u3 u4 u5 u6 u7 : Value) {g : Nat} (hg : g ≠ R) : (over8 A R u0 u1 u2 u3 u4 u5 u6 u7).heap[g]? = A.heap[g]? :=
  (Below.heap_setCell _ _ _ _ hg).trans ((Below.heap_setCell _ _ _ _ hg).trans ((Below.heap_setCell _ _ _ _ hg).trans ((Below.heap_setCell _ _ _ _ hg).trans ((Below.heap_setCell _ _ _ _ hg).trans ((Below.heap_setCell _ _ _ _ hg).trans ((Below.heap_setCell _ _ _ _ hg).trans (Below.heap_setCell _ _ _ _ hg)))))))

theorem rparse_any (s : ByteArray) (w : World) (hs : s.size ≤ 1099511627776) :
    Calls Tryz.prog 69 #[.string s] w fun e w' => e = .returned (.tuple #[fld (if good s = true then parsed s else ⟨⟨#[]⟩, ⟨#[]⟩⟩), .bool (good s)]) ∧ Below w.heap.size w w' := by
  cases hg : good s with
  | true => exact rparse_good s w hs hg
  | false => exact rparse_bad s w hs hg

theorem head_list8 (s : ByteArray) (k : Nat) : (s.extract 0 k).data.toList = s.data.toList.take k := by
  simp [ByteArray.data_extract, List.extract_eq_take_drop]
theorem drop_last_size (s : ByteArray) (h : 0 < s.size) : s.extract 0 (s.size - 1) = arr s.data.toList.dropLast := by
  refine b_ext ?_
  rw [head_list8, arr_list, List.dropLast_eq_take, blen']

set_option maxHeartbeats 8000000 in
theorem line_end {n c li si : Nat} {tx D : List UInt8} {fs : List Fld} {dv gv : Value} {l : Lim} (w : World) (hD : RD w dv D) (hF : FS w gv fs) (hs : ¬ l.bytes ≤ si) (hl : l.bytes ≤ 65536) (h0 : tx ≠ []) (htx : tx.length ≤ 1000000) (hfl : fs.length ≤ 1000000) :
    Calls Tryz.prog 59 #[stv ⟨9, n, c, li, si, tx, D, fs⟩ dv gv, .int .u8 10, limv l] w fun e w' => ∃ gv', e = .returned (.tuple #[stv ⟨6, n, c, li, si + 1, [], D, fs ++ [lf tx.dropLast]⟩ dv gv', .int .i64 0]) ∧ FS w' gv' (fs ++ [lf tx.dropLast]) ∧ Below w.heap.size w w' ∧ ∀ g, gv'.ownBlock = some g → w.heap.size ≤ g := by
  have HF := Lib.hid hF
  obtain ⟨pd, cd, rfl, -⟩ := hD
  obtain ⟨pf, cf, rfl, -⟩ := RS.slice hF
  clear hF
  unfold stv limv stc
  simp only
  have hs' : ¬ (l.bytes : Int) ≤ (si : Int) := by omega
  obtain ⟨q, hq⟩ : ∃ q, si + 1 = q := ⟨_, rfl⟩
  have hw : IntKind.i64.wrap ((si : Int) + 1) = (q : Int) := by rw [IntWalk.i64_in _ (by omega)]; omega
  rw [hq]
  have hlen : 0 < tx.length := List.length_pos_iff.2 h0
  obtain ⟨m, hm⟩ : ∃ m, tx.length - 1 = m := ⟨_, rfl⟩
  have has := arr_size tx
  have hsub : IntKind.i64.wrap (((arr tx).size : Int) - 1) = (m : Int) := by rw [IntWalk.i64_in _ (by omega)]; omega
  have hxt : ∀ W, (Instr.slice 9 (.string (arr tx)) none (some (.int .i64 (m : Int))) none).run Tryz.prog W = .ok (.string (arr tx.dropLast)) W := fun W => by
    have := run_slice_string_h (P := Tryz.prog) (w := W) (t := 9) (s := arr tx) Tryz.underlying9 .i64 (m : Int) (by omega) (by omega)
    rw [Int.toNat_natCast, show m = (arr tx).size - 1 by omega, drop_last_size _ (by omega), arr_list] at this
    rw [show m = (arr tx).size - 1 by omega]
    exact this
  have hdl : (arr tx.dropLast).size ≤ 1000000 := by rw [arr_size, List.length_dropLast]; omega
  have HP : Hid (∀ W, _) := Lib.hid fun W => rparse_any (arr tx.dropLast) W (by omega)
  rw [show (if good (arr tx.dropLast) = true then parsed (arr tx.dropLast) else ⟨⟨#[]⟩, ⟨#[]⟩⟩) = lf tx.dropLast from rfl] at HP
  obtain ⟨f, hf⟩ : ∃ f, lf tx.dropLast = f := ⟨_, rfl⟩
  rw [hf] at HP ⊢
  generalize good (arr tx.dropLast) = gd at HP
  generalize arr tx.dropLast = td at *
  generalize arr tx = ta at *
  have hta : (0 : Int) ≤ (m : Int) := by omega
  obtain ⟨w0, hw0⟩ : ∃ w0, ((w.alloc (.cells #[.int .i64 9, .int .u64 (n : Int), .int .i64 (c : Int), .int .i64 (li : Int), .int .i64 (q : Int), .string ta, .slice pd D.length cd, .slice pf fs.length cf] 75)).alloc (obL l)).alloc obZ = w0 := ⟨_, rfl⟩
  have z0 : w0.heap.size = w.heap.size + 3 := by rw [← hw0]; simp
  have b0 : Below w.heap.size w w0 := by rw [← hw0]; exact below3 _ _ _ _
  have s0 : w0.heap[w.heap.size]? = some (.cells #[.int .i64 9, .int .u64 (n : Int), .int .i64 (c : Int), .int .i64 (li : Int), .int .i64 (q : Int), .string ta, .slice pd D.length cd, .slice pf fs.length cf] 75 (0, 0)) := by
    rw [← hw0, Below.heap_alloc _ _ _ (by simp; omega), Below.heap_alloc _ _ _ (by simp)]; exact World.alloc_heap_new w _
  have t0 : w0.heap[w.heap.size + 2]? = some (.cells #[.int .i64 0, .int .u64 0, .int .i64 0, .int .i64 0, .int .i64 0, .string ⟨#[]⟩, .slice none 0 0, .slice none 0 0] 75 (0, 0)) := by rw [← hw0]; exact box3 w _ _ _
  have W0 := Lib.hid hw0
  clear hw0 hs hl htx h0 hlen hm hq has hdl hf
  go_enter Tryz.func59, Tryz.ntmps59
  go_wp2_with fail
  rw [W0.out]
  refine (HP.out _).mono ?_
  rintro e w1 ⟨rfl, hb1⟩
  obtain ⟨fx, fy⟩ := f
  obtain ⟨o, ho⟩ : ∃ o : Obj, .cells #[.string fx, .string fy] 86 = o := ⟨_, rfl⟩
  have z1 := hb1.size
  have s1 := (hb1.block _ (by omega)).trans s0
  have t1 := (hb1.block _ (by omega)).trans t0
  have b1 := ahead b0 hb1
  have bo := below_box w1 o
  have so : (w1.alloc o).heap.size = w1.heap.size + 1 := by simp
  obtain ⟨v1, w2, p0, p1, p2⟩ := run_append_fs (w1.alloc o) 38 (w1.heap.size + 1) (.slice none 0 0) (.slice pf fs.length cf) [] fs (World.ownsRow_nil _ _ _ _) (HF.out.below (ahead b1 bo)) (by simp; omega) (by omega)
  obtain ⟨q1, n1, c1, rfl⟩ := own_slice p1
  have z2 := p2.size
  have h2 : ∀ g, g < w1.heap.size + 1 → w2.heap[g]? = (w1.alloc o).heap[g]? := fun g hg => p2.block g (by omega) (by simp [Value.ownBlock])
  have o2 : w2.heap[w1.heap.size]? = some o := (h2 _ (by omega)).trans (World.alloc_heap_new w1 o)
  have bo2 := below_box w2 o
  have so2 : (w2.alloc o).heap.size = w2.heap.size + 1 := by simp
  have hfs := fs_one w2 ⟨fx, fy⟩ 86
  simp only at hfs
  rw [ho] at hfs
  rw [List.nil_append] at p1
  obtain ⟨v2, w3, r0, r1, r2⟩ := run_append_fs (w2.alloc o) 38 (w1.heap.size + 1) (.slice q1 n1 c1) _ fs [⟨fx, fy⟩] (own_same p1 fun g hg => bo2.block g (p1.lt g hg).2) hfs (by simp; omega) (by omega)
  obtain ⟨q2, n2, c2, rfl⟩ := own_slice r1
  have h3 : ∀ g, g < w1.heap.size → w3.heap[g]? = w1.heap[g]? := fun g hg => (r2.block g (by omega) (fun e => by have := (p1.lt g e.symm).1; omega)).trans ((bo2.block g (by omega)).trans ((h2 g (by omega)).trans (bo.block g hg)))
  have s3 := (h3 _ (by omega)).trans s1
  have t3 := (h3 _ (by omega)).trans t1
  have z3 := r2.size
  have b3 : Below w.heap.size w w3 := b1.trans ⟨(r2.os.trans (bo2.os.trans (p2.os.trans bo.os))), r2.tape.trans (bo2.tape.trans (p2.tape.trans bo.tape)), r2.output.trans (bo2.output.trans (p2.output.trans bo.output)), by omega, fun g hg => h3 g (by omega)⟩
  obtain ⟨⟨x0, x1, x2, x3, x4, x5, x6, x7⟩, fz⟩ := eight_cells s1
  obtain ⟨⟨y0, y1, y2, y3, y4, y5, y6, y7⟩, fy3⟩ := eight_cells s3
  obtain ⟨⟨u0, u1, u2, u3, u4, u5, u6, u7⟩, fz3⟩ := eight_cells t3
  have k0 : w2.cell? ⟨w1.heap.size, 0, none⟩ = some (.string fx) := by simp [World.cell?, o2, ← ho]
  have k1 : w2.cell? ⟨w1.heap.size, 1, none⟩ = some (.string fy) := by simp [World.cell?, o2, ← ho]
  subst ho
  have P0 := Lib.hid p0
  have R0 := Lib.hid r0
  have hlt : w.heap.size < w1.heap.size := by omega
  have HQ := Lib.hid (show ∃ gv', (Ending.returned (.tuple #[.agg #[.int .i64 6, .int .u64 (n : Int), .int .i64 (c : Int), .int .i64 (li : Int), .int .i64 (q : Int), .string ⟨#[]⟩, .slice pd D.length cd, .slice q2 n2 c2], .int .i64 0])) = .returned (.tuple #[.agg #[.int .i64 6, .int .u64 (n : Int), .int .i64 (c : Int), .int .i64 (li : Int), .int .i64 (q : Int), .string (arr []), .slice pd D.length cd, gv'], .int .i64 0]) ∧ FS (over8 (((w3.setCell ⟨w.heap.size, 7, none⟩ (.slice q2 n2 c2)).setCell ⟨w.heap.size, 5, none⟩ (.string ⟨#[]⟩)).setCell ⟨w.heap.size, 0, none⟩ (.int .i64 6)) (w.heap.size + 2) (.int .i64 6) (.int .u64 (n : Int)) (.int .i64 (c : Int)) (.int .i64 (li : Int)) (.int .i64 (q : Int)) (.string ⟨#[]⟩) (.slice pd D.length cd) (.slice q2 n2 c2)) gv' (fs ++ [⟨fx, fy⟩]) ∧
      Below w.heap.size w (over8 (((w3.setCell ⟨w.heap.size, 7, none⟩ (.slice q2 n2 c2)).setCell ⟨w.heap.size, 5, none⟩ (.string ⟨#[]⟩)).setCell ⟨w.heap.size, 0, none⟩ (.int .i64 6)) (w.heap.size + 2) (.int .i64 6) (.int .u64 (n : Int)) (.int .i64 (c : Int)) (.int .i64 (li : Int)) (.int .i64 (q : Int)) (.string ⟨#[]⟩) (.slice pd D.length cd) (.slice q2 n2 c2)) ∧ ∀ g, gv'.ownBlock = some g → w.heap.size ≤ g from by
    refine ⟨.slice q2 n2 c2, rfl, ?_, over8_below (((b3.setCell (Nat.le_refl _) _).setCell (Nat.le_refl _) _).setCell (Nat.le_refl _) _) (by omega) _ _ _ _ _ _ _ _, fun g hg => by have := (r1.lt g hg).1; omega⟩
    refine RS.of_own (own_same r1 fun g hg => ?_)
    have := (r1.lt g hg).1
    exact (over8_other _ _ _ _ _ _ _ _ _ _ (by omega)).trans ((Below.heap_setCell _ _ _ _ (by simp; omega)).trans ((Below.heap_setCell _ _ _ _ (by simp; omega)).trans (Below.heap_setCell _ _ _ _ (by simp; omega)))))
  have hrow := Lib.hid (over8_row (A := ((w3.setCell ⟨w.heap.size, 7, none⟩ (.slice q2 n2 c2)).setCell ⟨w.heap.size, 5, none⟩ (.string ⟨#[]⟩)).setCell ⟨w.heap.size, 0, none⟩ (.int .i64 6)) (R := w.heap.size + 2) ((Below.heap_setCell _ _ _ _ (by simp)).trans ((Below.heap_setCell _ _ _ _ (by simp)).trans ((Below.heap_setCell _ _ _ _ (by simp)).trans t3))) (.int .i64 6) (.int .u64 (n : Int)) (.int .i64 (c : Int)) (.int .i64 (li : Int)) (.int .i64 (q : Int)) (.string ⟨#[]⟩) (.slice pd D.length cd) (.slice q2 n2 c2))
  clear p0 r0 p1 r1 p2 r2 s1 t1 s3 t3 s0 t0 h2 h3 o2 hfs bo bo2 b0 b1 b3 hb1 HP W0 HF z0 z1 z2 z3 so so2
  go_wp2_with (first
    | (at_builtin; refine wpList_append_is rfl (.tmp 47) (.tmp 49) 38 rfl _ _ _ _ rfl rfl P0.out ?_)
    | (at_builtin; refine wpList_append_is rfl (.tmp 51) (.tmp 53) 38 rfl _ _ _ _ rfl rfl R0.out ?_))
  refine bodyPost_ret (results_two rfl _ _ (w.heap.size + 2) 75 _ (0, 0) _ rfl hrow.out Tryz.underlying75 rfl (by kernel_rfl)) rfl ?_
  exact HQ.out

/-- The state behind one byte more of a line. -/
def lnx (s : St) (b : UInt8) : St := if b = 10 ∧ s.place = 9 then { s with size := s.size + 1, fields := s.fields ++ [lf s.text.dropLast], text := [], place := 6 } else { s with size := s.size + 1, text := s.text ++ [b] }
/-- What a line's byte leaves. -/
def LineQ (l : Lim) (s : St) (b : UInt8) (dv gv : Value) (w : World) (e : Ending) (w' : World) : Prop :=
  Below w.heap.size w w' ∧ ∃ (s2 : St) (gv' : Value), e = .returned (.tuple #[stv s2 dv gv', .int .i64 ((lineE l s : Nat) : Int)]) ∧ (∃ p n c, gv' = .slice p n c) ∧ (lineE l s = 0 → s2 = lnx s b ∧ (gv' = gv ∧ s2.fields = s.fields ∨ FS w' gv' s2.fields ∧ ∀ g, gv'.ownBlock = some g → w.heap.size ≤ g))

theorem line_any {p n c li si : Nat} {tx D : List UInt8} {fs : List Fld} {dv gv : Value} {b : UInt8} {l : Lim} (w : World) (hD : RD w dv D) (hF : FS w gv fs) (hl : l.bytes ≤ 65536) (h0 : b = 10 → p = 9 → tx ≠ []) (htx : tx.length ≤ 1000000) (hfl : fs.length ≤ 1000000) :
    Calls Tryz.prog 59 #[stv ⟨p, n, c, li, si, tx, D, fs⟩ dv gv, .int .u8 (b.toNat : Int), limv l] w fun e w' => LineQ l ⟨p, n, c, li, si, tx, D, fs⟩ b dv gv w e w' := by
  obtain ⟨pf, cf, hgv, -⟩ := RS.slice hF
  by_cases hs : l.bytes ≤ si
  · have e5 : lineE l ⟨p, n, c, li, si, tx, D, fs⟩ = 5 := if_pos hs
    refine (line_full w hD hF hs).mono ?_
    rintro e w' ⟨rfl, hb⟩
    exact ⟨hb, _, gv, by rw [e5]; rfl, ⟨_, _, _, hgv⟩, fun h => by rw [e5] at h; cases h⟩
  · have e0 : lineE l ⟨p, n, c, li, si, tx, D, fs⟩ = 0 := if_neg hs
    by_cases hp : b = 10 ∧ p = 9
    · obtain ⟨rfl, rfl⟩ := hp
      refine (line_end w hD hF hs hl (h0 rfl rfl) htx hfl).mono ?_
      rintro e w' ⟨gv', rfl, h1, hb, h2⟩
      obtain ⟨p', c', hg', -⟩ := RS.slice h1
      exact ⟨hb, _, gv', by rw [e0]; rfl, ⟨_, _, _, hg'⟩, fun _ => ⟨by simp [lnx], .inr ⟨h1, h2⟩⟩⟩
    · refine (line_more w hD hF hs hl htx (Classical.or_iff_not_imp_left.2 fun h h9 => hp ⟨Classical.not_not.1 h, h9⟩)).mono ?_
      rintro e w' ⟨rfl, hb⟩
      exact ⟨hb, ⟨p, n, c, li, si + 1, tx ++ [b], D, fs⟩, gv, by rw [e0]; rfl, ⟨_, _, _, hgv⟩, fun _ => ⟨by rw [lnx, if_neg hp], .inl ⟨rfl, rfl⟩⟩⟩

end Go.Proofs.YtilebfpaibajcaaGreatDoor
