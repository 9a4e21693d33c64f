/- The reader's section. -/
import Derived.Test.YtilebfpaibajcaaGreatDoorBodyWithin
namespace Go.Proofs.YtilebfpaibajcaaGreatDoor
open Go.ChangeShapes Go.WideShapes Go.ChangeAt Go.RowKit
open Go.Shelf
open Oc Fl Bk Bd
set_option linter.unusedVariables false
set_option maxRecDepth 100000

/-- The reader behind its end, with the fields that it has read. -/
structure REnd (B R : Nat) (tv : Value) (l : Lim) (k : Nat) (dv : Value) (D : List UInt8) (gv : Value) (fs : List Fld) (W : World) : Prop where
  blk : W.heap[R]? = some (.cells #[tv, .int .i64 (l.ext : Int), .int .i64 (l.fields : Int), .int .i64 (l.bytes : Int), .int .i64 (k : Int), dv, gv] 111 (0, 0))
  own : W.ownsRow B 5 1 dv D.length (bv D)
  flds : FS W gv fs
  gfar : ∀ g, gv.ownBlock = some g → B ≤ g

/-- What a section leaves. -/
def SecQ (B R : Nat) (tv : Value) (T : List UInt8) (l : Lim) (k c : Nat) (dv : Value) (D : List UInt8) (w : World) (x : Ending) (w' : World) : Prop :=
  Solo B R w w' ∧ ∃ (k' e : Nat) (s' : St), go l (s6 D c) (T.drop k) k = (s', k', e) ∧ s'.data = D ∧ (e ≠ 0 → x = threw e ∧ RAt B R tv T l k' dv D w') ∧ (e = 0 → x = .returned (.tuple #[]) ∧ ∃ gv, REnd B R tv l k' dv D gv s'.fields w')

theorem RAt.c6 {B R : Nat} {tv : Value} {T : List UInt8} {l : Lim} {k : Nat} {dv : Value} {D : List UInt8} {W : World} (h : RAt B R tv T l k dv D W) : W.cell? ⟨R, 6, none⟩ = some (.slice none 0 0) := by simp [World.cell?, h.blk]
theorem take_cut (T : List UInt8) (k b : Nat) (hk : k ≤ T.length) : (T.take (min (k + b) T.length)).drop k = (T.drop k).take b := by
  rw [List.drop_take]
  by_cases h : k + b ≤ T.length
  · rw [Nat.min_eq_left h, show k + b - k = b by omega]
  · rw [Nat.min_eq_right (by omega), List.take_of_length_le (by simp), List.take_of_length_le (by simp; omega)]

set_option maxHeartbeats 8000000 in
theorem section_any {B R : Nat} {tv : Value} {T : List UInt8} {l : Lim} {k c : Nat} {dv : Value} {D : List UInt8} (w : World) (h : RAt B R tv T l k dv D w) (hsp : Spans w) (hbd : Bound w) :
    Calls Tryz.prog 62 #[.pointer (some ⟨R, 0, none⟩)] w fun x w' => SecQ B R tv T l k c dv D w x w' := by
  obtain ⟨p, cap, htv, hcap, h3⟩ := h.slice
  have hk := h.small
  have hlm := h.lims
  obtain ⟨j, hj⟩ : ∃ j, min (k + (l.bytes + 2)) T.length = j := ⟨_, rfl⟩
  have hpart := fun i => ((htv ▸ h.text : RD w (.slice p T.length cap) T).below (drewN_below w i)).part (i := k) (j := j) (m := cap) (by omega) (by omega) (by omega) (by omega)
  rw [← hj, take_cut T k _ hk.2.1, hj] at hpart
  obtain ⟨uv, huv⟩ : ∃ uv, sliced p k j cap 1 = uv := ⟨_, rfl⟩
  rw [huv] at hpart
  have hcut : ∀ W, (Instr.slice 35 (.slice p T.length cap) (some (.int .i64 (k : Int))) (some (.int .i64 (j : Int))) none).run Tryz.prog W = .ok uv W := fun W => huv ▸ cut_lh p T.length cap k j (by omega) (by omega) W
  have hconv : ∀ i, (convert 35 9 uv).run Tryz.prog (w.drewN i) = .ok (.string ⟨((T.drop k).take (l.bytes + 2)).toArray⟩) (w.drewN i) := fun i => conv_rd (hpart i)
  obtain ⟨h1, h2, h3'⟩ := sec_read (l := l) (D := D) (c := c) (i := k) (T.drop k)
  unfold secW secM at h1 h2 h3'
  have htl : ((T.drop k).take (l.bytes + 2)).length ≤ l.bytes + 2 := by rw [List.length_take]; omega
  have htl2 : ((T.drop k).take (l.bytes + 2)).length ≤ T.length - k := by rw [List.length_take, List.length_drop]; omega
  generalize (T.drop k).take (l.bytes + 2) = t at *
  have hsz : (⟨t.toArray⟩ : ByteArray).size = t.length := arr_size t
  have hlist : (⟨t.toArray⟩ : ByteArray).data.toList = t := by simp
  have HSC : Hid (∀ i, _) := Lib.hid fun i => scan_far ⟨t.toArray⟩ (w.drewN i) (by omega) (hsp.below (drewN_below w i)) (hbd.below (drewN_below w i))
  rw [hlist] at HSC
  have hrk := run_kind 1 t
  obtain ⟨M, hM⟩ : ∃ M, (run 1 t).1 = M := ⟨_, rfl⟩
  obtain ⟨E, hE⟩ : ∃ E, (run 1 t).2 = E := ⟨_, rfl⟩
  have htold : E = 0 → told t = fof t := fun h => by unfold told; rw [hE, if_pos h]
  rw [hM, hE] at HSC h3'
  rw [hM] at h1 h2 hrk
  have hMl : M ≤ t.length := by omega
  have hxt : ∀ W, (Instr.slice 9 (.string ⟨t.toArray⟩) none (some (.int .i64 (M : Int))) none).run Tryz.prog W = .ok (.string (arr (t.take M))) W := fun W => by
    have hex : (⟨t.toArray⟩ : ByteArray).extract 0 M = arr (t.take M) := by
      have := head_list ⟨t.toArray⟩ M
      rw [hlist] at this
      rw [← this]; exact (arr_of _).symm
    have := run_slice_string_h (P := Tryz.prog) (w := W) (t := 9) (s := ⟨t.toArray⟩) Tryz.underlying9 .i64 (M : Int) (by omega) (by omega)
    rw [Int.toNat_natCast, hex] at this
    exact this
  obtain ⟨Wi, hWi⟩ : ∃ Wi, wi l M 0 (lns 0 (t.take M ++ [13, 10])) = Wi := ⟨_, rfl⟩
  rw [hWi] at h1 h2 h3'
  have hwn : (t.take M).length = M := by rw [List.length_take]; omega
  have HWN : Hid (∀ W, RAt B R tv T l k dv D W → Bound W → _) := Lib.hid fun W hR hB => within_any W hR hB (arr (t.take M)) (by rw [arr_size, hwn]; omega)
  rw [arr_size, hwn, arr_list, hWi] at HWN
  have c0 : ∀ i, (w.drewN i).cell? ⟨R, 0, none⟩ = some (.slice p T.length cap) := fun i => htv ▸ h.c0
  have c4 : ∀ i, (w.drewN i).cell? ⟨R, 4, none⟩ = some (.int .i64 (k : Int)) := fun i => h.c4
  have c3 : w.cell? ⟨R, 3, none⟩ = some (.int .i64 (l.bytes : Int)) := h.c3
  have w1 : IntKind.i64.wrap ((l.bytes : Int) + 2) = (l.bytes : Int) + 2 := IntWalk.i64_in _ (by omega)
  have w2 : IntKind.i64.wrap ((k : Int) + ((l.bytes : Int) + 2)) = (k : Int) + ((l.bytes : Int) + 2) := IntWalk.i64_in _ (by omega)
  have hmin : min ((k : Int) + ((l.bytes : Int) + 2)) (T.length : Int) = (j : Int) := by omega
  have H := Lib.hid h
  have HSP := Lib.hid hsp
  have HBD := Lib.hid hbd
  have H2 := Lib.hid h2
  have H3 := Lib.hid h3'
  have HT := Lib.hid htold
  have HK := Lib.hid (And.intro hk (And.intro htl2 hMl))
  clear h hsp hbd h2 h3' hpart h3 htold hk hlist hsz hj huv hcap hrk hM hE hWi hwn htl
  generalize arr (t.take M) = tM at *
  go_enter Tryz.func62, Tryz.ntmps62
  go_wp2_with fail
  go_quiet (fail)
  go_wp2_with fail
  refine (HSC.out _).mono ?_
  rintro e w1 ⟨gv, rfl, hfs, hb1, hfar⟩
  have HFAR := Lib.hid (show ∀ g, gv.ownBlock = some g → g ≠ R ∧ B ≤ g from fun g hg => by have h1 : w.heap.size ≤ g := hfar g hg; have h2 := H.out.base; omega)
  clear hfar
  have r1 := (H.out.drewN _).below hb1
  have s1 : Solo B R w w1 := ((Solo.refl B R w).drewN _).trans (Solo.of_below hb1 (H.out.drewN _).base.2)
  have b1 : Bound w1 := (HBD.out.below (drewN_below w _)).below hb1
  obtain ⟨pg, cg, rfl, -⟩ := RS.slice hfs
  have R1 := Lib.hid r1
  have S1 := Lib.hid s1
  have F1 := Lib.hid hfs
  have HW := Lib.hid (HWN.out w1 r1 b1)
  clear r1 s1 hfs b1 hb1 c0 c3 c4 hcut hconv HSC HWN
  go_wp2_with fail
  refine HW.out.mono ?_
  rintro e w2 ⟨rfl, hb2⟩
  have r2 := R1.out.below hb2
  have s2 := S1.out.trans (Solo.of_below hb2 R1.out.base.2)
  have f2 := F1.out.below hb2
  have c4 := r2.c4
  have f4 := r2.f 4
  have hkk := HK.out
  have R2 := Lib.hid r2
  have S2 := Lib.hid s2
  have F2 := Lib.hid f2
  clear r2 s2 f2 hb2 R1 S1 F1 HW H HSP HBD hxt
  by_cases hlt : Wi < M
  · have hlt' : (Wi : Int) < (M : Int) := by omega
    have hw : IntKind.i64.wrap ((k : Int) + (Wi : Int)) = ((k + Wi : Nat) : Int) := by rw [IntWalk.i64_in _ (by omega)]; omega
    obtain ⟨s', hg, hd⟩ := H2.out hlt
    have HQ := Lib.hid (show SecQ B R tv T l k c dv D w (threw 5) (w2.setCell ⟨R, 4, none⟩ (.int .i64 ((k + Wi : Nat) : Int))) from
      ⟨S2.out.set 4 _, k + Wi, 5, s', hg, hd, fun _ => ⟨rfl, R2.out.put (k + Wi) (by omega) (by omega)⟩, fun h => by cases h⟩)
    clear hg hd H2 H3 HT HK hkk
    go_wp2_with (go_at_call 76; refine (giveUp_any _ _ _).mono ?_; rintro e w'' ⟨rfl, rfl⟩)
    exact ⟨rfl, HQ.out⟩
  · have hlt' : ¬ (Wi : Int) < (M : Int) := by omega
    have hw : IntKind.i64.wrap ((k : Int) + (M : Int)) = ((k + M : Nat) : Int) := by rw [IntWalk.i64_in _ (by omega)]; omega
    obtain ⟨s', hg, hd, hf⟩ := H3.out hlt
    have hp := R2.out.put (k + M) (by omega) (by omega)
    by_cases hE : E = 0
    · subst hE
      have e6 := R2.out.c6
      have f6 := R2.out.f 6
      have HQ := Lib.hid (show SecQ B R tv T l k c dv D w (.returned (.tuple #[])) ((w2.setCell ⟨R, 4, none⟩ (.int .i64 ((k + M : Nat) : Int))).setCell ⟨R, 6, none⟩ (.slice pg (told t).length cg)) from by
        refine ⟨(S2.out.set 4 _).set 6 _, k + M, 0, s', hg, hd, fun h => absurd rfl h, fun _ => ⟨rfl, .slice pg (told t).length cg, ⟨heap_set _ hp.blk, own_same hp.own fun g hg => Below.heap_setCell _ _ _ _ (by have := (hp.own.lt g hg).1; have := hp.base; simp; omega), ?_, fun g hg => (HFAR.out g hg).2⟩⟩⟩
        rw [hf rfl, ← HT.out rfl]
        exact RS.keep F2.out fun g hg _ => (Below.heap_setCell _ _ _ _ (HFAR.out g hg).1).trans (Below.heap_setCell _ _ _ _ (HFAR.out g hg).1))
      clear hg hd hf hp H2 H3 HT HK hkk
      go_wp2_with fail
      go_end0
      exact HQ.out
    · have hEn : ((E : Int) != 0) = true := by unfold bne; rw [beq_eq_false_iff_ne.2 (by omega)]; rfl
      have HQ := Lib.hid (show SecQ B R tv T l k c dv D w (threw E) (w2.setCell ⟨R, 4, none⟩ (.int .i64 ((k + M : Nat) : Int))) from
        ⟨S2.out.set 4 _, k + M, E, s', hg, hd, fun _ => ⟨rfl, hp⟩, fun h => absurd h hE⟩)
      clear hg hd hf hp H2 H3 HT HK hkk
      go_wp2_with (go_at_call 76; refine (giveUp_any _ _ _).mono ?_; rintro e w'' ⟨rfl, rfl⟩)
      exact ⟨rfl, HQ.out⟩

end Go.Proofs.YtilebfpaibajcaaGreatDoor
