/- The reader's chunk. -/
import Derived.Test.YtilebfpaibajcaaGreatDoorBodyRun
namespace Go.Proofs.YtilebfpaibajcaaGreatDoor
open Go.ChangeShapes Go.WideShapes Go.ChangeAt Go.RowKit
open Oc Fl Bk Bd
set_option linter.unusedVariables false
set_option maxRecDepth 100000

theorem ends_two (x : List UInt8) (h : (ends x).2 = 0) : (ends x).1 = 2 := by
  match x with
  | [] => simp [ends] at h
  | [b] => by_cases hb : b = 13 <;> simp [ends, hb] at h
  | b :: c :: r => by_cases hb : b = 13 <;> by_cases hc : c = 10 <;> simp [ends, hb, hc] at h ⊢

/-- What a chunk leaves. -/
def ChunkQ (B R : Nat) (tv : Value) (T : List UInt8) (l : Lim) (k : Nat) (D : List UInt8) (w : World) (x : Ending) (w' : World) : Prop :=
  ∃ k' dv' D', Solo B R w w' ∧ RAt B R tv T l k' dv' D' w' ∧
    ((∃ (e : Nat) (s' : St), x = threw e ∧ e ≠ 0 ∧ go l (sz D 0 0) (T.drop k) k = (s', k', e) ∧ s'.data = D') ∨
     (x = .returned (.bool true) ∧ go l (sz D 0 0) (T.drop k) k = go l (sz D' 0 0) (T.drop k') k' ∧ k < k') ∨
     (∃ c, x = .returned (.bool false) ∧ go l (sz D 0 0) (T.drop k) k = go l (s6 D' c) (T.drop k') k'))

set_option maxHeartbeats 8000000 in
theorem chunk_any {B R : Nat} {tv : Value} {T : List UInt8} {l : Lim} {k : Nat} {dv : Value} {D : List UInt8} (w : World) (h : RAt B R tv T l k dv D w) :
    Calls Tryz.prog 61 #[.pointer (some ⟨R, 0, none⟩)] w fun x w' => ChunkQ B R tv T l k D w x w' := by
  have HS := Lib.hid (size_any w h)
  clear h
  go_enter Tryz.func61, Tryz.ntmps61
  go_wp2_with fail
  refine Calls.mono HS.out ?_
  rintro x w1 ⟨k1, s1, r1, ⟨e, s', rfl, he, hgo, hd⟩ | ⟨n, c, b, rfl, hgo, hc, hk1, hb, hi, hn⟩⟩
  · have HQ := Lib.hid (show ChunkQ B R tv T l k D w (threw e) w1 from ⟨k1, dv, D, s1, r1, .inl ⟨e, s', rfl, he, hgo, hd⟩⟩)
    clear s1 r1 hgo hd HS he
    go_wp2_with fail
    exact ⟨rfl, HQ.out⟩
  have HE := Lib.hid (ext_any (n := n) (c := c) w1 r1 hc hb hi)
  have S1 := Lib.hid s1
  have G1 := Lib.hid hgo
  clear s1 r1 hgo hc hb hi HS
  go_wp2_with fail
  refine Calls.mono HE.out ?_
  rintro x w2 ⟨k2, s2, r2, ⟨e, s', rfl, he, hgo, hd⟩ | ⟨s, rfl, hgo, hh, hk2⟩⟩
  · have HQ := Lib.hid (show ChunkQ B R tv T l k D w (threw e) w2 from ⟨k2, dv, D, S1.out.trans s2, r2, .inl ⟨e, s', rfl, he, G1.out.trans hgo, hd⟩⟩)
    clear s2 r2 hgo hd HE he
    go_wp2_with fail
    exact ⟨rfl, HQ.out⟩
  have HN := Lib.hid (end_any w2 r2)
  obtain ⟨he1, he2⟩ := head_end (l := l) hh
  have S2 := Lib.hid (S1.out.trans s2)
  have G2 := Lib.hid (G1.out.trans hgo)
  obtain ⟨E, hE⟩ : ∃ E, ends (T.drop k2) = E := ⟨_, rfl⟩
  have HT := Lib.hid (show E.2 = 0 → E.1 = 2 from hE ▸ ends_two _)
  rw [hE] at he1 he2 HN
  have HE1 := Lib.hid he1
  have HE2 := Lib.hid he2
  clear s2 r2 hgo hh HE he1 he2 hE S1 G1
  go_wp2_with fail
  refine Calls.mono HN.out ?_
  rintro x w3 ⟨s3, r3, h0, h1⟩
  by_cases hE0 : E.2 = 0
  case neg =>
    obtain rfl := h1 hE0
    obtain ⟨s', hs', hd⟩ := HE1.out hE0
    have HQ := Lib.hid (show ChunkQ B R tv T l k D w (threw E.2) w3 from ⟨_, dv, D, S2.out.trans s3, r3, .inl ⟨E.2, s', rfl, hE0, G2.out.trans hs', hd⟩⟩)
    clear s3 r3 hs' hd h0 h1 HE1 HE2 HN
    go_wp2_with fail
    exact ⟨rfl, HQ.out⟩
  obtain rfl := h0 hE0
  obtain ⟨c', hg3, hle⟩ := HE2.out hE0
  have hE2 : E.1 = 2 := HT.out hE0
  rw [hE2] at r3
  have S3 := Lib.hid (S2.out.trans s3)
  have G3 := Lib.hid (G2.out.trans hg3)
  have R3 := Lib.hid r3
  clear s3 r3 h0 h1 HE1 HE2 HN hg3 hE0 hE2 G2 S2 HT
  by_cases hn0 : n = 0
  · subst hn0
    have HQ := Lib.hid (show ChunkQ B R tv T l k D w (.returned (.bool false)) w3 from ⟨k2 + 2, dv, D, S3.out, R3.out, .inr (.inr ⟨c', rfl, G3.out⟩)⟩)
    go_wp2_with fail
    go_ret
    exact HQ.out
  have hz : ((n : Int) == 0) = false := beq_eq_false_iff_ne.2 (by omega)
  have HR := Lib.hid (run_any w3 R3.out hn)
  go_wp2_with fail
  refine Calls.mono HR.out ?_
  rintro x w4 ⟨dv4, s4, ha, hbb⟩
  by_cases hlen : k2 + 2 + n ≤ T.length
  case neg =>
    obtain ⟨r4, rfl⟩ := hbb (by omega)
    obtain ⟨s', hs', hd⟩ := dt_some (l := l) (T := T) (D := D) (n := n) (c := c') (k := k2 + 2) hle (by omega)
    have HQ := Lib.hid (show ChunkQ B R tv T l k D w (threw 4) w4 from ⟨_, dv4, _, S3.out.trans s4, r4, .inl ⟨4, s', rfl, by decide, (by have := G3.out; rw [if_neg hn0] at this; exact this.trans hs'), hd⟩⟩)
    clear s4 r4 hs' hd ha hbb HR
    go_wp2_with fail
    exact ⟨rfl, HQ.out⟩
  obtain ⟨r4, rfl⟩ := ha hlen
  have HN := Lib.hid (end_any w4 r4)
  obtain ⟨D', hD'⟩ : ∃ D', D ++ (T.drop (k2 + 2)).take n = D' := ⟨_, rfl⟩
  have G4 := Lib.hid (show go l (sz D 0 0) (T.drop k) k = go l (d4 D' c') (T.drop (k2 + 2 + n)) (k2 + 2 + n) by
    have := G3.out
    rw [if_neg hn0] at this
    rw [← hD']
    exact this.trans (dt_all (by omega) hlen))
  rw [hD'] at HN
  obtain ⟨he1, he2⟩ := d4_end (l := l) (T := T) (D := D') (c := c') (k := k2 + 2 + n)
  obtain ⟨q, hq⟩ : ∃ q, k2 + 2 + n = q := ⟨_, rfl⟩
  rw [hq] at he1 he2 HN G4
  obtain ⟨E', hE⟩ : ∃ E, ends (T.drop q) = E := ⟨_, rfl⟩
  have HT := Lib.hid (show E'.2 = 0 → E'.1 = 2 from hE ▸ ends_two _)
  rw [hE] at he1 he2 HN
  have HE1 := Lib.hid he1
  have HE2 := Lib.hid he2
  have S4 := Lib.hid (S3.out.trans s4)
  clear s4 r4 ha hbb HR he1 he2 hE hD' G3 S3
  go_wp2_with fail
  refine Calls.mono HN.out ?_
  rintro x w5 ⟨s5, r5, h0, h1⟩
  by_cases hE0 : E'.2 = 0
  case neg =>
    obtain rfl := h1 hE0
    obtain ⟨s', hs', hd⟩ := HE1.out hE0
    have HQ := Lib.hid (show ChunkQ B R tv T l k D w (threw E'.2) w5 from ⟨_, dv4, D', S4.out.trans s5, r5, .inl ⟨E'.2, s', rfl, hE0, G4.out.trans hs', hd⟩⟩)
    clear s5 r5 hs' hd h0 h1 HE1 HE2 HN
    go_wp2_with fail
    exact ⟨rfl, HQ.out⟩
  obtain rfl := h0 hE0
  obtain ⟨hg5, hle5⟩ := HE2.out hE0
  have hE2 : E'.1 = 2 := HT.out hE0
  rw [hE2] at r5
  have HQ := Lib.hid (show ChunkQ B R tv T l k D w (.returned (.bool true)) w5 from ⟨q + 2, dv4, D', S4.out.trans s5, r5, .inr (.inl ⟨rfl, G4.out.trans hg5, by omega⟩)⟩)
  clear s5 r5 h0 h1 HE1 HE2 HN hg5 HT
  go_wp2_with fail
  go_ret
  exact HQ.out

end Go.Proofs.YtilebfpaibajcaaGreatDoor
