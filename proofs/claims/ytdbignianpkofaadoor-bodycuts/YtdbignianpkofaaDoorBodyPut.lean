/- What the document's Put and Join of bodies answer. -/
import Derived.Test.YtdbignianpkofaaDoorBodyPutMath
import Derived.Test.YtdbignianpkofaaDoorBodyExt
import Derived.Test.YtdbignianpkofaaDoorFieldRef
import Derived.Test.YtdbignianpkofaaDoorFieldSame
import Derived.Test.YtdbignianpkofaaDoorHexaBody
import Derived.Lib.ConvBytes
namespace Go.Proofs.YtdbignianpkofaaDoor
open Go.ChangeShapes Go.WideShapes Go.ChangeAt Go.RowKit
open Oc Fl Bk Bd
set_option linter.unusedVariables false
set_option maxRecDepth 100000

/-- A list of slices of bytes: each reads as one of L. -/
def CS (W : World) (v : Value) (L : List (List UInt8)) : Prop := ∃ us, RS W 1 v L.length us ∧ us.length = L.length ∧ ∀ (i : Nat) (u : Value) (x : List UInt8), us[i]? = some u → L[i]? = some x → RD W u x
theorem CS.below {W W' : World} {v : Value} {L : List (List UInt8)} (h : CS W v L) (hb : Below W.heap.size W W') : CS W' v L := by
  obtain ⟨us, h1, h2, h3⟩ := h
  exact ⟨us, h1.below hb, h2, fun i u x hu hx => (h3 i u x hu hx).below hb⟩
theorem CS.slice {W : World} {v : Value} {L : List (List UInt8)} (h : CS W v L) : ∃ p c, v = .slice p L.length c ∧ L.length ≤ c ∧ c ≤ maxLen := by
  obtain ⟨us, h1, _⟩ := h
  exact h1.slice
theorem CS.at {W : World} {p : Option Addr} {n c : Nat} {L : List (List UInt8)} (h : CS W (.slice p n c) L) {i : Nat} {x : List UInt8} (hi : L[i]? = some x) : n = L.length ∧ ∃ ad pu cu, p = some ad ∧ W.cell? (ad.add i) = some (.slice pu x.length cu) ∧ RD W (.slice pu x.length cu) x := by
  obtain ⟨us, ⟨h0, p', c', e, h1, h2, h3, h4⟩, hl, hr⟩ := h
  cases e
  refine ⟨rfl, ?_⟩
  have hlt := (List.getElem?_eq_some_iff.1 hi).1
  cases p with
  | none => have := h3 rfl; omega
  | some ad =>
    have hu : us[i]? = some us[i] := List.getElem?_eq_getElem (by omega)
    have hrd := hr i _ x hu hi
    have hc := h4 ad rfl i _ hu
    obtain ⟨pu, cu, e, _⟩ := id hrd
    rw [e] at hrd hc
    exact ⟨ad, pu, cu, rfl, hc, hrd⟩

theorem rd_drewN {w : World} {v : Value} {xs : List UInt8} (h : RD w v xs) (n : Nat) : RD (w.drewN n) v xs := h.kept fun k _ => by simp
theorem drewN_in {A W : World} (h : Below A.heap.size A W) (n : Nat) : Below A.heap.size A (W.drewN n) := ⟨h.os, h.tape, h.output, h.size, h.block⟩
theorem flat_mem {L : List (List UInt8)} {x : List UInt8} (h : x ∈ L) : x.length ≤ L.flatten.length := by
  induction L with
  | nil => cases h
  | cons y L ih =>
    simp only [List.flatten_cons, List.length_append]
    rcases List.mem_cons.1 h with rfl | h
    · omega
    · have := ih h; omega
theorem flat_take (L : List (List UInt8)) (k : Nat) : (L.take k).flatten.length ≤ L.flatten.length := by
  induction L generalizing k with
  | nil => simp
  | cons x L ih =>
    cases k with
    | zero => simp
    | succ k => have := ih k; simp only [List.take_succ_cons, List.flatten_cons, List.length_append]; omega
theorem cks_take {e : List UInt8} {L : List (List UInt8)} {k : Nat} {x : List UInt8} (h : L[k]? = some x) : cks e (L.take (k + 1)) = cks e (L.take k) ++ ck e x := by
  rw [List.take_add_one, h, Option.toList_some, cks_snoc]
theorem cks_len (e : List UInt8) (cs : List (List UInt8)) (h : cs.flatten.length ≤ 1000) : (cks e cs).length ≤ cs.flatten.length + cs.length * (e.length + 7) := by
  induction cs with
  | nil => simp [cks]
  | cons c cs ih =>
    simp only [List.flatten_cons, List.length_append] at h
    have := ih (by omega)
    have h1 : (ck e c).length ≤ c.length + (e.length + 7) := by
      unfold ck
      split
      · simp
      · have := Hx.put_len c.length 2 (by omega)
        simp
        omega
    rw [cks_cons]
    simp only [List.flatten_cons, List.length_append, List.length_cons, Nat.add_mul, Nat.one_mul]
    omega
theorem cks_bound {e : List UInt8} {cs : List (List UInt8)} (h : cs.flatten.length ≤ 500) (hn : cs.length ≤ 21) (he : e.length ≤ 51) (k : Nat) : (cks e (cs.take k)).length ≤ 2000 := by
  have h1 := flat_take cs k
  have h2 := cks_len e (cs.take k) (by omega)
  have h3 : (cs.take k).length * (e.length + 7) ≤ 21 * 58 := Nat.mul_le_mul (by simp; omega) (by omega)
  omega
theorem rhex8 (n : Nat) (W : World) (h : n ≤ 1000) : Calls Tryd.prog 32 #[.int .u64 (n : Int)] W fun e w' => e = .returned (.string (arr (Hx.put n))) ∧ ∃ m, w' = W.drewN m :=
  (H8.rput_any (n + 1) (n : Int) W (by omega) (by omega) (by omega)).mono fun e w' ⟨h1, h2⟩ => ⟨h1, h2⟩
theorem body_take8 {l : List Fld} {k : Nat} {f : Fld} (h : l[k]? = some f) : body (l.take (k + 1)) = body (l.take k) ++ (line f).data.toList ++ [13, 10] := by
  rw [List.take_add_one, h, Option.toList_some, body_snoc]
theorem body_take_len8 (l : List Fld) (k : Nat) : (body (l.take k)).length ≤ bulk l * 4 := Nat.le_trans (body_len _) (Nat.mul_le_mul_right _ (bulk_take l k))
theorem arr_app8 (a b : List UInt8) : arr a ++ arr b = arr (a ++ b) := b_ext (by rw [arr_list]; simp [arr])
theorem arr_app8' (a : List UInt8) (s : ByteArray) : arr a ++ s = arr (a ++ s.data.toList) := by rw [← arr_app8, arr_of]

/-- A text as bytes of a row of its own. -/
theorem bytes_rd (w : World) (x : List UInt8) (h : x.length ≤ 1099511627776) : ∃ c w', (convert 9 22 (.string (arr x))).run Tryd.prog w = .ok (.slice (some ⟨w.heap.size, 0, none⟩) x.length c) w' ∧ RD w' (.slice (some ⟨w.heap.size, 0, none⟩) x.length c) x ∧ Below w.heap.size w w' := by
  have hc := Lib.run_convert_string_bytes (P := Tryd.prog) w 9 22 5 (arr x) Tryd.underlying9 Tryd.underlying22 Tryd.underlying5
  have hsz := arr_size x
  have g1 := grownCap_ge w (arr x).size 0 5
  have g2 := grownCap_le_maxLen w (arr x).size 0 5 (by simp only [maxLen]; omega)
  rw [hsz] at hc g1 g2
  refine ⟨_, _, hc, ⟨_, _, rfl, by omega, g2, (fun h => by cases h), fun ad hp i b hb => ?_⟩, ?_⟩
  · cases hp
    have hi := (List.getElem?_eq_some_iff.1 hb).1
    have e : ((⟨w.heap.size, 0, none⟩ : Addr).add i) = ⟨w.heap.size, i, none⟩ := by cases i <;> simp [Addr.add]
    rw [e, Lib.bytesWorld_cell w _ (arr x) i (by omega), arr_list]
    simp [List.getD, hb]
  · exact ⟨rfl, rfl, rfl, by rw [Lib.bytesWorld_size]; omega, fun j hj => Lib.bytesWorld_at_old w _ _ j hj⟩

set_option maxHeartbeats 8000000 in
theorem rput8_any (cs : List (List UInt8)) (e : List UInt8) (fs : List Fld) (p q : Option Addr) (c d : Nat) (w : World) (hC : CS w (.slice p cs.length c) cs) (hF : FS w (.slice q fs.length d) fs) (hn : cs.length ≤ 21) (hl : cs.flatten.length ≤ 500) (he : e.length ≤ 51) (hb : bulk fs ≤ 2000) :
    Calls Tryd.prog 21 #[.slice p cs.length c, .string (arr e), .slice q fs.length d] w fun x w' => ∃ v, x = .returned v ∧ RD w' v (bod e cs fs) ∧ Below w.heap.size w w' := by
  have HC := Lib.hid hC
  have HF := Lib.hid hF
  have hes := arr_size e
  have hfl := bulk_len fs
  have HE : Hid (arr e = arr e) := Lib.hid rfl
  obtain ⟨eb, heb⟩ : ∃ x, arr e = x := ⟨_, rfl⟩
  rw [heb] at hes HE ⊢
  replace HE := Lib.hid heb
  clear hC hF heb
  go_enter Tryd.func21, Tryd.ntmps21
  go_wp2_with fail
  go_loopw [7, 8] (fun v i wr => ∃ (k : Nat), k ≤ cs.length ∧ i = .int .i64 k ∧ v = .string (arr (cks e (cs.take k))) ∧ Hid (Below w.heap.size w wr)) (fun _ i _ => cs.length - (intOf i).toNat)
  case atStart => exact ⟨0, Nat.zero_le _, rfl, rfl, Lib.hid (Below.refl _ _)⟩
  case round =>
    obtain ⟨k, hk, rfl, rfl, HB⟩ := hrel
    have hbl := cks_bound hl hn he k
    have hbs := arr_size (cks e (cs.take k))
    by_cases hlt : k < cs.length
    · obtain ⟨x, hx⟩ : ∃ x, cs[k]? = some x := ⟨_, List.getElem?_eq_getElem hlt⟩
      obtain ⟨-, ad, pu, cu, rfl, c0, hu⟩ := (HC.out.below HB.out).at hx
      have hxl := flat_mem (List.mem_of_getElem? hx)
      by_cases hx0 : x.length = 0
      · have hnx : x = [] := List.eq_nil_of_length_eq_zero hx0
        have HT := Lib.hid (show cks e (cs.take (k + 1)) = cks e (cs.take k) by rw [cks_take hx, hnx]; simp [ck])
        rw [hx0] at c0
        clear hx hu hbl hbs hnx hxl
        generalize hsb : arr (cks e (cs.take k)) = sb at *
        have HSB := Lib.hid hsb
        clear hsb
        go_wp2_with fail
        go_roundw
        case rel => exact ⟨k + 1, by omega, by go_num, by rw [HT.out, HSB.out], HB⟩
        case measure => simp [intOf]; omega
      · have hnx : x ≠ [] := fun h => hx0 (by rw [h]; rfl)
        have hp : (Hx.put x.length).length ≤ 3 := Hx.put_len x.length 2 (by omega)
        have hps := arr_size (Hx.put x.length)
        have hxs := arr_size x
        have hx1 : (0 : Int) < (x.length : Int) := by omega
        have hw : IntKind.u64.wrap (x.length : Int) = (x.length : Int) := IntWalk.u64_in _ (by omega)
        have hcv : ∀ i, (convert 22 9 (.slice pu x.length cu)).run Tryd.prog (wr.drewN i) = .ok (.string (arr x)) (wr.drewN i) := fun i => conv_rd (rd_drewN hu i)
        have HX : Hid (∀ W, _) := Lib.hid fun W => rhex8 x.length W (by omega)
        have HA := Lib.hid (show arr (cks e (cs.take k)) ++ arr (Hx.put x.length) ++ eb ++ ⟨#[13, 10]⟩ ++ arr x ++ ⟨#[13, 10]⟩ = arr (cks e (cs.take (k + 1))) by
          rw [cks_take hx, ← HE.out, show (⟨#[13, 10]⟩ : ByteArray) = arr [13, 10] from rfl]
          simp only [arr_app8, ck, if_neg hnx, List.append_assoc])
        obtain ⟨sb', hsb'⟩ : ∃ x, arr (cks e (cs.take (k + 1))) = x := ⟨_, rfl⟩
        rw [hsb'] at HA
        have HSB := Lib.hid hsb'
        clear hsb'
        generalize arr (cks e (cs.take k)) = sb at *
        generalize arr (Hx.put x.length) = ph at *
        generalize arr x = xb at *
        have z1 : sb.size ≤ 8000 := by omega
        have z2 : ph.size ≤ 8000 := by omega
        have z3 : xb.size ≤ 8000 := by omega
        have z4 : eb.size ≤ 8000 := by omega
        clear hx hu hbl hbs hnx hxl hp hps hxs
        go_wp2_with fail
        go_quiet ((go_at_call 32; exact Calls.quiet_of (HX.out _)))
        go_wp2_with fail
        go_roundw
        case rel => exact ⟨k + 1, by omega, by go_num, by rw [HA.out, HSB.out], Lib.hid (drewN_in HB.out _)⟩
        case measure => simp [intOf]; omega
    · obtain rfl : k = cs.length := by omega
      rw [List.take_length] at *
      have HA := Lib.hid (show arr (cks e cs) ++ ⟨#[48]⟩ ++ eb ++ ⟨#[13, 10]⟩ = arr (cks e cs ++ ([48] ++ e ++ [13, 10])) by
        rw [← HE.out, show (⟨#[13, 10]⟩ : ByteArray) = arr [13, 10] from rfl, show (⟨#[48]⟩ : ByteArray) = arr [48] from rfl]
        simp only [arr_app8, List.append_assoc])
      generalize arr (cks e cs) = sb at *
      have z1 : sb.size ≤ 8000 := by omega
      have z4 : eb.size ≤ 8000 := by omega
      clear hbl hbs
      go_wp2_with fail
      go_loopw [7, 9] (fun v i wq => ∃ (k : Nat), k ≤ fs.length ∧ i = .int .i64 k ∧ v = .string (arr (cks e cs ++ ([48] ++ e ++ [13, 10]) ++ body (fs.take k))) ∧ Hid (Below w.heap.size w wq)) (fun _ i _ => fs.length - (intOf i).toNat)
      case atStart => exact ⟨0, Nat.zero_le _, rfl, by rw [HA.out]; simp [body], HB⟩
      case round =>
        clear HB
        obtain ⟨k, hk, rfl, rfl, HB⟩ := hrel
        have hbl := body_take_len8 fs k
        have hbs := arr_size (cks e cs ++ ([48] ++ e ++ [13, 10]) ++ body (fs.take k))
        have hcl := cks_bound hl hn he cs.length
        rw [List.take_length] at hcl
        simp only [List.length_append, List.length_cons, List.length_nil] at hbs
        by_cases hlt : k < fs.length
        · obtain ⟨f, hf⟩ : ∃ f, fs[k]? = some f := ⟨_, List.getElem?_eq_getElem hlt⟩
          obtain ⟨-, ad, rfl, c0, c1⟩ := ((HF.out).below HB.out).at hf
          have hfz := bulk_mem (List.mem_of_getElem? hf)
          have HPU : Hid (∀ W, _) := Lib.hid fun W => rput_any f W (by omega) (by omega)
          have hls := line_size f
          have HA2 := Lib.hid (show arr (cks e cs ++ ([48] ++ e ++ [13, 10]) ++ body (fs.take k)) ++ line f ++ ⟨#[13, 10]⟩ = arr (cks e cs ++ ([48] ++ e ++ [13, 10]) ++ body (fs.take (k + 1))) by
            rw [arr_app8', show (⟨#[13, 10]⟩ : ByteArray) = arr [13, 10] from rfl, body_take8 hf]
            simp only [arr_app8, List.append_assoc])
          obtain ⟨sb', hsb'⟩ : ∃ x, arr (cks e cs ++ ([48] ++ e ++ [13, 10]) ++ body (fs.take (k + 1))) = x := ⟨_, rfl⟩
          rw [hsb'] at HA2
          have HSB := Lib.hid hsb'
          clear hsb' hf
          generalize arr (cks e cs ++ ([48] ++ e ++ [13, 10]) ++ body (fs.take k)) = sa at *
          have z5 : sa.size ≤ 20000 := by omega
          clear hbl hbs hcl
          generalize line f = lf at *
          obtain ⟨x, y⟩ := f
          simp only at hfz hls
          have hlf : lf.size ≤ 8000 := by omega
          go_wp2_with fail
          refine (HPU.out _).mono ?_
          rintro e w2 ⟨rfl, hb1⟩
          replace HB := Lib.hid (ahead HB.out hb1)
          clear hb1 c0 c1 HPU
          go_wp2_with fail
          go_roundw
          case rel => exact ⟨k + 1, by omega, by go_num, by rw [HA2.out, HSB.out], HB⟩
          case measure => simp [intOf]; omega
        · obtain rfl : k = fs.length := by omega
          rw [List.take_length] at *
          have HA2 := Lib.hid (show arr (cks e cs ++ ([48] ++ e ++ [13, 10]) ++ body fs) ++ ⟨#[13, 10]⟩ = arr (bod e cs fs) by
            rw [show (⟨#[13, 10]⟩ : ByteArray) = arr [13, 10] from rfl]
            simp only [arr_app8, List.append_assoc, bod, sec])
          have hbd : (bod e cs fs).length ≤ 20000 := by
            have := arr_size (bod e cs fs)
            rw [← HA2.out, ByteArray.size_append] at this
            have h2 : (⟨#[13, 10]⟩ : ByteArray).size = 2 := rfl
            omega
          obtain ⟨cp, wf, hcv, hrd, hbf⟩ := bytes_rd wr (bod e cs fs) (by omega)
          rw [← HA2.out] at hcv
          have HQ := Lib.hid (And.intro hrd (ahead HB.out hbf))
          generalize arr (cks e cs ++ ([48] ++ e ++ [13, 10]) ++ body fs) = sa at *
          have z5 : sa.size ≤ 20000 := by omega
          clear hbl hbs hcl hrd hbf
          generalize (bod e cs fs).length = nb at *
          go_wp2_with fail
          go_ret
          exact ⟨_, rfl, HQ.out.1, HQ.out.2⟩

set_option maxHeartbeats 4000000 in
theorem rjoin8_any (cs : List (List UInt8)) (p : Option Addr) (c : Nat) (w : World) (hC : CS w (.slice p cs.length c) cs) (hl : cs.flatten.length ≤ 1000000) (hn : cs.length ≤ 1000000) :
    Calls Tryd.prog 22 #[.slice p cs.length c] w fun x w' => ∃ v, x = .returned v ∧ RD w' v cs.flatten ∧ Below w.heap.size w w' := by
  have HC := Lib.hid hC
  clear hC
  go_enter Tryd.func22, Tryd.ntmps22
  go_wp2_with fail
  go_loopw [3, 4] (fun v i wr => ∃ (k : Nat), k ≤ cs.length ∧ i = .int .i64 k ∧ Hid (wr.ownsRow w.heap.size 5 1 v (cs.take k).flatten.length (bv (cs.take k).flatten) ∧ Below w.heap.size w wr)) (fun _ i _ => cs.length - (intOf i).toNat)
  case atStart => exact ⟨0, Nat.zero_le _, rfl, Lib.hid ⟨⟨rfl, .inl ⟨rfl, rfl⟩⟩, Below.refl _ _⟩⟩
  case round =>
    obtain ⟨k, hk, rfl, HB⟩ := hrel
    have hfk := flat_take cs k
    by_cases hlt : k < cs.length
    · obtain ⟨x, hx⟩ : ∃ x, cs[k]? = some x := ⟨_, List.getElem?_eq_getElem hlt⟩
      obtain ⟨-, ad, pu, cu, rfl, c0, hu⟩ := (HC.out.below HB.out.2).at hx
      have hxl := flat_mem (List.mem_of_getElem? hx)
      have e1 : (cs.take (k + 1)).flatten = (cs.take k).flatten ++ x := by rw [List.take_add_one, hx]; simp
      obtain ⟨v', w', hrun, hown, hg⟩ := run_append_rd wr 22 w.heap.size _ _ _ _ _ HB.out.1 hu (by omega) HB.out.2.size
      have HN := Lib.hid (And.intro (show w'.ownsRow w.heap.size 5 1 v' (cs.take (k + 1)).flatten.length (bv (cs.take (k + 1)).flatten) by rw [e1]; simpa [bv] using hown) (HB.out.2.grown hg HB.out.2.size (fun k hk => (HB.out.1.lt k hk).1)))
      have HR := Lib.hid hrun
      clear hown hg hu hx e1 hrun
      go_wp2_with (at_builtin; refine wpList_append_run rfl (.tmp 11) (.tmp 15) 22 rfl _ _ _ _ rfl rfl HR.out ?_)
      go_roundw
      case rel => exact ⟨k + 1, by omega, by go_num, HN⟩
      case measure => simp [intOf]; omega
    · obtain rfl : k = cs.length := by omega
      rw [List.take_length] at *
      go_wp2_with fail
      go_ret
      exact ⟨_, rfl, RD.of_own HB.out.1, HB.out.2⟩

end Go.Proofs.YtdbignianpkofaaDoor
