/- The law EnchunkFixed. -/
import Derived.Test.YtjolpnjmelifbaaDoorEncFixEnd
import Derived.Test.YtjolpnjmelifbaaDoorEncWake
import Derived.Test.YtjolpnjmelifbaaDoorBytesOpen
namespace Go.Proofs.YtjolpnjmelifbaaDoor
open Go.ChangeShapes Go.WideShapes Go.ChangeAt Go.RowKit Go.Deep
open Oc Fl Bk Bd
set_option linter.unusedVariables false
set_option maxRecDepth 100000

/-- The law's count of pieces: each one's bytes and one more. -/
def tot (L : List (List UInt8)) : Nat := L.flatten.length + L.length
theorem tot_snoc {L : List (List UInt8)} {k : Nat} {x : List UInt8} (h : L[k]? = some x) : tot (L.take (k + 1)) = tot (L.take k) + x.length + 1 := by
  unfold tot
  rw [flat_snoc h]
  have := (List.getElem?_eq_some_iff.1 h).1
  simp
  omega
theorem tot_zero (L : List (List UInt8)) : tot (L.take 0) = 0 := by simp [tot]
theorem tot_mem {L : List (List UInt8)} {x : List UInt8} (h : x ∈ L) : x.length ≤ tot L := by have := flat_mem h; unfold tot; omega

set_option maxHeartbeats 8000000 in
theorem fixed10_walk (size : Nat) (hs : size ≤ 255) (cs : List (List UInt8)) (p : Option Addr) (c : Nat) (w : World) (hC : CS w (.slice p cs.length c) cs) (hcl : cs.length ≤ 140737488355328) (hcb : ∀ x ∈ cs, x.length ≤ 140737488355328) (hz : Tz w) :
    Calls Tryd.prog 6 #[.int .u8 (size : Int), .slice p cs.length c] w fun e w' => e = .returned (.bool true) ∧ Below w.heap.size w w' := by
  have HWK := Lib.hid (wakes10 w hz)
  have HC := Lib.hid hC
  have HCB := Lib.hid hcb
  clear hC hz hcb
  go_enter Tryd.func6, Tryd.ntmps6
  go_wp2_with fail
  refine HWK.out.mono ?_
  rintro e w1 ⟨rfl, hb1⟩
  have B1 := Lib.hid hb1
  clear hb1 HWK
  go_wp2_with fail
  go_loopw [5, 21] (fun n i wr => ∃ (k : Nat), k ≤ cs.length ∧ i = .int .i64 k ∧ n = .int .i64 (tot (cs.take k) : Int) ∧ tot (cs.take k) ≤ 500 ∧ Hid (Below w.heap.size w wr)) (fun _ i _ => cs.length - (intOf i).toNat)
  case atStart => exact ⟨0, Nat.zero_le _, rfl, by rw [tot_zero]; rfl, by rw [tot_zero]; omega, B1⟩
  case round =>
    obtain ⟨k, hk, rfl, rfl, h5, HB⟩ := hrel
    by_cases hlt : k < cs.length
    · obtain ⟨x, hx⟩ : ∃ x, cs[k]? = some x := ⟨_, List.getElem?_eq_getElem hlt⟩
      obtain ⟨-, ad, pu, cu, rfl, c0, hu⟩ := (HC.out.below HB.out).at hx
      have hxb := HCB.out x (List.mem_of_getElem? hx)
      have hsn := tot_snoc hx
      have hw0 : IntKind.i64.wrap ((x.length : Int) + 1) = (x.length : Int) + 1 := IntWalk.i64_in _ (by omega)
      have hw : IntKind.i64.wrap ((tot (cs.take k) : Int) + ((x.length : Int) + 1)) = (tot (cs.take (k + 1)) : Int) := by rw [hsn]; push_cast; rw [IntWalk.i64_in _ (by omega)]; omega
      clear hu hx
      generalize tot (cs.take k) = n0 at *
      generalize hn1 : tot (cs.take (k + 1)) = n1 at *
      by_cases h6 : 500 < n1
      · have h6' : (500 : Int) < (n1 : Int) := by omega
        clear hn1 hsn
        go_wp2_with fail
        go_ret
        exact ⟨rfl, HB.out⟩
      · have h6' : ¬ (500 : Int) < (n1 : Int) := by omega
        have HN1 := Lib.hid hn1
        clear hn1 hsn
        go_wp2_with fail
        go_roundw
        case rel => exact ⟨k + 1, by omega, by go_num, by rw [HN1.out], by rw [HN1.out]; omega, HB⟩
        case measure => simp [intOf]; omega
    · obtain rfl : k = cs.length := by omega
      rw [List.take_length] at *
      have HT : Hid (∀ x ∈ cs, x.length ≤ 500) := Lib.hid fun x hx => Nat.le_trans (tot_mem hx) h5
      generalize tot cs = nf at *
      have HNW := Lib.hid (fixNew_any size wr (by omega))
      have hsw : IntKind.u64.wrap (size : Int) = (size : Int) := IntWalk.u64_in _ (by omega)
      have hsw2 : IntKind.i64.wrap (size : Int) = (size : Int) := IntWalk.i64_in _ (by omega)
      clear B1 HCB
      go_wp2_with fail
      refine HNW.out.mono ?_
      rintro e w2 ⟨R, K, rfl, hA, hb2, hR, hK⟩
      have hbs := HB.out.size
      have HA := Lib.hid hA
      have B2 := Lib.hid (ahead HB.out hb2)
      have hRK : w.heap.size ≤ R ∧ w.heap.size ≤ K := by omega
      clear hA hb2 HNW HB hR hK hbs
      go_wp2_with fail
      go_loopw [10, 48] (fun g i wq => ∃ (k d : Nat), k ≤ cs.length ∧ i = .int .i64 k ∧ g = .int .i64 (d : Int) ∧ d ≤ size ∧ Hid (FixAt R K size d wq ∧ Below w.heap.size w wq)) (fun _ i _ => cs.length - (intOf i).toNat)
      case atStart => exact ⟨0, 0, Nat.zero_le _, rfl, rfl, Nat.zero_le _, Lib.hid ⟨HA.out, B2.out⟩⟩
      case round =>
        clear HA B2
        obtain ⟨k, d, hk, rfl, rfl, hd, HQ⟩ := hrel
        by_cases hlt : k < cs.length
        · obtain ⟨x, hx⟩ : ∃ x, cs[k]? = some x := ⟨_, List.getElem?_eq_getElem hlt⟩
          obtain ⟨-, ad, pu, cu, rfl, c0w, huw⟩ := HC.out.at hx
          have c0 := cell_below c0w HQ.out.2
          have hu := huw.below HQ.out.2
          have hxl := HT.out x (List.mem_of_getElem? hx)
          have hpu : x ≠ [] → ∀ g, (Value.slice pu x.length cu).ownBlock = some g → g ≠ K := fun hne g hg => by
            obtain ⟨k', h1, h2⟩ := huw.lt hne
            rw [hg] at h1
            cases h1
            omega
          have HPT := Lib.hid (fixPut_any R K size d x pu cu wr HQ.out.1 hu hpu (by omega))
          have hdb : d ≤ 255 := by omega
          have hw : IntKind.i64.wrap ((d : Int) + (x.length : Int)) = (d : Int) + (x.length : Int) := IntWalk.i64_in _ (by omega)
          have HU := Lib.hid hu
          have HB := Lib.hid HQ.out.2
          have HUW := Lib.hid huw
          clear hu hx hpu huw c0w
          by_cases ho : size < d + x.length
          · rw [show fixE size d x = 6 from if_pos ho, show fixD size d x = d from if_pos ho, show fixB size d x = [] from if_pos ho] at HPT
            have ho' : (size : Int) < (d : Int) + (x.length : Int) := by omega
            go_wp2_with fail
            refine HPT.out.mono ?_
            rintro e w3 ⟨v, rfl, hq⟩
            have HN := Lib.hid (show FixAt R K size d w3 ∧ Below w.heap.size w w3 from ⟨hq.at_, hq.sol.below HB.out hRK.2 HB.out.size⟩)
            obtain ⟨pv, cv, rfl, -⟩ := hq.rd
            clear hq HPT HQ HB
            rw [show ([] : List UInt8).length = 0 from rfl]
            go_wp2_with fail
            go_roundw
            case rel => exact ⟨k + 1, d, by omega, by go_num, rfl, hd, HN⟩
            case measure => simp [intOf]; omega
          · rw [show fixE size d x = 0 from if_neg ho, show fixD size d x = d + x.length from if_neg ho, show fixB size d x = x from if_neg ho] at HPT
            have ho' : ¬ (size : Int) < (d : Int) + (x.length : Int) := by omega
            have hds : d + x.length ≤ size := by omega
            have hwu : IntKind.u64.wrap ((size : Int) - ((d : Int) + (x.length : Int))) = ((size - (d + x.length) : Nat) : Int) := by rw [IntWalk.u64_in _ (by omega)]; omega
            have hsub : IntKind.i64.wrap ((size : Int) - ((d : Int) + (x.length : Int))) = (size : Int) - ((d : Int) + (x.length : Int)) := IntWalk.i64_in _ (by omega)
            go_wp2_with fail
            refine HPT.out.mono ?_
            rintro e w3 ⟨v, rfl, hq⟩
            have b3 := hq.sol.below HB.out hRK.2 HB.out.size
            obtain ⟨pv, cv, rfl, -⟩ := id hq.rd
            have HS := Lib.hid (same10 w3 pv pu x.length cv x.length cu x hq.rd (HUW.out.below b3))
            have H3 := Lib.hid hq.at_
            have B3 := Lib.hid b3
            clear hq HPT HQ HB b3
            go_wp2_with fail
            refine HS.out.mono ?_
            rintro e w4 ⟨rfl, hb4⟩
            have H4 := Lib.hid (H3.out.below hb4)
            have B4 := Lib.hid (ahead B3.out hb4)
            have HL := Lib.hid (fixLeft_any R K size (d + x.length) w4 H4.out)
            clear hb4 HS H3 B3
            go_wp2_with fail
            refine HL.out.mono ?_
            rintro e w5 ⟨rfl, hb5⟩
            have HN := Lib.hid (show FixAt R K size (d + x.length) w5 ∧ Below w.heap.size w w5 from ⟨H4.out.below hb5, ahead B4.out hb5⟩)
            clear hb5 H4 B4 HL
            go_wp2_with fail
            go_roundw
            case rel => exact ⟨k + 1, d + x.length, by omega, by go_num, by go_num, hds, HN⟩
            case measure => simp [intOf]; omega
        · obtain rfl : k = cs.length := by omega
          have HE := Lib.hid (fixEnd_any R K size d wr HQ.out.1)
          have hsz := HQ.out.2.size
          have HB := Lib.hid (show ∀ w', (∀ B, B ≤ wr.heap.size → B ≤ R → Below B wr w') → Below w.heap.size w w' from fun w' h => HQ.out.2.trans (h _ hsz hRK.1))
          by_cases hf : d < size
          · rw [show fixEndE size d = 4 from if_pos hf] at HE
            have h1 : ((d : Int) == (size : Int)) = false := beq_eq_false_iff_ne.2 (by omega)
            have h2 : (d : Int) < (size : Int) := by omega
            clear hsz HQ
            go_wp2_with fail
            refine HE.out.mono ?_
            rintro e w3 ⟨rfl, hq⟩
            have HQ := Lib.hid (HB.out _ hq)
            clear hq HE HB
            go_wp2_with fail
            go_ret
            exact ⟨rfl, HQ.out⟩
          · rw [show fixEndE size d = 0 from if_neg hf] at HE
            obtain rfl : d = size := by omega
            clear hsz HQ hf
            go_wp2_with fail
            refine HE.out.mono ?_
            rintro e w3 ⟨rfl, hq⟩
            have HQ := Lib.hid (HB.out _ hq)
            clear hq HE HB
            go_wp2_with fail
            go_ret
            exact ⟨rfl, HQ.out⟩

theorem open_u8n {H : Type} {enc : TypeId × Value → H} {W : World} {base : Nat} {v : Value} {d : DataW H} {p : List MemPlace} (u : Value.okWide Tryd.prog W .any base 5 v)
    (h : DataW.Trod enc Tryd.prog W 0 (fun _ => true) true 5 v d p) : ∃ n : Nat, v = .int .u8 (n : Int) ∧ n ≤ 255 := by
  obtain ⟨a, rfl, _, _, w0⟩ := open_int Tryd.underlying5 u h
  have b := bounds_u8 w0
  refine ⟨a.toNat, ?_, by omega⟩
  rw [Int.toNat_of_nonneg b.1]

set_option maxRecDepth 100000 in
theorem fixed10_data {H : Type} {enc : TypeId × Value → H} {W : World} {base : Nat} {v0 v1 : Value} {d0 d1 : DataW H} {p0 p1 : List MemPlace} (u0 : Value.okWide Tryd.prog W .any base 5 v0) (h0 : DataW.Trod enc Tryd.prog W 0 (fun _ => true) true 5 v0 d0 p0)
    (u1 : Value.okWide Tryd.prog W .any base 56 v1) (h1 : DataW.Trod enc Tryd.prog W 0 (fun _ => true) true 56 v1 d1 p1)
    (hz : (DataW.weightsEach Tryd.prog [5, 56] [d0, d1]).all (· ≤ reachBytes) = true) (htz : Tz W) :
    Calls Tryd.prog 6 #[v0, v1] W fun e w' => e = .returned (.bool true) ∧ Below W.heap.size W w' := by
  obtain ⟨n, rfl, hn⟩ := open_u8n u0 h0
  obtain ⟨cs, p, c, rfl, hC, hcl, hcb⟩ := open_chunks u1 h1 (each_weight hz (j := 1) rfl rfl)
  exact fixed10_walk n hn cs p c W hC hcl hcb htz

end Go.Proofs.YtjolpnjmelifbaaDoor
