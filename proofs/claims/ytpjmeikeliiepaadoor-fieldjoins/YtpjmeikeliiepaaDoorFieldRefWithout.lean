/- What the document's Without answers. -/
import Derived.Test.YtpjmeikeliiepaaDoorFieldWithout
namespace Go.Proofs.YtpjmeikeliiepaaDoor
open Go.ChangeShapes Go.WideShapes Go.ChangeAt Go.RowKit
open Oc Fl
set_option linter.unusedVariables false

/-- The last field is left out again. -/
theorem ToldF.cut {w wr : World} {v : Value} {xs : List Fld} {f : Fld} (h : ToldF w wr v (xs ++ [f])) :
    ∃ g c, v = .slice (some ⟨g, 0, none⟩) (xs.length + 1) c ∧ xs.length + 1 ≤ c ∧ c ≤ maxLen ∧ ∀ wr', Below wr.heap.size wr wr' → ToldF w wr' (.slice (some ⟨g, 0, none⟩) xs.length c) xs := by
  have h0 := h.own.1
  rcases h.own.2 with ⟨rfl, hn⟩ | ⟨g, cap, cur, rfl, hb, hh, h1, h2, h3, h4⟩
  · simp at hn
  · rw [List.length_append, List.length_singleton] at *
    refine ⟨g, cap, rfl, h1, h2, fun wr' hb' => ⟨⟨fv_len xs, .inr ⟨g, cap, cur, rfl, hb, ?_, by omega, h2, h3, ?_⟩⟩, ahead h.below hb'⟩⟩
    · rw [hb'.block g (Array.getElem?_eq_some_iff.1 hh).1]; exact hh
    · have : cur.toList.take (xs.length * 2) = ((cur.toList.take ((xs.length + 1) * 2))).take (xs.length * 2) := by
        rw [List.take_take]; congr 1; omega
      rw [this, h4, ← fv_app]
      exact List.take_left' (fv_len xs)

theorem fld_size : Tryd.prog.cellsOf 24 = 2 := by kernel_rfl

/-- A field's place and a name's place. -/
structure Pair (w W : World) (a b : Addr) (x y n : Value) : Prop where
  below : Below w.heap.size w W
  c0 : W.cell? a = some x
  c1 : W.cell? ⟨a.block, a.off + 1, none⟩ = some y
  d0 : W.cell? b = some n
theorem Pair.next {w W W' : World} {a b : Addr} {x y n : Value} (h : Pair w W a b x y n) (hb : Below W.heap.size W W') : Pair w W' a b x y n :=
  ⟨ahead h.below hb, cell_below h.c0 hb, cell_below h.c1 hb, cell_below h.d0 hb⟩
theorem Pair.three {w W : World} {a b : Addr} {x y n : Value} (h : Pair w W a b x y n) : W.cell? a = some x ∧ W.cell? ⟨a.block, a.off + 1, none⟩ = some y ∧ W.cell? b = some n := ⟨h.c0, h.c1, h.d0⟩

set_option maxHeartbeats 4000000 in
theorem rwithout_any (l : List Fld) (ns : List ByteArray) (p q : Option Addr) (c d : Nat) (w : World) (hF : FS w (.slice p l.length c) l) (hT : TX w (.slice q ns.length d) ns) (hl : l.length ≤ 1000000) (hln : ns.length ≤ 1000000) (hfs : ∀ f ∈ l, f.name.size ≤ 1099511627776) (hns : ∀ n ∈ ns, n.size ≤ 1099511627776) :
    Calls Tryd.prog 23 #[.slice p l.length c, .slice q ns.length d] w fun e w' => ∃ v, e = .returned v ∧ FS w' v (without l ns) ∧ Below w.heap.size w w' := by
  have HF := Lib.hid hF
  have HFS := Lib.hid hfs
  have HN := Lib.hid hT
  have HNS := Lib.hid hns
  clear hF hfs hT hns
  go_enter Tryd.func23, Tryd.ntmps23
  go_wp2_with fail
  go_loopw [5, 6] (fun v i wr => ∃ (k : Nat), k ≤ l.length ∧ i = .int .i64 k ∧ ToldF w wr v (without (l.take k) ns)) (fun _ i _ => l.length - (intOf i).toNat)
  case atStart => exact ⟨0, Nat.zero_le _, rfl, World.ownsRow_nil _ _ _ _, Below.refl _ _⟩
  case round =>
    obtain ⟨k, hk, rfl, hT⟩ := hrel
    have HT := Lib.hid hT
    clear hT
    by_cases hlt : k < l.length
    · obtain ⟨f, hf⟩ : ∃ f, l[k]? = some f := ⟨_, List.getElem?_eq_getElem hlt⟩
      have Hf := Lib.hid hf
      obtain ⟨-, ad, rfl, c0, c1⟩ := ((HF.out).below HT.out.below).at hf
      have HGT := Lib.hid (without_take ns hf)
      have hlen := without_take_len l k ns
      have hfz := HFS.out f (List.mem_of_getElem? hf)
      clear hf
      generalize without (l.take k) ns = xs at *
      obtain ⟨v', w2, r0, r1⟩ := HT.out.more f 35 (by omega)
      have R0 := Lib.hid r0
      have R1 := Lib.hid r1
      clear r0 r1
      obtain ⟨x, y⟩ := f
      simp only at c0 c1 R0
      go_wp2_with (at_builtin; refine wpList_append_is rfl (.tmp 14) (.tmp 19) 35 rfl _ _ _ _ rfl rfl R0.out ?_)
      clear R0 c0 c1
      go_loopw [5, 7] (fun v i wr' => ∃ (j : Nat), j ≤ ns.length ∧ i = .int .i64 j ∧ v = v' ∧ hasAny (ns.take j) ⟨x, y⟩ = false ∧ ToldF w wr' v' (xs ++ [⟨x, y⟩])) (fun _ i _ => ns.length - (intOf i).toNat)
      case atStart => exact ⟨0, Nat.zero_le _, rfl, rfl, rfl, R1.out⟩
      case round =>
        clear R1 HT
        obtain ⟨j, hj, rfl, rfl, ha, hT⟩ := hrel
        have HT := Lib.hid hT
        have HA := Lib.hid ha
        clear hT ha
        by_cases hjl : j < ns.length
        · obtain ⟨n, hn⟩ : ∃ n, ns[j]? = some n := ⟨_, List.getElem?_eq_getElem hjl⟩
          obtain ⟨-, bd, rfl, d0⟩ := (HN.out.below HT.out.below).at hn
          obtain ⟨-, ad', e', c0, c1⟩ := ((HF.out).below HT.out.below).at Hf.out
          cases e'
          have hnz := HNS.out n (List.mem_of_getElem? hn)
          have HI : Hid (∀ W, _) := Lib.hid fun W => ris_any ⟨x, y⟩ n W hfz hnz
          have Hn := Lib.hid hn
          clear hn
          have k1 : (0 : Int) ≤ (k : Int) := by omega
          have k2 : (k : Int) < (l.length : Int) := by omega
          have j1 : (0 : Int) ≤ (j : Int) := by omega
          have j2 : (j : Int) < (ns.length : Int) := by omega
          have K6 : Hid (Pair w wr.drew (ad.add (k * 2)) (bd.add j) (.string x) (.string y) (.string n)) := Lib.hid ⟨HT.out.below.drew, c0, c1, d0⟩
          cases hh : has n ⟨x, y⟩
          · rw [hh] at HI
            have HA' := Lib.hid (show hasAny (ns.take (j + 1)) ⟨x, y⟩ = false by rw [any_take _ Hn.out, HA.out, hh]; rfl)
            clear hh
            go_wp2_with fail
            go_region_held3 (fun w' => w'.cell? (ad.add (k * 2)) = some (.string x) ∧ w'.cell? ⟨(ad.add (k * 2)).block, (ad.add (k * 2)).off + 1, none⟩ = some (.string y) ∧ w'.cell? (bd.add j) = some (.string n))
              (first | exact K6.out.three | exact K7.out.three)
              (first | (go_at_call 18; refine (HI.out _).mono ?_; rintro e w7 ⟨rfl, hb7⟩; have K7 := Lib.hid (K6.out.next hb7); have HT7 := Lib.hid ((HT.out.next (below_drewN (Below.refl _ _) 1)).next hb7); clear hb7))
            clear k1 k2 j1 j2 c0 c1 d0 K6 HI
            go_wp2_with fail
            go_roundw
            case rel => exact ⟨j + 1, by omega, by go_num, rfl, HA'.out, HT7.out⟩
            case measure => simp [intOf]; omega
          · rw [hh] at HI
            have HA' := Lib.hid (any_hit Hn.out hh)
            clear hh
            go_wp2_with fail
            go_region_held3 (fun w' => w'.cell? (ad.add (k * 2)) = some (.string x) ∧ w'.cell? ⟨(ad.add (k * 2)).block, (ad.add (k * 2)).off + 1, none⟩ = some (.string y) ∧ w'.cell? (bd.add j) = some (.string n))
              (first | exact K6.out.three | exact K7.out.three)
              (first | (go_at_call 18; refine (HI.out _).mono ?_; rintro e w7 ⟨rfl, hb7⟩; have K7 := Lib.hid (K6.out.next hb7); have HT7 := Lib.hid ((HT.out.next (below_drewN (Below.refl _ _) 1)).next hb7); clear hb7))
            clear k1 k2 j1 j2 c0 c1 d0 K6 HI
            obtain ⟨g, cc, rfl, hc1, hc2, hcut⟩ := HT7.out.cut
            have HC := Lib.hid (hcut _ (Below.refl _ _))
            clear hcut
            unfold maxLen at hc2
            go_wp2_with fail
            go_roundw
            case rel => exact ⟨k + 1, by omega, by go_num, by rw [HGT.out, HA'.out]; simpa using HC.out⟩
            case measure => simp [intOf]; omega
        · obtain rfl : j = ns.length := by omega
          rw [List.take_length] at HA
          go_wp2_with fail
          go_roundw
          case rel => exact ⟨k + 1, by omega, by go_num, by rw [HGT.out, HA.out]; simpa using HT.out⟩
          case measure => simp [intOf]; omega
    · obtain rfl : k = l.length := by omega
      rw [List.take_length] at HT
      go_wp2_with fail
      go_ret
      exact ⟨_, rfl, RS.of_own HT.out.own, HT.out.below⟩

end Go.Proofs.YtpjmeikeliiepaaDoor
