/- The law EnchunkBody. -/
import Derived.Test.YtjolpnjmelifbaaGreatDoorEncChk
import Derived.Test.YtjolpnjmelifbaaGreatDoorEncWake
import Derived.Test.YtjolpnjmelifbaaGreatDoorBodyScanBod
import Derived.Test.YtjolpnjmelifbaaGreatDoorBodyJoin
import Derived.Test.YtjolpnjmelifbaaGreatDoorBytesOpen
namespace Go.Proofs.YtjolpnjmelifbaaGreatDoor
open Go.ChangeShapes Go.WideShapes Go.ChangeAt Go.RowKit Go.Deep
open Go.Shelf
open Oc Fl Bk Bd
set_option linter.unusedVariables false
set_option maxRecDepth 100000

theorem rights_take10 {l : List Fld} {k : Nat} {f : Fld} (h : l[k]? = some f) : rights (l.take (k + 1)) = (rights (l.take k) && right f) := by
  rw [List.take_add_one, h]; simp [rights]
theorem cks_take10 {L : List (List UInt8)} {k : Nat} {x : List UInt8} (h : L[k]? = some x) : cks [] (L.take (k + 1)) = cks [] (L.take k) ++ ck [] x := by
  rw [List.take_add_one, h, Option.toList_some, cks_snoc]
theorem cks_len10 (L : List (List UInt8)) (h : tot10 L ≤ 500) (k : Nat) : (cks [] (L.take k)).length ≤ 10500 := by
  have key : ∀ M : List (List UInt8), tot10 M ≤ 500 → (cks [] M).length ≤ M.flatten.length + M.length * 20 := by
    intro M
    induction M with
    | nil => intro _; simp [cks]
    | cons x M ih =>
      intro hm
      have h1 : tot10 M ≤ tot10 (x :: M) := by unfold tot10; simp; omega
      have := ih (by omega)
      have h2 := ck_len x
      have h3 : x.length ≤ 500 := by have := tot10_mem (L := x :: M) List.mem_cons_self; omega
      have h4 : cst x.length ≤ 20 := by unfold cst; have := Hx.put_len16 x.length (by omega); split <;> omega
      rw [cks_cons, List.length_append]
      simp only [List.flatten_cons, List.length_append, List.length_cons]
      omega
  have ht : tot10 (L.take k) ≤ 500 := by
    have := flat_take L k
    unfold tot10 at h ⊢
    rw [List.length_take]
    omega
  have := key (L.take k) ht
  unfold tot10 at ht
  omega

/-- What the loop over the pieces holds. -/
structure OutAt (w w2 : World) (R K : Nat) (d : Nat) (o : List UInt8) (v : Value) (W : World) : Prop where
  at_ : ChkAt R K d W
  own : W.ownsRow w2.heap.size 5 1 v o.length (bv o)
  below : Below w.heap.size w W
  size : w2.heap.size ≤ W.heap.size
theorem OutAt.step {w w2 : World} {R K d : Nat} {o : List UInt8} {v : Value} {W W' : World} (h : OutAt w w2 R K d o v W) (hK : w.heap.size ≤ K ∧ K < w2.heap.size) {e : Nat} {ys : List UInt8} {u : Value} (hq : ChkQ R K e W W' u ys) : OutAt w w2 R K e o v W' :=
  ⟨hq.at_, own_same h.own fun k hk => hq.sol.block k (h.own.lt k hk).2 (by have := (h.own.lt k hk).1; omega), hq.sol.below h.below hK.1 h.below.size, Nat.le_trans h.size hq.sol.size⟩
theorem OutAt.more {w w2 : World} {R K d : Nat} {o : List UInt8} {v : Value} {W : World} (h : OutAt w w2 R K d o v W) (hw2 : w.heap.size ≤ w2.heap.size) (hR : R < w2.heap.size) (hK : K < w2.heap.size) {ys : List UInt8} {u : Value} (hu : RD W u ys) (hl : o.length + ys.length ≤ 1000000) :
    ∃ v' W', (Builtin.append_ #[25, 25] 25 #[v, u]).run Tryz.prog W = .ok v' W' ∧ OutAt w w2 R K d (o ++ ys) v' W' := by
  obtain ⟨v', W', r0, r1, r2⟩ := run_append_rd W 25 w2.heap.size v u _ o ys h.own hu (by omega) h.size
  have hb : ∀ g, g < w2.heap.size → W'.heap[g]? = W.heap[g]? := fun g hg => r2.block g (Nat.lt_of_lt_of_le hg h.size) (fun e => by have := (h.own.lt g e.symm).1; omega)
  exact ⟨v', W', r0, h.at_.keep (hb R hR) (hb K hK), r1, h.below.grown r2 h.below.size (fun k hk => by have := (h.own.lt k hk).1; omega), Nat.le_trans h.size r2.size⟩

theorem lsame10 {p q : Option Addr} {n c d : Nat} {xs : List UInt8} (w : World) (hx : RD w (.slice p n c) xs) (hy : RD w (.slice q n d) xs) :
    Calls Tryz.prog 12 #[.slice p n c, .slice q n d] w fun e w' => e = .returned (.bool true) ∧ Below w.heap.size w w' := same10 w p q n c n d xs hx hy

set_option maxHeartbeats 16000000 in
theorem body10_walk (cs : List (List UInt8)) (fs : List Fld) (p q : Option Addr) (c d : Nat) (w : World) (hC : CS w (.slice p cs.length c) cs) (hF : FS w (.slice q fs.length d) fs) (hcl : cs.length ≤ 140737488355328)
    (hcb : ∀ x ∈ cs, x.length ≤ 140737488355328) (hfl : fs.length ≤ 140737488355328) (hfb : ∀ f ∈ fs, f.name.size ≤ 140737488355328 ∧ f.value.size ≤ 140737488355328) (hsp : Spans w) (hbd : Bound w) (hz : Tz w) :
    Calls Tryz.prog 3 #[.slice p cs.length c, .slice q fs.length d] w fun e w' => e = .returned (.bool true) ∧ Below w.heap.size w w' := by
  have HWK := Lib.hid (wakes10 w hz)
  have HC := Lib.hid hC
  have HF := Lib.hid hF
  have HSP := Lib.hid hsp
  have HBD := Lib.hid hbd
  have HZ := Lib.hid hz
  have HCB := Lib.hid hcb
  have HFB := Lib.hid hfb
  clear hC hF hsp hbd hcb hfb hz
  go_enter Tryz.func3, Tryz.ntmps3
  go_wp2_with fail
  refine HWK.out.mono ?_
  rintro e w1 ⟨rfl, hb1⟩
  have B1 := Lib.hid hb1
  clear hb1 HWK
  go_wp2_with fail
  go_loopw [5, 27] (fun n i wr => ∃ (k : Nat), k ≤ cs.length ∧ i = .int .i64 k ∧ n = .int .i64 (tot10 (cs.take k) : Int) ∧ tot10 (cs.take k) ≤ 500 ∧ Hid (Below w.heap.size w wr)) (fun _ i _ => cs.length - (intOf i).toNat)
  case atStart => exact ⟨0, Nat.zero_le _, rfl, by rw [tot10_zero]; rfl, by rw [tot10_zero]; omega, B1⟩
  case round =>
    clear B1
    obtain ⟨k, hk, rfl, rfl, h5, HB⟩ := hrel
    by_cases hlt : k < cs.length
    · obtain ⟨x, hx⟩ : ∃ x, cs[k]? = some x := ⟨_, List.getElem?_eq_getElem hlt⟩
      obtain ⟨-, ad, pu, cu, rfl, c0, hu⟩ := (HC.out.below HB.out).at hx
      have hxb := HCB.out x (List.mem_of_getElem? hx)
      have hsn := tot10_snoc hx
      have hw0 : IntKind.i64.wrap ((x.length : Int) + 1) = (x.length : Int) + 1 := IntWalk.i64_in _ (by omega)
      have hw : IntKind.i64.wrap ((tot10 (cs.take k) : Int) + ((x.length : Int) + 1)) = (tot10 (cs.take (k + 1)) : Int) := by rw [hsn]; push_cast; rw [IntWalk.i64_in _ (by omega)]; omega
      clear hu hx
      generalize tot10 (cs.take k) = n0 at *
      generalize hn1 : tot10 (cs.take (k + 1)) = n1 at *
      by_cases h6 : 500 < n1
      · have h6' : (500 : Int) < (n1 : Int) := by omega
        clear hn1 hsn
        go_wp2_with fail
        go_ret
        exact ⟨rfl, HB.out⟩
      · have h6' : ¬ (500 : Int) < (n1 : Int) := by omega
        have HN1 := Lib.hid hn1
        clear hn1 hsn
        go_wp2_with fail
        go_roundw
        case rel => exact ⟨k + 1, by omega, by go_num, by rw [HN1.out], by rw [HN1.out]; omega, HB⟩
        case measure => simp [intOf]; omega
    · obtain rfl : k = cs.length := by omega
      rw [List.take_length] at *
      have HTT : Hid (cs.flatten.length + cs.length ≤ 500) := Lib.hid h5
      generalize tot10 cs = nf at *
      have HGR := Lib.hid (great_any fs q d wr (HF.out.below HB.out) hfl HFB.out)
      by_cases hg : 2000 < bulk fs
      · rw [decide_eq_true hg] at HGR
        go_wp2_with fail
        refine HGR.out.mono ?_
        rintro e w2 ⟨rfl, hb2⟩
        have B2 := Lib.hid (ahead HB.out hb2)
        clear hb2
        go_wp2_with fail
        go_ret
        exact ⟨rfl, B2.out⟩
      rw [decide_eq_false hg] at HGR
      have hbk : bulk fs ≤ 2000 := by omega
      have hfl2 := bulk_len fs
      clear hg
      go_wp2_with fail
      refine HGR.out.mono ?_
      rintro e w2 ⟨rfl, hb2⟩
      have B2 := Lib.hid (ahead HB.out hb2)
      clear hb2 HGR HB
      go_wp2_with fail
      go_loopw [43] (fun i wq => ∃ (k : Nat), k ≤ fs.length ∧ i = .int .i64 k ∧ Hid (rights (fs.take k) = true) ∧ Hid (Below w.heap.size w wq)) (fun i _ => fs.length - (intOf i).toNat)
      case atStart => exact ⟨0, Nat.zero_le _, rfl, Lib.hid rfl, B2⟩
      case round =>
        clear B2
        obtain ⟨k, hk, rfl, HR, HB⟩ := hrel
        by_cases hlt : k < fs.length
        · obtain ⟨f, hf⟩ : ∃ f, fs[k]? = some f := ⟨_, List.getElem?_eq_getElem hlt⟩
          obtain ⟨-, ad, rfl, c0, c1⟩ := ((HF.out).below HB.out).at hf
          have hfz := bulk_mem (List.mem_of_getElem? hf)
          have HRI : Hid (∀ W, _) := Lib.hid fun W => rright_any f W (by omega) (by omega)
          cases hr : right f
          · rw [hr] at HRI
            clear hf hr
            obtain ⟨x, y⟩ := f
            go_wp2_with fail
            refine (HRI.out _).mono ?_
            rintro e w3 ⟨rfl, hb3⟩
            replace HB := Lib.hid (ahead (ahead HB.out (below_box _ _)) hb3)
            clear hb3 c0 c1 HRI
            go_wp2_with fail
            go_ret
            exact ⟨rfl, HB.out⟩
          · have HR2 := Lib.hid (show rights (fs.take (k + 1)) = true by rw [rights_take10 hf, HR.out, hr]; rfl)
            rw [hr] at HRI
            clear hf hr
            obtain ⟨x, y⟩ := f
            go_wp2_with fail
            refine (HRI.out _).mono ?_
            rintro e w3 ⟨rfl, hb3⟩
            replace HB := Lib.hid (ahead (ahead HB.out (below_box _ _)) hb3)
            clear hb3 c0 c1 HRI
            go_wp2_with fail
            go_roundw
            case rel => exact ⟨k + 1, by omega, by go_num, HR2, HB⟩
            case measure => simp [intOf]; omega
        · obtain rfl : k = fs.length := by omega
          rw [List.take_length] at *
          have HNW := Lib.hid (chkNew_any wr)
          go_wp2_with fail
          refine HNW.out.mono ?_
          rintro e w3 ⟨R, K, rfl, hA, hb3, hR, hK⟩
          have hbs := HB.out.size
          have B3 := Lib.hid (ahead HB.out hb3)
          have hRK : w.heap.size ≤ R ∧ w.heap.size ≤ K ∧ R < w3.heap.size ∧ K < w3.heap.size := ⟨by omega, by omega, hA.ltR, hA.ltK⟩
          have HO := Lib.hid (show OutAt w w3 R K 0 [] (.slice none 0 0) w3 from ⟨hA, World.ownsRow_nil _ _ _ _, B3.out, Nat.le_refl _⟩)
          have HRK := Lib.hid hRK
          clear hA hb3 HNW HB hR hK hbs hRK
          go_wp2_with fail
          go_loopw [12, 64] (fun o i wq => ∃ (k : Nat), k ≤ cs.length ∧ i = .int .i64 k ∧ Hid (OutAt w w3 R K (cs.take k).flatten.length (cks [] (cs.take k)) o wq)) (fun _ i _ => cs.length - (intOf i).toNat)
          case atStart => exact ⟨0, Nat.zero_le _, rfl, HO⟩
          case round =>
            clear HO B3
            obtain ⟨k, hk, rfl, HO⟩ := hrel
            by_cases hlt : k < cs.length
            · obtain ⟨x, hx⟩ : ∃ x, cs[k]? = some x := ⟨_, List.getElem?_eq_getElem hlt⟩
              obtain ⟨-, ad, pu, cu, rfl, c0w, huw⟩ := HC.out.at hx
              have c0 := cell_below c0w HO.out.below
              have hfk := flat_take cs k
              have hft := flat_take cs (k + 1)
              have hfs := flat_snoc hx
              have hxm := flat_mem (List.mem_of_getElem? hx)
              have hpu : x ≠ [] → ∀ g, (Value.slice pu x.length cu).ownBlock = some g → g ≠ K := fun hne g hg => by
                obtain ⟨k', h1, h2⟩ := huw.lt hne
                rw [hg] at h1
                cases h1
                have := HRK.out.2.1
                omega
              have hgK : 3 ≠ K := by
                have h1 := HZ.out.lt
                have h2 := HRK.out.2.1
                omega
              have hck := cks_len10 cs HTT.out k
              have hcx := ck_len x
              have hcc : cst x.length ≤ 20 := by unfold cst; have := Hx.put_len16 x.length (by have := HTT.out; omega); split <;> omega
              have HPT := Lib.hid (chkPut_any R K _ x pu cu wr HO.out.at_ (huw.below HO.out.below) hpu (by have := HTT.out; omega) (by have := HTT.out; omega) (HZ.out.below HO.out.below) hgK)
              have HE := Lib.hid (cks_take10 hx)
              have HFS := Lib.hid hfs
              have HLE := Lib.hid (show (cks [] (cs.take k)).length + (ck [] x).length ≤ 1000000 by have := HTT.out; omega)
              clear hpu hgK hck hcx hcc hfs hft hfk hx huw c0w hxm
              go_wp2_with fail
              refine HPT.out.mono ?_
              rintro e w4 ⟨v, rfl, hq⟩
              have h4 := HO.out.step ⟨HRK.out.2.1, HRK.out.2.2.2⟩ hq
              obtain ⟨o5, w5, r5, h5⟩ := h4.more (Nat.le_trans HRK.out.1 (Nat.le_of_lt HRK.out.2.2.1)) HRK.out.2.2.1 HRK.out.2.2.2 hq.rd HLE.out
              rw [← HE.out, ← HFS.out] at h5
              have R5 := Lib.hid r5
              have H5 := Lib.hid h5
              clear h4 r5 h5 hq HPT HO HLE
              go_wp2_with (at_builtin; refine wpList_append_run rfl (.tmp 74) (.tmp 75) 25 rfl _ _ _ _ rfl rfl R5.out ?_)
              go_roundw
              case rel => exact ⟨k + 1, by omega, by go_num, H5⟩
              case measure => simp [intOf]; omega
            · obtain rfl : k = cs.length := by omega
              rw [List.take_length] at *
              have HEN := Lib.hid (chkEnd_any R K _ fs q d wr HO.out.at_ (HF.out.below HO.out.below) hbk (HSP.out.below HO.out.below))
              rw [putE_yes HR.out, lastB_yes HR.out] at HEN
              have hck := cks_len10 cs HTT.out cs.length
              rw [List.take_length] at hck
              have hsl := sec_len10 fs hbk
              go_wp2_with fail
              refine HEN.out.mono ?_
              rintro e w4 ⟨v, rfl, hq⟩
              have hRw := HRK.out.2.2.1
              have o4 := own_same HO.out.own fun k hk => hq.sol.block k (HO.out.own.lt k hk).2 (by have := (HO.out.own.lt k hk).1; omega)
              have b4 := hq.sol.below HO.out.below HRK.out.1 HO.out.below.size
              have z4 := Nat.le_trans HO.out.size hq.sol.size
              obtain ⟨v5, w5, r5, o5, g5⟩ := run_append_rd w4 25 w3.heap.size _ _ _ _ _ o4 hq.rd (by simp only [List.length_append, List.length_cons, List.length_nil]; omega) z4
              have b5 : Below w.heap.size w w5 := b4.grown g5 b4.size (fun k hk => by have := (o4.lt k hk).1; have := HRK.out.1; omega)
              have hbod : cks [] cs ++ ([48, 13, 10] ++ sec fs) = bod [] cs fs := by unfold bod; simp
              rw [hbod] at o5
              have hrd := RD.of_own o5
              have hown := fun g hg => (o5.lt g hg).2
              have hbl := body_len fs
              have hbz : (bod [] cs fs).length ≤ 20000 := by rw [← hbod]; simp only [List.length_append, List.length_cons, List.length_nil]; omega
              have HSC := Lib.hid (fun W (hW : Below w5.heap.size w5 W) => scan_bod (l := ⟨0, fs.length, 65536⟩) (e := []) (cs := cs) (fs := fs) (M := []) W (by rw [List.append_nil]; exact hrd.below hW) (by simp; omega) (by simp; omega) (.inl rfl) (by have := HTT.out; omega) HR.out (Nat.le_refl _) (by simp only; omega) (fun g hg => Nat.lt_of_lt_of_le (hown g hg) hW.size) (HSP.out.below (ahead b5 hW)) (HBD.out.below (ahead b5 hW)))
              obtain ⟨nf2, hnf2⟩ : ∃ n, cs.flatten.length = n := ⟨_, rfl⟩
              have HNF := Lib.hid hnf2
              have HJ := Lib.hid (rjoin8_is cs nf2 hnf2 p c w5 (HC.out.below b5) (by have := HTT.out; omega) (by have := HTT.out; omega))
              obtain ⟨pv, kv, rfl, -⟩ := hrd
              have R5 := Lib.hid r5
              have B5 := Lib.hid b5
              unfold limv at HSC
              rw [hnf2] at HSC
              clear hq r5 o4 o5 b4 b5 g5 z4 hown hRw HEN hck hsl hbl hbod hnf2 HO
              generalize hbn : (bod [] cs fs).length = nb at *
              clear hbn
              go_wp2_with (at_builtin; refine wpList_append_run rfl (.tmp 84) (.tmp 85) 25 rfl _ _ _ _ rfl rfl R5.out ?_)
              refine HJ.out.mono ?_
              rintro e w6 ⟨pj, kj, rfl, hj, hb6⟩
              have HS6 := Lib.hid (HSC.out w6 hb6)
              have DJ := Lib.hid hj
              have B6 := Lib.hid (ahead B5.out hb6)
              clear hj hb6 HJ HSC R5
              go_wp2_with fail
              refine HS6.out.mono ?_
              rintro e w7 ⟨p1, c1, p2, c2, rfl, hd, hg, hb7⟩
              obtain ⟨w8, hw8⟩ : ∃ w8, w7.alloc (.cells #[.slice p1 nf2 c1, .slice p2 fs.length c2, .int .i64 (nb : Int)] 42) = w8 := ⟨_, rfl⟩
              have b8 : Below w7.heap.size w7 w8 := by rw [← hw8]; exact below_box _ _
              have z8 : w8.heap.size = w7.heap.size + 1 := by rw [← hw8]; simp
              have j8 : w8.heap[w7.heap.size]? = some (.cells #[.slice p1 nf2 c1, .slice p2 fs.length c2, .int .i64 (nb : Int)] 42 (0, 0)) := by rw [← hw8]; exact World.alloc_heap_new w7 _
              have b68 := ahead hb7 b8
              have B8 := Lib.hid (ahead B6.out b68)
              have KT : Hid (∀ W, Below w8.heap.size w8 W → W.cell? ⟨w7.heap.size, 0, none⟩ = some (.slice p1 nf2 c1) ∧ W.cell? ⟨w7.heap.size, 1, none⟩ = some (.slice p2 fs.length c2) ∧ W.cell? ⟨w7.heap.size, 2, none⟩ = some (.int .i64 (nb : Int))) := Lib.hid fun W hW => (three_cells8 ((hW.block _ (by omega)).trans j8)).1
              have HS8 := Lib.hid (lsame10 w8 (hd.below b8) (DJ.out.below b68))
              have F8 := Lib.hid (hg.below b8)
              have W8 := Lib.hid hw8
              clear hd hg hb7 b8 z8 j8 b68 hw8 HS6
              go_wp2_with fail
              rw [W8.out]
              refine HS8.out.mono ?_
              rintro e w9 ⟨rfl, hb9⟩
              obtain ⟨x0, x1, x2⟩ := KT.out w9 hb9
              have B9 := Lib.hid (ahead B8.out hb9)
              have HFS := Lib.hid (fields_any fs fs _ _ w9 (F8.out.below hb9) (HF.out.below B9.out) (by omega) (by omega) rfl)
              clear hb9 HS8 KT F8 W8 B8
              go_wp2_with fail
              refine HFS.out.mono ?_
              rintro e w10 ⟨rfl, hb10⟩
              have B10 := Lib.hid (ahead B9.out hb10)
              clear hb10 HFS
              go_wp2_with fail
              go_ret
              exact ⟨rfl, B10.out⟩

set_option maxRecDepth 100000 in
theorem body10_data {H : Type} {enc : TypeId × Value → H} {W : World} {base : Nat} {v0 v1 : Value} {d0 d1 : DataW H} {p0 p1 : List MemPlace} (u0 : Value.okWide Tryz.prog W .any base 22 v0) (h0 : DataW.Trod enc Tryz.prog W 0 (fun _ => true) true 22 v0 d0 p0)
    (u1 : Value.okWide Tryz.prog W .any base 23 v1) (h1 : DataW.Trod enc Tryz.prog W 0 (fun _ => true) true 23 v1 d1 p1)
    (hz : (DataW.weightsEach Tryz.prog [22, 23] [d0, d1]).all (· ≤ reachBytes) = true) (hsp : Spans W) (htz : Tz W) (hbd : Bound W) :
    Calls Tryz.prog 3 #[v0, v1] W fun e w' => e = .returned (.bool true) ∧ Below W.heap.size W w' := by
  obtain ⟨cs, p, c, rfl, hC, hcl, hcb⟩ := open_chunks u0 h0 (each_weight hz (j := 0) rfl rfl)
  obtain ⟨fs, q, d, rfl, hF, hfl, hfb⟩ := open_flds u1 h1 (each_weight hz (j := 1) rfl rfl)
  exact body10_walk cs fs p q c d W hC hF hcl hcb hfl hfb hsp hbd htz

end Go.Proofs.YtjolpnjmelifbaaGreatDoor
