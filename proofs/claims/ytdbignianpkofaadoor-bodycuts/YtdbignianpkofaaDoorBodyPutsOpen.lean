/- BodyPuts and BodyCuts from what came in. -/
import Derived.Test.YtdbignianpkofaaDoorBodyCuts
import Derived.Test.YtdbignianpkofaaDoorBodyOpen
namespace Go.Proofs.YtdbignianpkofaaDoor
open Go.ChangeShapes Go.WideShapes Go.ChangeAt Go.RowKit Go.Deep
open Oc Fl Bk Bd
set_option linter.unusedVariables false
set_option maxRecDepth 100000

/-- A list of slices of bytes; each is as long as a memory bears. -/
theorem open_chunks {H : Type} {enc : TypeId × Value → H} {W : World} {base : Nat} {v : Value} {d : DataW H} {p : List MemPlace} (u : Value.okWide Tryd.prog W .any base 44 v)
    (h : DataW.Trod enc Tryd.prog W 0 (fun _ => true) true 44 v d p) (hz : ∀ n ∈ d.weights Tryd.prog 44, n ≤ reachBytes) :
    ∃ cs : List (List UInt8), ∃ q c, v = .slice q cs.length c ∧ CS W v cs ∧ cs.length ≤ 140737488355328 ∧ ∀ x ∈ cs, x.length ≤ 140737488355328 := by
  obtain ⟨a1, len1, cap1, rfl⟩ := okWide_slice Tryd.underlying44 u
  obtain ⟨fuel, hf⟩ := h
  have hrb : reachBytes ≤ 140737488355328 := by decide
  have h1c : Tryd.prog.cellsOf 22 = 1 := by kernel_rfl
  rcases open_slice1 Tryd.underlying44 h1c hf with ⟨hcs, _⟩ | ⟨a, l, c, m, n, V, D, Pl, hcs, _, hl, hm, hmm, hd, hi⟩
  · simp [Value.cells] at hcs
    obtain ⟨rfl, rfl, rfl⟩ := hcs
    exact ⟨[], none, 0, rfl, ⟨[], RS.nil W 1, rfl, fun i u x hu => by simp at hu⟩, by simp, fun f hf => by simp at hf⟩
  · simp [Value.cells] at hcs
    obtain ⟨rfl, rfl, rfl⟩ := hcs
    simp at hmm
    subst hmm
    simp only [Prod.mk.injEq] at hd
    obtain ⟨rfl, _⟩ := hd
    have hby : Tryd.prog.bytesOf 22 = 24 := by kernel_rfl
    have hby1 : Tryd.prog.bytesOf 5 = 1 := by kernel_rfl
    have hlen : len1 ≤ 140737488355328 := by
      have := hz ((((List.range len1).map D).length + ((List.range (m - len1)).map fun j => D (len1 + j)).length) * Tryd.prog.bytesOf 22) (by simp [DataW.weights, Tryd.underlying44])
      rw [hby] at this
      simp at this
      omega
    obtain ⟨os, h1, h2⟩ := gather2 (P := fun i (x : List UInt8) => W.cell? (a.add i) = some (V i) ∧ RD W (V i) x ∧ x.length ≤ 140737488355328) len1 (fun i hil => by
      obtain ⟨hc, ht⟩ := hi i (by omega)
      rcases open_ints Tryd.underlying22 Tryd.underlying5 (by kernel_rfl) ht with ⟨e, _⟩ | ⟨x, l', c', zs, e, _, hl', hm', hz', hx, hcell, hwz⟩
      · simp at e
        rw [e] at hc ⊢
        exact ⟨[], hc, RD.nil W, by simp⟩
      · simp at e
        rw [e] at hc ⊢
        simp only [if_true] at hz'
        obtain ⟨xs, hr⟩ := row_rd (w := W) (p := some x) (l := l') (c := c') (zs := zs) (.inr ⟨x, rfl, hl', hm', hz', hcell, hwz⟩)
        have hxl := hr.len
        refine ⟨xs, hc, hr, ?_⟩
        have hDi := (Prod.mk.inj hx).1
        have hw : ∀ k ∈ (D i).weights Tryd.prog 22, k ≤ 140737488355328 := fun k hk => by
          refine Nat.le_trans (hz k ?_) hrb
          simp only [DataW.weights, Tryd.underlying44, List.mem_cons, List.mem_append]
          right; left
          exact weights_all (List.mem_map.2 ⟨i, List.mem_range.2 hil, rfl⟩) k hk
        rw [hDi] at hw
        have := hw (((lits .u8 (zs.take l') : List (DataW H)).length + (lits .u8 (zs.drop l') : List (DataW H)).length) * Tryd.prog.bytesOf 5) (by simp [DataW.weights, Tryd.underlying22])
        rw [hby1] at this
        simp [lits] at this
        omega)
    subst h1
    refine ⟨os, _, _, rfl, ⟨(List.range os.length).map V, ⟨by simp, some a, _, rfl, hl, hm, (fun h => by cases h), fun ad hp i u hu => ?_⟩, by simp, fun i u x hu hx => ?_⟩, hlen, fun x hx => ?_⟩
    · cases hp
      have hil := (List.getElem?_eq_some_iff.1 hu).1
      simp at hil
      simp [hil] at hu
      rw [← hu]
      exact (h2 i os[i] (List.getElem?_eq_getElem hil)).1
    · have hil := (List.getElem?_eq_some_iff.1 hx).1
      simp [hil] at hu
      rw [← hu]
      exact (h2 i x hx).2.1
    · obtain ⟨i, hi', hi''⟩ := List.mem_iff_getElem.1 hx
      exact (h2 i x (by rw [List.getElem?_eq_getElem hi', hi''])).2.2
/-- A number of two bytes. -/
theorem open_u16 {H : Type} {enc : TypeId × Value → H} {W : World} {base : Nat} {v : Value} {d : DataW H} {p : List MemPlace} (u : Value.okWide Tryd.prog W .any base 52 v)
    (h : DataW.Trod enc Tryd.prog W 0 (fun _ => true) true 52 v d p) : ∃ n : Nat, v = .int .u16 (n : Int) ∧ n ≤ 65535 := by
  obtain ⟨a, rfl, _, _, w0⟩ := open_int Tryd.underlying52 u h
  have b : 0 ≤ a ∧ a ≤ 65535 := bounds_u16 w0
  refine ⟨a.toNat, ?_, by omega⟩
  rw [Int.toNat_of_nonneg b.1]

theorem puts8_data {H : Type} {enc : TypeId × Value → H} {W : World} {base : Nat} {v0 v1 v2 : Value} {d0 d1 d2 : DataW H} {p0 p1 p2 : List MemPlace} (u0 : Value.okWide Tryd.prog W .any base 44 v0) (h0 : DataW.Trod enc Tryd.prog W 0 (fun _ => true) true 44 v0 d0 p0)
    (u1 : Value.okWide Tryd.prog W .any base 26 v1) (h1 : DataW.Trod enc Tryd.prog W 0 (fun _ => true) true 26 v1 d1 p1) (u2 : Value.okWide Tryd.prog W .any base 22 v2) (h2 : DataW.Trod enc Tryd.prog W 0 (fun _ => true) true 22 v2 d2 p2)
    (hz : (DataW.weightsEach Tryd.prog [44, 26, 22] [d0, d1, d2]).all (· ≤ reachBytes) = true) (hsp : Spans W) (hbd : Bound W) :
    Calls Tryd.prog 4 #[v0, v1, v2] W fun e w' => e = .returned (.bool true) ∧ Below W.heap.size W w' := by
  obtain ⟨cs, p, c, rfl, hC, _, hcb⟩ := open_chunks u0 h0 (each_weight hz (j := 0) rfl rfl)
  obtain ⟨fs, q, d, rfl, hF, hfl, hfb⟩ := open_flds u1 h1 (each_weight hz (j := 1) rfl rfl)
  obtain ⟨M, hM, _⟩ := open_bytes u2 h2
  obtain ⟨r, m, rfl, -⟩ := id hM
  exact puts8_walk cs fs M p q r c d m W hC hF hM hcb hfl hfb hsp hbd
theorem cuts8_data {H : Type} {enc : TypeId × Value → H} {W : World} {base : Nat} {v0 v1 v2 : Value} {d0 d1 d2 : DataW H} {p0 p1 p2 : List MemPlace} (u0 : Value.okWide Tryd.prog W .any base 44 v0) (h0 : DataW.Trod enc Tryd.prog W 0 (fun _ => true) true 44 v0 d0 p0)
    (u1 : Value.okWide Tryd.prog W .any base 26 v1) (h1 : DataW.Trod enc Tryd.prog W 0 (fun _ => true) true 26 v1 d1 p1) (u2 : Value.okWide Tryd.prog W .any base 52 v2) (h2 : DataW.Trod enc Tryd.prog W 0 (fun _ => true) true 52 v2 d2 p2)
    (hz : (DataW.weightsEach Tryd.prog [44, 26, 52] [d0, d1, d2]).all (· ≤ reachBytes) = true) (hsp : Spans W) (hbd : Bound W) :
    Calls Tryd.prog 5 #[v0, v1, v2] W fun e w' => e = .returned (.bool true) ∧ Below W.heap.size W w' := by
  obtain ⟨cs, p, c, rfl, hC, _, hcb⟩ := open_chunks u0 h0 (each_weight hz (j := 0) rfl rfl)
  obtain ⟨fs, q, d, rfl, hF, hfl, hfb⟩ := open_flds u1 h1 (each_weight hz (j := 1) rfl rfl)
  obtain ⟨k, rfl, hk⟩ := open_u16 u2 h2
  exact cuts8_walk cs fs k hk p q c d W hC hF hcb hfl hfb hsp hbd

end Go.Proofs.YtdbignianpkofaaDoor
