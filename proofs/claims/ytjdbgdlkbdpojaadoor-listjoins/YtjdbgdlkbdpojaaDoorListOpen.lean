/- The laws of layer 7 from what came in. -/
import Derived.Test.YtjdbgdlkbdpojaaDoorListJoins
import Derived.Test.YtjdbgdlkbdpojaaDoorListAgain
import Derived.Test.YtjdbgdlkbdpojaaDoorFieldOpenIn
namespace Go.Proofs.YtjdbgdlkbdpojaaDoor
open Go.ChangeShapes Go.WideShapes Go.ChangeAt Go.RowKit Go.Deep
open Oc Fl Ls
set_option linter.unusedVariables false
set_option maxRecDepth 100000

/-- From element by element to the whole. -/
theorem tx_of {W : World} {a : Addr} {cap : Nat} {l : List ByteArray} (h1 : l.length ≤ cap) (h2 : cap ≤ maxLen) (h : ∀ i s, l[i]? = some s → W.cell? (a.add i) = some (.string s)) : TX W (.slice (some a) l.length cap) l := by
  refine ⟨tv_len l, some a, cap, rfl, h1, h2, (fun h => by cases h), fun ad hp i u hu => ?_⟩
  cases hp
  simp only [tv, List.getElem?_map] at hu
  cases hx : l[i]? with
  | none => simp [hx] at hu
  | some s => rw [hx] at hu; simp at hu; subst hu; exact h i s hx
/-- A list of texts; each of them is as long as a memory bears. -/
theorem open_txts {H : Type} {enc : TypeId × Value → H} {W : World} {base : Nat} {v : Value} {d : DataW H} {p : List MemPlace} (u : Value.okWide Tryd.prog W .any base 22 v)
    (h : DataW.Trod enc Tryd.prog W 0 (fun _ => true) true 22 v d p) (hz : ∀ n ∈ d.weights Tryd.prog 22, n ≤ reachBytes) :
    ∃ l : List ByteArray, ∃ q c, v = .slice q l.length c ∧ TX W v l ∧ l.length ≤ 140737488355328 ∧ ∀ s ∈ l, s.size ≤ 140737488355328 := by
  obtain ⟨a1, len1, cap1, rfl⟩ := okWide_slice Tryd.underlying22 u
  obtain ⟨fuel, hf⟩ := h
  have hrb : reachBytes ≤ 140737488355328 := by decide
  rcases open_slice Tryd.underlying22 hf with ⟨hcs, _⟩ | ⟨a, l, c, m, n, D, Pl, hcs, _, hl, hm, hmm, hd, hi⟩
  · simp [Value.cells] at hcs
    obtain ⟨rfl, rfl, rfl⟩ := hcs
    exact ⟨[], none, 0, rfl, RS.nil W 1, by simp, fun f hf => by simp at hf⟩
  · simp [Value.cells] at hcs
    obtain ⟨rfl, rfl, rfl⟩ := hcs
    simp at hmm
    subst hmm
    simp only [Prod.mk.injEq] at hd
    obtain ⟨rfl, _⟩ := hd
    have hby : Tryd.prog.bytesOf 9 = 16 := by kernel_rfl
    have hlen : len1 ≤ 140737488355328 := by
      have := hz ((((List.range len1).map D).length + ((List.range (m - len1)).map fun j => D (len1 + j)).length) * Tryd.prog.bytesOf 9) (by simp [DataW.weights, Tryd.underlying22])
      rw [hby] at this
      simp at this
      omega
    obtain ⟨os, h1, h2⟩ := gather2 (P := fun i (o : ByteArray) => W.cell? (a.add i) = some (.string o) ∧ o.size ≤ 140737488355328) len1 (fun i hil => by
      obtain ⟨cs, hcs, ht⟩ := hi i (by omega)
      rw [cells_str] at hcs
      obtain ⟨_, hcl, hat⟩ := World.cells?_some hcs
      obtain ⟨s0, e0, f0, b0⟩ := DataW.trod_string Tryd.underlying9 ht
      match cs, hcl with
      | [c0], _ =>
        have g0 := hat 0 (by decide)
        simp only [List.cons.injEq, and_true] at e0
        subst e0
        rw [Addr.add_zero', Nat.mul_one] at g0
        have hw : ∀ k ∈ (D i).weights Tryd.prog 9, k ≤ 140737488355328 := fun k hk => by
          refine Nat.le_trans (hz k ?_) hrb
          simp only [DataW.weights, Tryd.underlying22, List.mem_cons, List.mem_append]
          right; left
          exact weights_all (List.mem_map.2 ⟨i, List.mem_range.2 hil, rfl⟩) k hk
        rw [(Prod.mk.injEq _ _ _ _ ▸ f0 : D i = _ ∧ Pl i = _).1] at hw
        have z0 := hw s0.data.toList.length (by simp [DataW.weights])
        rw [blen'] at z0
        exact ⟨s0, g0, z0⟩)
    subst h1
    refine ⟨os, _, _, rfl, tx_of hl hm (fun i o hio => (h2 i o hio).1), hlen, fun f hf => ?_⟩
    obtain ⟨i, hi', hi''⟩ := List.mem_iff_getElem.1 hf
    exact (h2 i f (by rw [List.getElem?_eq_getElem hi', hi''])).2
/-- A number of 64 bits. -/
theorem open_u64 {H : Type} {enc : TypeId × Value → H} {W : World} {base : Nat} {v : Value} {d : DataW H} {p : List MemPlace} (u : Value.okWide Tryd.prog W .any base 31 v)
    (h : DataW.Trod enc Tryd.prog W 0 (fun _ => true) true 31 v d p) : ∃ n : Nat, v = .int .u64 (n : Int) ∧ n ≤ 18446744073709551615 := by
  obtain ⟨a, rfl, _, _, w0⟩ := open_int Tryd.underlying31 u h
  have b := bounds_u64 w0
  exact ⟨a.toNat, by congr 1; omega, by omega⟩

theorem items7_data {H : Type} {enc : TypeId × Value → H} {W : World} {base : Nat} {v0 v1 : Value} {d0 d1 : DataW H} {p0 p1 : List MemPlace}
    (u0 : Value.okWide Tryd.prog W .any base 22 v0) (h0 : DataW.Trod enc Tryd.prog W 0 (fun _ => true) true 22 v0 d0 p0)
    (u1 : Value.okWide Tryd.prog W .any base 9 v1) (h1 : DataW.Trod enc Tryd.prog W 0 (fun _ => true) true 9 v1 d1 p1)
    (hz : (DataW.weightsEach Tryd.prog [22, 9] [d0, d1]).all (· ≤ reachBytes) = true) (hsp : Spans W) :
    Calls Tryd.prog 3 #[v0, v1] W fun e w' => e = .returned (.bool true) ∧ Below W.heap.size W w' := by
  obtain ⟨l, q, c, rfl, hT, hl, hs⟩ := open_txts u0 h0 (each_weight hz (j := 0) rfl rfl)
  obtain ⟨t, rfl, _⟩ := open_text u1 h1
  exact items7_walk l t q c W hsp hT hl hs
theorem lengths7_data {H : Type} {enc : TypeId × Value → H} {W : World} {base : Nat} {v0 v1 : Value} {d0 d1 : DataW H} {p0 p1 : List MemPlace}
    (u0 : Value.okWide Tryd.prog W .any base 22 v0) (h0 : DataW.Trod enc Tryd.prog W 0 (fun _ => true) true 22 v0 d0 p0)
    (u1 : Value.okWide Tryd.prog W .any base 9 v1) (h1 : DataW.Trod enc Tryd.prog W 0 (fun _ => true) true 9 v1 d1 p1)
    (hz : (DataW.weightsEach Tryd.prog [22, 9] [d0, d1]).all (· ≤ reachBytes) = true) (hsp : Spans W) :
    Calls Tryd.prog 4 #[v0, v1] W fun e w' => e = .returned (.bool true) ∧ Below W.heap.size W w' := by
  obtain ⟨l, q, c, rfl, hT, hl, hs⟩ := open_txts u0 h0 (each_weight hz (j := 0) rfl rfl)
  obtain ⟨t, rfl, _⟩ := open_text u1 h1
  exact lengths7_walk l t q c W hsp hT hl hs
theorem codings7_data {H : Type} {enc : TypeId × Value → H} {W : World} {base : Nat} {v0 : Value} {d0 : DataW H} {p0 : List MemPlace}
    (u0 : Value.okWide Tryd.prog W .any base 22 v0) (h0 : DataW.Trod enc Tryd.prog W 0 (fun _ => true) true 22 v0 d0 p0)
    (hz : (DataW.weightsEach Tryd.prog [22] [d0]).all (· ≤ reachBytes) = true) (hsp : Spans W) :
    Calls Tryd.prog 5 #[v0] W fun e w' => e = .returned (.bool true) ∧ Below W.heap.size W w' := by
  obtain ⟨l, q, c, rfl, hT, hl, hs⟩ := open_txts u0 h0 (each_weight hz (j := 0) rfl rfl)
  exact codings7_walk l q c W hsp hT hl hs
theorem joins7_data {H : Type} {enc : TypeId × Value → H} {W : World} {base : Nat} {v0 v1 : Value} {d0 d1 : DataW H} {p0 p1 : List MemPlace}
    (u0 : Value.okWide Tryd.prog W .any base 9 v0) (h0 : DataW.Trod enc Tryd.prog W 0 (fun _ => true) true 9 v0 d0 p0)
    (u1 : Value.okWide Tryd.prog W .any base 9 v1) (h1 : DataW.Trod enc Tryd.prog W 0 (fun _ => true) true 9 v1 d1 p1) (hsp : Spans W) :
    Calls Tryd.prog 6 #[v0, v1] W fun e w' => e = .returned (.bool true) ∧ Below W.heap.size W w' := by
  obtain ⟨s, rfl, _⟩ := open_text u0 h0
  obtain ⟨t, rfl, _⟩ := open_text u1 h1
  exact joins7_walk s t W hsp
theorem again7_data {H : Type} {enc : TypeId × Value → H} {W : World} {base : Nat} {v0 v1 : Value} {d0 d1 : DataW H} {p0 p1 : List MemPlace}
    (u0 : Value.okWide Tryd.prog W .any base 31 v0) (h0 : DataW.Trod enc Tryd.prog W 0 (fun _ => true) true 31 v0 d0 p0)
    (u1 : Value.okWide Tryd.prog W .any base 5 v1) (h1 : DataW.Trod enc Tryd.prog W 0 (fun _ => true) true 5 v1 d1 p1) (hsp : Spans W) :
    Calls Tryd.prog 7 #[v0, v1] W fun e w' => e = .returned (.bool true) ∧ Below W.heap.size W w' := by
  obtain ⟨n, rfl, hn⟩ := open_u64 u0 h0
  obtain ⟨b, rfl⟩ := open_byte u1 h1
  exact again7_walk n hn b.toNat (by have := b.toNat_lt; omega) W hsp

end Go.Proofs.YtjdbgdlkbdpojaaDoor
