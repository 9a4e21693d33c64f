/- Fields, lists of fields, texts and bytes that came in as arguments, opened. -/
import Derived.Test.YtpmgmbekhnjeoaaDoorFieldRows
import Derived.Test.YtpmgmbekhnjeoaaDoorOctetLaid
import Derived.Deep.Slices
import Derived.Deep.Strs
import Derived.SizedLaws
namespace Go.Proofs.YtpmgmbekhnjeoaaDoor
open Go.ChangeShapes Go.WideShapes Go.ChangeAt Go.RowKit Go.Deep
open Oc Fl
set_option linter.unusedVariables false
set_option maxRecDepth 100000

theorem cells_fld : Tryd.prog.cellsOf 41 = 2 := by kernel_rfl
theorem cells_str : Tryd.prog.cellsOf 9 = 1 := by kernel_rfl

/-- A field. -/
theorem open_fld {H : Type} {enc : TypeId × Value → H} {W : World} {base : Nat} {v : Value} {d : DataW H} {p : List MemPlace} (u : Value.okWide Tryd.prog W .any base 41 v)
    (h : DataW.Trod enc Tryd.prog W 0 (fun _ => true) true 41 v d p) : ∃ f : Fld, v = fld f ∧ f.name.size ≤ maxLen ∧ f.value.size ≤ maxLen := by
  obtain ⟨cs, rfl, hcs⟩ := okWide_struct Tryd.underlying41 u
  obtain ⟨fuel, hf⟩ := h
  obtain ⟨y0, y1, n', _, hl, t0, t1⟩ := trod_struct2 Tryd.underlying41 hf
  rw [cells_fld] at hcs
  obtain ⟨l⟩ := cs
  match l, hcs with
  | [c0, c1], _ =>
    simp only [cells_str, Value.cells, List.drop_zero, List.drop_succ_cons, List.take_succ_cons, List.take_zero] at t0 t1
    obtain ⟨s0, e0, _, b0⟩ := DataW.trod_string Tryd.underlying9 t0
    obtain ⟨s1, e1, _, b1⟩ := DataW.trod_string Tryd.underlying9 t1
    simp only [List.cons.injEq, and_true] at e0 e1
    subst e0
    subst e1
    exact ⟨⟨s0, s1⟩, rfl, b0, b1⟩
/-- A byte. -/
theorem open_byte {H : Type} {enc : TypeId × Value → H} {W : World} {base : Nat} {v : Value} {d : DataW H} {p : List MemPlace} (u : Value.okWide Tryd.prog W .any base 5 v)
    (h : DataW.Trod enc Tryd.prog W 0 (fun _ => true) true 5 v d p) : ∃ b : UInt8, v = .int .u8 (b.toNat : Int) := by
  obtain ⟨a, rfl, _, _, w0⟩ := open_int Tryd.underlying5 u h
  have b := bounds_u8 w0
  refine ⟨UInt8.ofNat a.toNat, ?_⟩
  congr 1
  simp
  omega

theorem gather2 {α : Type} {P : Nat → α → Prop} (n : Nat) (h : ∀ i, i < n → ∃ o, P i o) : ∃ os : List α, os.length = n ∧ ∀ i o, os[i]? = some o → P i o := by
  induction n with
  | zero => exact ⟨[], rfl, fun i o hi => by simp at hi⟩
  | succ n ih =>
    obtain ⟨os, h1, h2⟩ := ih (fun i hi => h i (by omega))
    obtain ⟨o, ho⟩ := h n (by omega)
    refine ⟨os ++ [o], by simp [h1], fun i o' hi => ?_⟩
    by_cases e : i < n
    · rw [List.getElem?_append_left (by omega)] at hi
      exact h2 i o' hi
    · rw [List.getElem?_append_right (by omega)] at hi
      have hi0 : i - os.length = 0 := by
        have := (List.getElem?_eq_some_iff.1 hi).1
        simp at this
        omega
      rw [hi0] at hi
      cases hi
      obtain rfl : i = n := by omega
      exact ho

theorem fv_cases {l : List Fld} {i : Nat} {u : Value} (h : (fv l)[i]? = some u) : ∃ f, l[i / 2]? = some f ∧ (i % 2 = 0 ∧ u = .string f.name ∨ i % 2 = 1 ∧ u = .string f.value) := by
  have hi := (List.getElem?_eq_some_iff.1 h).1
  rw [fv_len] at hi
  have hlt : i / 2 < l.length := by omega
  refine ⟨l[i / 2], List.getElem?_eq_getElem hlt, ?_⟩
  have := fv_get (List.getElem?_eq_getElem hlt)
  rcases Nat.mod_two_eq_zero_or_one i with e | e
  · left
    rw [show i / 2 * 2 = i by omega, h] at this
    exact ⟨e, Option.some.inj this.1⟩
  · right
    have h2 := this.2
    rw [show i / 2 * 2 + 1 = i by omega, h] at h2
    exact ⟨e, Option.some.inj h2⟩
theorem fs_of {W : World} {a : Addr} {cap : Nat} {l : List Fld} (h1 : l.length ≤ cap) (h2 : cap ≤ maxLen) (h : ∀ i f, l[i]? = some f → W.cell? (a.add (i * 2)) = some (.string f.name) ∧ W.cell? (a.add (i * 2 + 1)) = some (.string f.value)) : FS W (.slice (some a) l.length cap) l := by
  refine ⟨fv_len l, some a, cap, rfl, h1, h2, (fun h => by cases h), fun ad hp i u hu => ?_⟩
  cases hp
  obtain ⟨f, hf, ⟨e, rfl⟩ | ⟨e, rfl⟩⟩ := fv_cases hu
  · have := (h _ _ hf).1
    rw [show i / 2 * 2 = i by omega] at this
    exact this
  · have := (h _ _ hf).2
    rw [show i / 2 * 2 + 1 = i by omega] at this
    exact this

theorem weights_all {H : Type} {P : Program} {e : TypeId} : ∀ {l : List (DataW H)} {d : DataW H}, d ∈ l → ∀ n ∈ d.weights P e, n ∈ DataW.weightsAll P e l
  | x :: l, d, h, n, hn => by
    simp only [DataW.weightsAll, List.mem_append]
    rcases List.mem_cons.1 h with rfl | h
    · exact .inl hn
    · exact .inr (weights_all h n hn)

/-- A list of fields; each text of it is as long as a memory bears. -/
theorem open_flds {H : Type} {enc : TypeId × Value → H} {W : World} {base : Nat} {v : Value} {d : DataW H} {p : List MemPlace} (u : Value.okWide Tryd.prog W .any base 27 v)
    (h : DataW.Trod enc Tryd.prog W 0 (fun _ => true) true 27 v d p) (hz : ∀ n ∈ d.weights Tryd.prog 27, n ≤ reachBytes) :
    ∃ l : List Fld, ∃ q c, v = .slice q l.length c ∧ FS W v l ∧ l.length ≤ 140737488355328 ∧ ∀ f ∈ l, f.name.size ≤ 140737488355328 ∧ f.value.size ≤ 140737488355328 := by
  obtain ⟨a1, len1, cap1, rfl⟩ := okWide_slice Tryd.underlying27 u
  obtain ⟨fuel, hf⟩ := h
  have hrb : reachBytes ≤ 140737488355328 := by decide
  rcases open_slice Tryd.underlying27 hf with ⟨hcs, _⟩ | ⟨a, l, c, m, n, D, Pl, hcs, _, hl, hm, hmm, hd, hi⟩
  · simp [Value.cells] at hcs
    obtain ⟨rfl, rfl, rfl⟩ := hcs
    exact ⟨[], none, 0, rfl, RS.nil W 2, by simp, fun f hf => by simp at hf⟩
  · simp [Value.cells] at hcs
    obtain ⟨rfl, rfl, rfl⟩ := hcs
    simp at hmm
    subst hmm
    simp only [Prod.mk.injEq] at hd
    obtain ⟨rfl, _⟩ := hd
    have hby : Tryd.prog.bytesOf 41 = 32 := by kernel_rfl
    have hlen : len1 ≤ 140737488355328 := by
      have := hz ((((List.range len1).map D).length + ((List.range (m - len1)).map fun j => D (len1 + j)).length) * Tryd.prog.bytesOf 41) (by simp [DataW.weights, Tryd.underlying27])
      rw [hby] at this
      simp at this
      omega
    obtain ⟨os, h1, h2⟩ := gather2 (P := fun i (o : Fld) => (W.cell? (a.add (i * 2)) = some (.string o.name) ∧ W.cell? (a.add (i * 2 + 1)) = some (.string o.value)) ∧ o.name.size ≤ 140737488355328 ∧ o.value.size ≤ 140737488355328) len1 (fun i hil => by
      obtain ⟨cs, hcs, ht⟩ := hi i (by omega)
      rw [cells_fld] at hcs
      obtain ⟨_, hcl, hat⟩ := World.cells?_some hcs
      obtain ⟨y0, y1, n', hD, _, t0, t1⟩ := trod_struct2 Tryd.underlying41 ht
      match cs, hcl with
      | [c0, c1], _ =>
        have g0 := hat 0 (by decide)
        have g1 := hat 1 (by decide)
        simp only [cells_str, List.drop_zero, List.drop_succ_cons, List.take_succ_cons, List.take_zero] at t0 t1
        obtain ⟨s0, e0, f0, b0⟩ := DataW.trod_string Tryd.underlying9 t0
        obtain ⟨s1, e1, f1, b1⟩ := DataW.trod_string Tryd.underlying9 t1
        simp only [List.cons.injEq, and_true] at e0 e1
        subst e0
        subst e1
        rw [Addr.add_zero'] at g0
        rw [Addr.add_add] at g1
        simp only [Prod.mk.injEq] at hD
        have hDi : D i = .agg [.lit (.string s0.data.toList), .lit (.string s1.data.toList)] := by rw [hD.1, f0, f1]
        have hw : ∀ k ∈ (D i).weights Tryd.prog 41, k ≤ 140737488355328 := fun k hk => by
          refine Nat.le_trans (hz k ?_) hrb
          simp only [DataW.weights, Tryd.underlying27, List.mem_cons, List.mem_append]
          right; left
          exact weights_all (List.mem_map.2 ⟨i, List.mem_range.2 hil, rfl⟩) k hk
        rw [hDi] at hw
        have z0 := hw s0.data.toList.length (by simp [DataW.weights, Tryd.underlying41, DataW.weightsEach])
        have z1 := hw s1.data.toList.length (by simp [DataW.weights, Tryd.underlying41, DataW.weightsEach])
        rw [blen'] at z0 z1
        exact ⟨⟨s0, s1⟩, ⟨g0, g1⟩, z0, z1⟩)
    subst h1
    refine ⟨os, _, _, rfl, fs_of hl hm (fun i o hio => (h2 i o hio).1), hlen, fun f hf => ?_⟩
    obtain ⟨i, hi', hi''⟩ := List.mem_iff_getElem.1 hf
    exact (h2 i f (by rw [List.getElem?_eq_getElem hi', hi''])).2
theorem each_weight {H : Type} {P : Program} {ts : List TypeId} {ds : List (DataW H)} (hz : (DataW.weightsEach P ts ds).all (· ≤ reachBytes) = true) {j : Nat} {t : TypeId} {d : DataW H} (ht : ts[j]? = some t) (hd : ds[j]? = some d) : ∀ n ∈ d.weights P t, n ≤ reachBytes := fun n hn => by
  have := List.all_eq_true.1 hz _ (DataW.weights_mem_each ht hd n hn)
  simpa using this
theorem open_text {H : Type} {enc : TypeId × Value → H} {W : World} {base : Nat} {v : Value} {d : DataW H} {p : List MemPlace} (u : Value.okWide Tryd.prog W .any base 9 v)
    (h : DataW.Trod enc Tryd.prog W 0 (fun _ => true) true 9 v d p) : ∃ s : ByteArray, v = .string s ∧ s.size ≤ 9223372036854775807 := by
  obtain ⟨s, rfl, _, _, w0⟩ := Go.ChangeMaps.open_string Tryd.underlying9 u h
  exact ⟨s, rfl, by unfold maxLen at w0; omega⟩


end Go.Proofs.YtpmgmbekhnjeoaaDoor
