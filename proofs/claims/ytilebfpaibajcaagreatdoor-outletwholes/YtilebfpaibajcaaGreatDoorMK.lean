/- MK: OctetLaid, FieldOpenIn, BytesOpen in one. -/
import Derived.Test.YtilebfpaibajcaaGreatDoorOctetGo
import Derived.LaidMore
import Derived.Stop.Joined
import Derived.Stop.LaidErr
import Derived.Lib.LaidU8
import Derived.Test.YtilebfpaibajcaaGreatDoorMC
import Derived.Deep.Slices
import Derived.Deep.Strs
import Derived.SizedLaws
import Derived.Test.YtilebfpaibajcaaGreatDoorMD
import Derived.Test.YtilebfpaibajcaaGreatDoorLimRight
/- Where the listed variable octet.wordSpans reads as it is listed, the letters and digits lie in its cells. -/
namespace Go.Proofs.YtilebfpaibajcaaGreatDoor
open Go.ChangeShapes Go.WideShapes Go.ChangeAt Go.RowKit
set_option linter.unusedVariables false
set_option maxRecDepth 100000

theorem sp_name : Tryz.prog.globalNamed "catchpit/octet.wordSpans" = some 1 := by kernel_rfl
theorem sp_type : (Tryz.prog.globals[1]?).map (·.type) = some 157 := by kernel_rfl
theorem sp_c1 : Tryz.prog.cellsOf 5 = 1 := by kernel_rfl
theorem sp_c2 : Tryz.prog.cellsOf 156 = 2 := by kernel_rfl

theorem sp_at {W : World} (h : Lib.VarReads Tryz.prog W "catchpit/octet.wordSpans" Rows.laid_catchpit_octet_wordSpans) (i : Nat) (a b : Int) (hi : (i, a, b) ∈ ([(0, 48, 57), (1, 65, 90), (2, 97, 122)] : List (Nat × Int × Int))) :
    W.cell? ⟨1, 2 * i, none⟩ = some (.int .u8 a) ∧ W.cell? ⟨1, 2 * i + 1, none⟩ = some (.int .u8 b) := by
  obtain ⟨g, t, cs, fuel, p, hg, hty, hvar, hd⟩ := h
  obtain rfl := Option.some.inj (sp_name.symm.trans hg)
  obtain rfl := Option.some.inj (sp_type.symm.trans hty)
  have hi3 : i < 3 := by
    simp only [List.mem_cons, List.not_mem_nil, or_false, Prod.mk.injEq] at hi; omega
  obtain ⟨fuel', d, q, hdi, he⟩ := Lib.array_elem Tryz.underlying157 hd i hi3
  have hd2 : d = .agg ([a, b].map fun z => .lit (.int .u8 z)) := by
    simp only [List.mem_cons, List.not_mem_nil, or_false, Prod.mk.injEq] at hi
    rcases hi with ⟨rfl, rfl, rfl⟩ | ⟨rfl, rfl, rfl⟩ | ⟨rfl, rfl, rfl⟩ <;> exact (Option.some.inj hdi).symm
  subst hd2
  rw [sp_c2] at he
  have hcs := Lib.ints_of_struct Tryz.underlying156 (fun j f hj => by
    match j, hj with
    | 0, hj => simp at hj; subst hj; exact ⟨Tryz.underlying5, rfl, sp_c1⟩
    | 1, hj => simp at hj; subst hj; exact ⟨Tryz.underlying5, rfl, sp_c1⟩
    | j + 2, hj => simp at hj) (by rw [sp_c2]; rfl) he
  have e0 := congrArg (·[0]?) hcs
  have e1 := congrArg (·[1]?) hcs
  simp only [List.getElem?_take, List.getElem?_drop] at e0 e1
  constructor
  · rw [World.var?_cell hg hvar (2 * i), ← Array.getElem?_toList]
    simpa [Nat.mul_comm] using e0
  · rw [World.var?_cell hg hvar (2 * i + 1), ← Array.getElem?_toList]
    simpa [Nat.mul_comm] using e1

theorem cell_size {W : World} {g off : Nat} {v : Value} (h : W.cell? ⟨g, off, none⟩ = some v) : g < W.heap.size := by
  rcases Nat.lt_or_ge g W.heap.size with h1 | h1
  · exact h1
  · simp [World.cell?, Array.getElem?_eq_none h1] at h

theorem spans_of_reads {W : World} (h : Lib.VarReads Tryz.prog W "catchpit/octet.wordSpans" Rows.laid_catchpit_octet_wordSpans) : Spans W := by
  have h0 := sp_at h 0 48 57 (by decide)
  have h1 := sp_at h 1 65 90 (by decide)
  have h2 := sp_at h 2 97 122 (by decide)
  exact ⟨cell_size h0.1, h0.1, h0.2, h1.1, h1.2, h2.1, h2.2⟩

/-- From what a row lists. -/
theorem spans_of_laid {W : World} {l : List (String × DataW Unit)} (h : laidMetH Tryz.prog l W) (hl : (l.filter fun x => x.2.handleName?.isSome) = []) (hm : ("catchpit/octet.wordSpans", Rows.laid_catchpit_octet_wordSpans) ∈ l) : Spans W := by
  unfold laidMetH at h
  rw [hl] at h
  exact spans_of_reads (Lib.laidMet.reads h hm)

end Go.Proofs.YtilebfpaibajcaaGreatDoor

/- Fields, lists of fields, texts and bytes that came in as arguments, opened. -/
namespace Go.Proofs.YtilebfpaibajcaaGreatDoor
open Go.ChangeShapes Go.WideShapes Go.ChangeAt Go.RowKit Go.Deep
open Oc Fl
set_option linter.unusedVariables false
set_option maxRecDepth 100000

theorem cells_fld : Tryz.prog.cellsOf 86 = 2 := by kernel_rfl
theorem cells_str : Tryz.prog.cellsOf 9 = 1 := by kernel_rfl

/-- A field. -/
theorem open_fld {H : Type} {enc : TypeId × Value → H} {W : World} {base : Nat} {v : Value} {d : DataW H} {p : List MemPlace} (u : Value.okWide Tryz.prog W .any base 86 v)
    (h : DataW.Trod enc Tryz.prog W 0 (fun _ => true) true 86 v d p) : ∃ f : Fld, v = fld f ∧ f.name.size ≤ maxLen ∧ f.value.size ≤ maxLen := by
  obtain ⟨cs, rfl, hcs⟩ := okWide_struct Tryz.underlying86 u
  obtain ⟨fuel, hf⟩ := h
  obtain ⟨y0, y1, n', _, hl, t0, t1⟩ := trod_struct2 Tryz.underlying86 hf
  rw [cells_fld] at hcs
  obtain ⟨l⟩ := cs
  match l, hcs with
  | [c0, c1], _ =>
    simp only [cells_str, Value.cells, List.drop_zero, List.drop_succ_cons, List.take_succ_cons, List.take_zero] at t0 t1
    obtain ⟨s0, e0, _, b0⟩ := DataW.trod_string Tryz.underlying9 t0
    obtain ⟨s1, e1, _, b1⟩ := DataW.trod_string Tryz.underlying9 t1
    simp only [List.cons.injEq, and_true] at e0 e1
    subst e0
    subst e1
    exact ⟨⟨s0, s1⟩, rfl, b0, b1⟩
/-- A byte. -/
theorem open_byte {H : Type} {enc : TypeId × Value → H} {W : World} {base : Nat} {v : Value} {d : DataW H} {p : List MemPlace} (u : Value.okWide Tryz.prog W .any base 5 v)
    (h : DataW.Trod enc Tryz.prog W 0 (fun _ => true) true 5 v d p) : ∃ b : UInt8, v = .int .u8 (b.toNat : Int) := by
  obtain ⟨a, rfl, _, _, w0⟩ := open_int Tryz.underlying5 u h
  have b := bounds_u8 w0
  refine ⟨UInt8.ofNat a.toNat, ?_⟩
  congr 1
  simp
  omega

theorem gather2 {α : Type} {P : Nat → α → Prop} (n : Nat) (h : ∀ i, i < n → ∃ o, P i o) : ∃ os : List α, os.length = n ∧ ∀ i o, os[i]? = some o → P i o := by
  induction n with
  | zero => exact ⟨[], rfl, fun i o hi => by simp at hi⟩
  | succ n ih =>
    obtain ⟨os, h1, h2⟩ := ih (fun i hi => h i (by omega))
    obtain ⟨o, ho⟩ := h n (by omega)
    refine ⟨os ++ [o], by simp [h1], fun i o' hi => ?_⟩
    by_cases e : i < n
    · rw [List.getElem?_append_left (by omega)] at hi
      exact h2 i o' hi
    · rw [List.getElem?_append_right (by omega)] at hi
      have hi0 : i - os.length = 0 := by
        have := (List.getElem?_eq_some_iff.1 hi).1
        simp at this
        omega
      rw [hi0] at hi
      cases hi
      obtain rfl : i = n := by omega
      exact ho

theorem fv_cases {l : List Fld} {i : Nat} {u : Value} (h : (fv l)[i]? = some u) : ∃ f, l[i / 2]? = some f ∧ (i % 2 = 0 ∧ u = .string f.name ∨ i % 2 = 1 ∧ u = .string f.value) := by
  have hi := (List.getElem?_eq_some_iff.1 h).1
  rw [fv_len] at hi
  have hlt : i / 2 < l.length := by omega
  refine ⟨l[i / 2], List.getElem?_eq_getElem hlt, ?_⟩
  have := fv_get (List.getElem?_eq_getElem hlt)
  rcases Nat.mod_two_eq_zero_or_one i with e | e
  · left
    rw [show i / 2 * 2 = i by omega, h] at this
    exact ⟨e, Option.some.inj this.1⟩
  · right
    have h2 := this.2
    rw [show i / 2 * 2 + 1 = i by omega, h] at h2
    exact ⟨e, Option.some.inj h2⟩
theorem fs_of {W : World} {a : Addr} {cap : Nat} {l : List Fld} (h1 : l.length ≤ cap) (h2 : cap ≤ maxLen) (h : ∀ i f, l[i]? = some f → W.cell? (a.add (i * 2)) = some (.string f.name) ∧ W.cell? (a.add (i * 2 + 1)) = some (.string f.value)) : FS W (.slice (some a) l.length cap) l := by
  refine ⟨fv_len l, some a, cap, rfl, h1, h2, (fun h => by cases h), fun ad hp i u hu => ?_⟩
  cases hp
  obtain ⟨f, hf, ⟨e, rfl⟩ | ⟨e, rfl⟩⟩ := fv_cases hu
  · have := (h _ _ hf).1
    rw [show i / 2 * 2 = i by omega] at this
    exact this
  · have := (h _ _ hf).2
    rw [show i / 2 * 2 + 1 = i by omega] at this
    exact this

theorem weights_all {H : Type} {P : Program} {e : TypeId} : ∀ {l : List (DataW H)} {d : DataW H}, d ∈ l → ∀ n ∈ d.weights P e, n ∈ DataW.weightsAll P e l
  | x :: l, d, h, n, hn => by
    simp only [DataW.weightsAll, List.mem_append]
    rcases List.mem_cons.1 h with rfl | h
    · exact .inl hn
    · exact .inr (weights_all h n hn)

/-- A list of fields; each text of it is as long as a memory bears. -/
theorem open_flds {H : Type} {enc : TypeId × Value → H} {W : World} {base : Nat} {v : Value} {d : DataW H} {p : List MemPlace} (u : Value.okWide Tryz.prog W .any base 38 v)
    (h : DataW.Trod enc Tryz.prog W 0 (fun _ => true) true 38 v d p) (hz : ∀ n ∈ d.weights Tryz.prog 38, n ≤ reachBytes) :
    ∃ l : List Fld, ∃ q c, v = .slice q l.length c ∧ FS W v l ∧ l.length ≤ 140737488355328 ∧ ∀ f ∈ l, f.name.size ≤ 140737488355328 ∧ f.value.size ≤ 140737488355328 := by
  obtain ⟨a1, len1, cap1, rfl⟩ := okWide_slice Tryz.underlying38 u
  obtain ⟨fuel, hf⟩ := h
  have hrb : reachBytes ≤ 140737488355328 := by decide
  rcases open_slice Tryz.underlying38 hf with ⟨hcs, _⟩ | ⟨a, l, c, m, n, D, Pl, hcs, _, hl, hm, hmm, hd, hi⟩
  · simp [Value.cells] at hcs
    obtain ⟨rfl, rfl, rfl⟩ := hcs
    exact ⟨[], none, 0, rfl, RS.nil W 2, by simp, fun f hf => by simp at hf⟩
  · simp [Value.cells] at hcs
    obtain ⟨rfl, rfl, rfl⟩ := hcs
    simp at hmm
    subst hmm
    simp only [Prod.mk.injEq] at hd
    obtain ⟨rfl, _⟩ := hd
    have hby : Tryz.prog.bytesOf 86 = 32 := by kernel_rfl
    have hlen : len1 ≤ 140737488355328 := by
      have := hz ((((List.range len1).map D).length + ((List.range (m - len1)).map fun j => D (len1 + j)).length) * Tryz.prog.bytesOf 86) (by simp [DataW.weights, Tryz.underlying38])
      rw [hby] at this
      simp at this
      omega
    obtain ⟨os, h1, h2⟩ := gather2 (P := fun i (o : Fld) => (W.cell? (a.add (i * 2)) = some (.string o.name) ∧ W.cell? (a.add (i * 2 + 1)) = some (.string o.value)) ∧ o.name.size ≤ 140737488355328 ∧ o.value.size ≤ 140737488355328) len1 (fun i hil => by
      obtain ⟨cs, hcs, ht⟩ := hi i (by omega)
      rw [cells_fld] at hcs
      obtain ⟨_, hcl, hat⟩ := World.cells?_some hcs
      obtain ⟨y0, y1, n', hD, _, t0, t1⟩ := trod_struct2 Tryz.underlying86 ht
      match cs, hcl with
      | [c0, c1], _ =>
        have g0 := hat 0 (by decide)
        have g1 := hat 1 (by decide)
        simp only [cells_str, List.drop_zero, List.drop_succ_cons, List.take_succ_cons, List.take_zero] at t0 t1
        obtain ⟨s0, e0, f0, b0⟩ := DataW.trod_string Tryz.underlying9 t0
        obtain ⟨s1, e1, f1, b1⟩ := DataW.trod_string Tryz.underlying9 t1
        simp only [List.cons.injEq, and_true] at e0 e1
        subst e0
        subst e1
        rw [Addr.add_zero'] at g0
        rw [Addr.add_add] at g1
        simp only [Prod.mk.injEq] at hD
        have hDi : D i = .agg [.lit (.string s0.data.toList), .lit (.string s1.data.toList)] := by rw [hD.1, f0, f1]
        have hw : ∀ k ∈ (D i).weights Tryz.prog 86, k ≤ 140737488355328 := fun k hk => by
          refine Nat.le_trans (hz k ?_) hrb
          simp only [DataW.weights, Tryz.underlying38, List.mem_cons, List.mem_append]
          right; left
          exact weights_all (List.mem_map.2 ⟨i, List.mem_range.2 hil, rfl⟩) k hk
        rw [hDi] at hw
        have z0 := hw s0.data.toList.length (by simp [DataW.weights, Tryz.underlying86, DataW.weightsEach])
        have z1 := hw s1.data.toList.length (by simp [DataW.weights, Tryz.underlying86, DataW.weightsEach])
        rw [blen'] at z0 z1
        exact ⟨⟨s0, s1⟩, ⟨g0, g1⟩, z0, z1⟩)
    subst h1
    refine ⟨os, _, _, rfl, fs_of hl hm (fun i o hio => (h2 i o hio).1), hlen, fun f hf => ?_⟩
    obtain ⟨i, hi', hi''⟩ := List.mem_iff_getElem.1 hf
    exact (h2 i f (by rw [List.getElem?_eq_getElem hi', hi''])).2
theorem each_weight {H : Type} {P : Program} {ts : List TypeId} {ds : List (DataW H)} (hz : (DataW.weightsEach P ts ds).all (· ≤ reachBytes) = true) {j : Nat} {t : TypeId} {d : DataW H} (ht : ts[j]? = some t) (hd : ds[j]? = some d) : ∀ n ∈ d.weights P t, n ≤ reachBytes := fun n hn => by
  have := List.all_eq_true.1 hz _ (DataW.weights_mem_each ht hd n hn)
  simpa using this
theorem open_text {H : Type} {enc : TypeId × Value → H} {W : World} {base : Nat} {v : Value} {d : DataW H} {p : List MemPlace} (u : Value.okWide Tryz.prog W .any base 9 v)
    (h : DataW.Trod enc Tryz.prog W 0 (fun _ => true) true 9 v d p) : ∃ s : ByteArray, v = .string s ∧ s.size ≤ 9223372036854775807 := by
  obtain ⟨s, rfl, _, _, w0⟩ := Go.ChangeMaps.open_string Tryz.underlying9 u h
  exact ⟨s, rfl, by unfold maxLen at w0; omega⟩


end Go.Proofs.YtilebfpaibajcaaGreatDoor

/- Bytes, slices of bytes, limits that came in as arguments, opened. -/
namespace Go.Proofs.YtilebfpaibajcaaGreatDoor
open Go.ChangeShapes Go.WideShapes Go.ChangeAt Go.RowKit Go.Deep
open Oc Fl
set_option linter.unusedVariables false
set_option maxRecDepth 100000

theorem row_rd {w : World} {p : Option Addr} {l c : Nat} {zs : List Int} (h : (p = none ∧ l = 0 ∧ c = 0 ∧ zs = []) ∨
    ∃ x, p = some x ∧ l ≤ c ∧ c ≤ maxLen ∧ zs.length = c ∧ (∀ i, i < zs.length → w.cell? (x.add i) = some (.int .u8 (zs.getD i 0))) ∧ ∀ n ∈ zs, (Lit.int .u8 n).wf = true) : ∃ xs, RD w (.slice p l c) xs := by
  rcases h with ⟨rfl, rfl, rfl, rfl⟩ | ⟨x, rfl, h1, h2, h3, h4, h5⟩
  · exact ⟨[], RD.nil w⟩
  · refine ⟨(zs.take l).map (fun n => UInt8.ofNat n.toNat), some x, c, by simp; omega, by simp; omega, h2, (fun h => by cases h), fun ad hp i b hb => ?_⟩
    cases hp
    have hi : i < l := by
      have := (List.getElem?_eq_some_iff.1 hb).1
      simp at this
      omega
    have hiz : i < zs.length := by omega
    rw [List.getElem?_map, List.getElem?_take, if_pos hi, List.getElem?_eq_getElem hiz] at hb
    simp only [Option.map_some, Option.some.injEq] at hb
    have hw := bounds_u8 (h5 zs[i] (List.getElem_mem hiz))
    rw [h4 i hiz, ← hb]
    have e : zs.getD i 0 = zs[i] := by simp [List.getD, List.getElem?_eq_getElem hiz]
    rw [e]
    congr 2
    simp
    omega
/-- Bytes. -/
theorem open_bytes {H : Type} {enc : TypeId × Value → H} {W : World} {base : Nat} {v : Value} {d : DataW H} {p : List MemPlace} (u : Value.okWide Tryz.prog W .any base 35 v)
    (h : DataW.Trod enc Tryz.prog W 0 (fun _ => true) true 35 v d p) : ∃ T, RD W v T ∧ ∀ g, v.ownBlock = some g → g < W.heap.size := by
  have u' := u
  obtain ⟨a0, len, cap, rfl⟩ := okWide_slice Tryz.underlying35 u
  have hv : ∀ g, (Value.slice a0 len cap).ownBlock = some g → g < W.heap.size := fun g hg => by
    cases a0 with
    | none => cases hg
    | some a =>
      cases hg
      simp only [Value.okWide, Tryz.underlying35, Cell.okWide, Cell.ok] at u'
      obtain ⟨-, -, -, -, row, cells, hs, -⟩ := u'
      unfold World.shape? at hs
      cases hh : W.heap[a.block]? with
      | none => rw [hh] at hs; cases hs
      | some o => exact (Array.getElem?_eq_some_iff.1 hh).1
  obtain ⟨fuel, hf⟩ := h
  have hc : Tryz.prog.cellsOf 5 = 1 := by kernel_rfl
  rcases open_ints Tryz.underlying35 Tryz.underlying5 hc hf with ⟨hcs, hx⟩ | ⟨a, len', cap', zs, hcs, _, hle, hmax, hall, hx, hcell, hwf⟩
  · simp [Value.cells] at hcs
    obtain ⟨rfl, rfl, rfl⟩ := hcs
    exact ⟨[], RD.nil W, hv⟩
  · simp [Value.cells] at hcs
    obtain ⟨rfl, rfl, rfl⟩ := hcs
    simp only [if_true] at hall
    obtain ⟨xs, hr⟩ := row_rd (w := W) (.inr ⟨a, rfl, hle, hmax, hall, hcell, hwf⟩)
    exact ⟨xs, hr, hv⟩
theorem cell_int {W : World} {base : Nat} {t : TypeId} {k : IntKind} {v : Value} (ht : Tryz.prog.underlying t = some (.int k)) (h : Cell.okWide Tryz.prog W .any base t v) : ∃ n, v = .int k n ∧ k.has n := by
  cases v <;> simp [Cell.okWide, Cell.ok, ht] at h
  rename_i k' n
  obtain ⟨rfl, h⟩ := h
  exact ⟨n, rfl, h⟩
theorem lims_cells : Tryz.prog.cellTypes Tryz.prog.depth 80 = some [3, 3, 3] := by kernel_rfl
theorem lims_size : Tryz.prog.cellsOf 80 = 3 := by kernel_rfl
theorem row_three {W : World} {base : Nat} {t e : TypeId} {k : IntKind} {cs : Array Value} (he : Tryz.prog.underlying e = some (.int k)) (hts : Tryz.prog.cellTypes Tryz.prog.depth t = some [e, e, e]) (hs : cs.size = 3) (h : Row.okWide Tryz.prog W .any base t cs) : ∃ a b c, cs = #[.int k a, .int k b, .int k c] ∧ k.has a ∧ k.has b ∧ k.has c := by
  obtain ⟨ts, h1, h2, h3⟩ := h
  rw [hts] at h1
  cases h1
  obtain ⟨l⟩ := cs
  match l, hs with
  | [x, y, z], _ =>
    obtain ⟨u0, e0, c0⟩ := h3 0 x rfl
    obtain ⟨u1, e1, c1⟩ := h3 1 y rfl
    obtain ⟨u2, e2, c2⟩ := h3 2 z rfl
    cases e0
    cases e1
    cases e2
    obtain ⟨a, rfl, ha⟩ := cell_int he c0
    obtain ⟨b, rfl, hb⟩ := cell_int he c1
    obtain ⟨c, rfl, hc⟩ := cell_int he c2
    exact ⟨a, b, c, rfl, ha, hb, hc⟩
/-- Limits. -/
theorem open_lims {W : World} {base : Nat} {v : Value} (u : Value.okWide Tryz.prog W .any base 80 v) : ∃ a b c, v = lim3 a b c := by
  simp only [Value.okWide, Tryz.underlying80] at u
  obtain ⟨cs, rfl, hs, hr⟩ := u
  obtain ⟨a, b, c, rfl, -⟩ := row_three Tryz.underlying3 lims_cells (hs.trans lims_size) hr
  exact ⟨a, b, c, rfl⟩
/-- A list of slices of bytes; each is as long as a memory bears. -/
theorem open_chunks {H : Type} {enc : TypeId × Value → H} {W : World} {base : Nat} {v : Value} {d : DataW H} {p : List MemPlace} (u : Value.okWide Tryz.prog W .any base 100 v)
    (h : DataW.Trod enc Tryz.prog W 0 (fun _ => true) true 100 v d p) (hz : ∀ n ∈ d.weights Tryz.prog 100, n ≤ reachBytes) :
    ∃ cs : List (List UInt8), ∃ q c, v = .slice q cs.length c ∧ CS W v cs ∧ cs.length ≤ 140737488355328 ∧ ∀ x ∈ cs, x.length ≤ 140737488355328 := by
  obtain ⟨a1, len1, cap1, rfl⟩ := okWide_slice Tryz.underlying100 u
  obtain ⟨fuel, hf⟩ := h
  have hrb : reachBytes ≤ 140737488355328 := by decide
  have h1c : Tryz.prog.cellsOf 35 = 1 := by kernel_rfl
  rcases open_slice1 Tryz.underlying100 h1c hf with ⟨hcs, _⟩ | ⟨a, l, c, m, n, V, D, Pl, hcs, _, hl, hm, hmm, hd, hi⟩
  · simp [Value.cells] at hcs
    obtain ⟨rfl, rfl, rfl⟩ := hcs
    exact ⟨[], none, 0, rfl, ⟨[], RS.nil W 1, rfl, fun i u x hu => by simp at hu⟩, by simp, fun f hf => by simp at hf⟩
  · simp [Value.cells] at hcs
    obtain ⟨rfl, rfl, rfl⟩ := hcs
    simp at hmm
    subst hmm
    simp only [Prod.mk.injEq] at hd
    obtain ⟨rfl, _⟩ := hd
    have hby : Tryz.prog.bytesOf 35 = 24 := by kernel_rfl
    have hby1 : Tryz.prog.bytesOf 5 = 1 := by kernel_rfl
    have hlen : len1 ≤ 140737488355328 := by
      have := hz ((((List.range len1).map D).length + ((List.range (m - len1)).map fun j => D (len1 + j)).length) * Tryz.prog.bytesOf 35) (by simp [DataW.weights, Tryz.underlying100])
      rw [hby] at this
      simp at this
      omega
    obtain ⟨os, h1, h2⟩ := gather2 (P := fun i (x : List UInt8) => W.cell? (a.add i) = some (V i) ∧ RD W (V i) x ∧ x.length ≤ 140737488355328) len1 (fun i hil => by
      obtain ⟨hc, ht⟩ := hi i (by omega)
      rcases open_ints Tryz.underlying35 Tryz.underlying5 (by kernel_rfl) ht with ⟨e, _⟩ | ⟨x, l', c', zs, e, _, hl', hm', hz', hx, hcell, hwz⟩
      · simp at e
        rw [e] at hc ⊢
        exact ⟨[], hc, RD.nil W, by simp⟩
      · simp at e
        rw [e] at hc ⊢
        simp only [if_true] at hz'
        obtain ⟨xs, hr⟩ := row_rd (w := W) (p := some x) (l := l') (c := c') (zs := zs) (.inr ⟨x, rfl, hl', hm', hz', hcell, hwz⟩)
        have hxl := hr.len
        refine ⟨xs, hc, hr, ?_⟩
        have hDi := (Prod.mk.inj hx).1
        have hw : ∀ k ∈ (D i).weights Tryz.prog 35, k ≤ 140737488355328 := fun k hk => by
          refine Nat.le_trans (hz k ?_) hrb
          simp only [DataW.weights, Tryz.underlying100, List.mem_cons, List.mem_append]
          right; left
          exact weights_all (List.mem_map.2 ⟨i, List.mem_range.2 hil, rfl⟩) k hk
        rw [hDi] at hw
        have := hw (((lits .u8 (zs.take l') : List (DataW H)).length + (lits .u8 (zs.drop l') : List (DataW H)).length) * Tryz.prog.bytesOf 5) (by simp [DataW.weights, Tryz.underlying35])
        rw [hby1] at this
        simp [lits] at this
        omega)
    subst h1
    refine ⟨os, _, _, rfl, ⟨(List.range os.length).map V, ⟨by simp, some a, _, rfl, hl, hm, (fun h => by cases h), fun ad hp i u hu => ?_⟩, by simp, fun i u x hu hx => ?_⟩, hlen, fun x hx => ?_⟩
    · cases hp
      have hil := (List.getElem?_eq_some_iff.1 hu).1
      simp at hil
      simp [hil] at hu
      rw [← hu]
      exact (h2 i os[i] (List.getElem?_eq_getElem hil)).1
    · have hil := (List.getElem?_eq_some_iff.1 hx).1
      simp [hil] at hu
      rw [← hu]
      exact (h2 i x hx).2.1
    · obtain ⟨i, hi', hi''⟩ := List.mem_iff_getElem.1 hx
      exact (h2 i x (by rw [List.getElem?_eq_getElem hi', hi''])).2.2

end Go.Proofs.YtilebfpaibajcaaGreatDoor
