/- MF: EncSmall, EncCount, EncChk in one. -/
import Derived.Test.YtilebfpaibajcaaGreatDoorMA
import Derived.Test.YtilebfpaibajcaaGreatDoorBlockPut
import Derived.Test.YtilebfpaibajcaaGreatDoorMD
import Derived.Test.YtilebfpaibajcaaGreatDoorME
import Derived.Lib.AppendStr
import Derived.Deep.Cut
/- What enchunk's Cost, Chunk and Last answer. -/
namespace Go.Proofs.YtilebfpaibajcaaGreatDoor
open Go.ChangeShapes Go.WideShapes Go.ChangeAt Go.RowKit
open Oc Fl Bk Bd
set_option linter.unusedVariables false
set_option maxRecDepth 100000

/-- The bytes that a chunk has beside its data. -/
def cst (n : Nat) : Nat := if n < 1 then 0 else (Hx.put n).length + 4
theorem cst_pos {n : Nat} (h : ¬ n < 1) : cst n = (Hx.put n).length + 4 := if_neg h
theorem ck_len (xs : List UInt8) : (ck [] xs).length = xs.length + cst xs.length := by
  unfold ck cst
  by_cases h : xs = []
  · simp [h]
  · have := List.length_pos_iff.2 h
    rw [if_neg h, if_neg (by omega)]
    simp
    omega

set_option maxHeartbeats 1000000 in
theorem cost_neg (n : Int) (h1 : n < 1) (w : World) :
    Calls Tryz.prog 151 #[.int .i64 n] w fun e w' => e = .returned (.int .i64 0) ∧ Below w.heap.size w w' := by
  go_enter Tryz.func151, Tryz.ntmps151
  go_wp2_with fail
  go_ret
  exact ⟨rfl, Below.refl _ _⟩
set_option maxHeartbeats 1000000 in
theorem cost_any (n : Nat) (h1 : n ≤ 9223372036854775807) (w : World) (hz : Tz w) :
    Calls Tryz.prog 151 #[.int .i64 (n : Int)] w fun e w' => e = .returned (.int .i64 (cst n : Int)) ∧ Below w.heap.size w w' := by
  by_cases hn : n < 1
  · obtain rfl : n = 0 := by omega
    exact cost_neg _ (by omega) w
  · have hw : IntKind.u64.wrap (n : Int) = (n : Int) := IntWalk.u64_in _ (by omega)
    have HP := Lib.hid (hput_any n (by omega) w hz)
    have hp := Hx.put_len16 n (by omega)
    have hs : (⟨(Hx.put n).toArray⟩ : ByteArray).size = (Hx.put n).length := arr_size _
    have hc := Lib.hid (cst_pos hn)
    have hn' : ¬ (n : Int) < 1 := by omega
    generalize (Hx.put n).length = m at *
    generalize (⟨(Hx.put n).toArray⟩ : ByteArray) = s at *
    clear hz
    go_enter Tryz.func151, Tryz.ntmps151
    go_wp2_with fail
    refine HP.out.mono ?_
    rintro e w' ⟨rfl, hb⟩
    have HB := Lib.hid hb
    clear hb
    go_wp2_with fail
    go_ret
    exact ⟨H8.ret_int (by have := hc.out; omega), HB.out⟩

/-- A text behind bytes of a row of the call's own. -/
theorem append_str (w : World) (ty : TypeId) (base : Nat) (v : Value) (xs : List UInt8) (s : ByteArray) (hown : w.ownsRow base 5 1 v xs.length (bv xs)) (hb : xs.length + s.size ≤ 140737488355328) (hbase : base ≤ w.heap.size) :
    ∃ v' w', (Builtin.append_ #[35, 9] ty #[v, .string s]).run Tryz.prog w = .ok v' w' ∧ w'.ownsRow base 5 1 v' (xs ++ s.data.toList).length (bv (xs ++ s.data.toList)) ∧ w.grownBy w' v.ownBlock := by
  obtain ⟨i0, hi, hz0, hz1, hz2⟩ := info_parts text_info
  obtain ⟨v', w', r0, r1, r2, _⟩ := Lib.run_append_own_string (P := Tryz.prog) w base 35 9 ty 5 i0 Tryz.underlying35 Tryz.underlying9 hi hz0 hz1 hz2 v _ _ hown s (by unfold maxLen; omega) (by omega) hbase
  refine ⟨v', w', r0, ?_, r2⟩
  have e1 : bv (xs ++ s.data.toList) = bv xs ++ Lib.strCells s := by simp [bv, Lib.strCells]
  rw [e1, List.length_append, blen]
  exact r1

set_option maxHeartbeats 4000000 in
theorem chunk10_any (xs : List UInt8) (p : Option Addr) (c : Nat) (w : World) (hx : RD w (.slice p xs.length c) xs) (hl : xs.length ≤ 1000000) (hz : Tz w) :
    Calls Tryz.prog 149 #[.slice p xs.length c] w fun e w' => ∃ v, e = .returned v ∧ Own10 w w' v (ck [] xs) := by
  by_cases h0 : xs.length = 0
  · obtain rfl : xs = [] := List.eq_nil_of_length_eq_zero h0
    have HQ := Lib.hid (Own10.nil w)
    clear hx hz hl h0
    go_enter Tryz.func149, Tryz.ntmps149
    go_wp2_with fail
    go_ret
    exact ⟨_, rfl, HQ.out⟩
  · have hne : xs ≠ [] := fun h => h0 (by rw [h]; rfl)
    have hp := Hx.put_len16 xs.length (by omega)
    have hcs := cst_pos (n := xs.length) (by omega)
    have HC := Lib.hid (cost_any xs.length (by omega) w hz)
    have HX := Lib.hid hx
    have HZ := Lib.hid hz
    have hw : IntKind.u64.wrap (xs.length : Int) = (xs.length : Int) := IntWalk.u64_in _ (by omega)
    have hz0 : ((xs.length : Int) == 0) = false := beq_eq_false_iff_ne.2 (by omega)
    have hck := Lib.hid (show ck [] xs = [] ++ (⟨(Hx.put xs.length).toArray⟩ : ByteArray).data.toList ++ (⟨#[13, 10]⟩ : ByteArray).data.toList ++ xs ++ (⟨#[13, 10]⟩ : ByteArray).data.toList by unfold ck; rw [if_neg hne]; simp)
    have hcl : cst xs.length ≤ 20 := by omega
    have hs : (⟨(Hx.put xs.length).toArray⟩ : ByteArray).size = (Hx.put xs.length).length := arr_size _
    have HN := Lib.hid hs
    clear hx hz hne h0 hcs hs
    obtain ⟨cs, hcn⟩ : ∃ cs, cst xs.length = cs := ⟨_, rfl⟩
    rw [hcn] at HC hcl
    clear hcn
    go_enter Tryz.func149, Tryz.ntmps149
    go_wp2_with fail
    refine HC.out.mono ?_
    rintro e w1 ⟨rfl, hb1⟩
    obtain ⟨i0, hi, hq0, hq1, hq2⟩ := info_parts byte_info
    have hsum : IntKind.i64.wrap ((xs.length : Int) + (cs : Int)) = ((xs.length + cs : Nat) : Int) := by rw [IntWalk.i64_in _ (by omega)]; omega
    obtain ⟨w2, hmk, hrow, hg⟩ := run_make_own (P := Tryz.prog) w1 w.heap.size 35 5 i0 _ 1 Tryz.underlying35 hi hq0 hq1 .i64 .i64 (xs.length + cs) (by rw [hq2]; omega) (by simp only [maxLen]; omega) hb1.size
    have hb2 : Below w.heap.size w w2 := hb1.grown hg hb1.size (fun k hk => by cases hk)
    have HP := Lib.hid (hput_any xs.length (by omega) w2 (HZ.out.below hb2))
    have HB2 := Lib.hid hb2
    have HR := Lib.hid hrow
    clear hi hq0 hq1 hq2 hrow hg hb1 hb2 HC HZ
    generalize xs.length + cs = cap at *
    go_wp2_with fail
    refine HP.out.mono ?_
    rintro e w3 ⟨rfl, hb3⟩
    have hb03 := ahead HB2.out hb3
    have o3 : w3.ownsRow w.heap.size 5 1 (.slice (some ⟨w1.heap.size, 0, none⟩) 0 cap) ([] : List UInt8).length (bv []) := own_same HR.out fun k hk => hb3.block k (HR.out.lt k hk).2
    obtain ⟨v4, w4, r4, o4, g4⟩ := append_str w3 35 _ _ [] ⟨(Hx.put xs.length).toArray⟩ o3 (by rw [HN.out]; simp; omega) hb03.size
    have b4 : Below w.heap.size w w4 := hb03.grown g4 hb03.size (fun k hk => (o3.lt k hk).1)
    obtain ⟨v5, w5, r5, o5, g5⟩ := append_str w4 35 _ _ _ ⟨#[13, 10]⟩ o4 (by rw [show (⟨#[13, 10]⟩ : ByteArray).size = 2 from rfl]; simp; omega) b4.size
    have b5 : Below w.heap.size w w5 := b4.grown g5 b4.size (fun k hk => (o4.lt k hk).1)
    obtain ⟨v6, w6, r6, o6, g6⟩ := run_append_rd w5 35 _ _ _ _ _ xs o5 (HX.out.below b5) (by simp; omega) b5.size
    have b6 : Below w.heap.size w w6 := b5.grown g6 b5.size (fun k hk => (o5.lt k hk).1)
    obtain ⟨v7, w7, r7, o7, g7⟩ := append_str w6 35 _ _ _ ⟨#[13, 10]⟩ o6 (by rw [show (⟨#[13, 10]⟩ : ByteArray).size = 2 from rfl]; simp; omega) b6.size
    have b7 : Below w.heap.size w w7 := b6.grown g7 b6.size (fun k hk => (o6.lt k hk).1)
    have HQ := Lib.hid (Own10.of_row o7 b7)
    rw [← hck.out] at HQ
    have R4 := Lib.hid r4
    have R5 := Lib.hid r5
    have R6 := Lib.hid r6
    have R7 := Lib.hid r7
    clear hb3 hb03 o3 r4 o4 g4 b4 r5 o5 g5 b5 r6 o6 g6 b6 r7 o7 g7 b7 hmk hsum HP
    go_upto_region 5 with (at_builtin; refine wpList_append_text rfl (.tmp 14) (.tmp 18) 35 9 rfl _ _ _ _ rfl rfl R4.out ?_)
    clear R4
    go_upto_region 6 with (at_builtin; refine wpList_append_text rfl (.tmp 20) (.const (.string ⟨#[13, 10]⟩)) 35 9 rfl _ _ _ _ rfl rfl R5.out ?_)
    clear R5
    go_upto_region 7 with (at_builtin; refine wpList_append_run rfl (.tmp 22) (.tmp 23) 35 rfl _ _ _ _ rfl rfl R6.out ?_)
    clear R6
    go_wp2_with (at_builtin; refine wpList_append_text rfl (.tmp 25) (.const (.string ⟨#[13, 10]⟩)) 35 9 rfl _ _ _ _ rfl rfl R7.out ?_)
    go_ret
    exact ⟨_, rfl, HQ.out⟩

/-- The last bytes with some fields. -/
def lastB (l : List Fld) : List UInt8 := if rights l = true then [48, 13, 10] ++ sec l else []
theorem lastB_yes {l : List Fld} (h : rights l = true) : lastB l = [48, 13, 10] ++ sec l := if_pos h
theorem lastB_no {l : List Fld} (h : rights l = false) : lastB l = [] := if_neg (by rw [h]; decide)
theorem sec_len10 (l : List Fld) (h : bulk l ≤ 2000) : (sec l).length ≤ 8002 := by
  have := body_len l
  unfold sec
  simp
  omega

set_option maxHeartbeats 2000000 in
theorem last_any (l : List Fld) (p : Option Addr) (c : Nat) (w : World) (hF : FS w (.slice p l.length c) l) (hl : bulk l ≤ 2000) (hsp : Spans w) :
    Calls Tryz.prog 148 #[.slice p l.length c] w fun e w' => ∃ v, e = .returned (.tuple #[v, .int .i64 (putE l)]) ∧ Own10 w w' v (lastB l) := by
  have HP := Lib.hid (put6_any l p c w hF hl hsp)
  clear hF hsp
  cases hr : rights l with
  | false =>
    rw [putE_no hr, putB_no hr] at HP
    rw [putE_no hr, lastB_no hr]
    clear hr
    go_enter Tryz.func148, Tryz.ntmps148
    go_wp2_with fail
    refine HP.out.mono ?_
    rintro e w1 ⟨rfl, hb1⟩
    have HQ := Lib.hid ((Own10.nil w1).after hb1)
    clear hb1 HP
    go_wp2_with fail
    go_ret2
    exact ⟨_, rfl, HQ.out⟩
  | true =>
    rw [putE_yes hr, putB_yes hr] at HP
    rw [putE_yes hr, lastB_yes hr]
    have hsl := sec_len10 l hl
    have hss := arr_size (sec l)
    have HA := Lib.hid (show (⟨#[48, 13, 10]⟩ : ByteArray) ++ arr (sec l) = arr ([48, 13, 10] ++ sec l) by rw [← arr_app]; rfl)
    clear hr
    go_enter Tryz.func148, Tryz.ntmps148
    go_wp2_with fail
    refine HP.out.mono ?_
    rintro e w1 ⟨rfl, hb1⟩
    obtain ⟨cp, w2, hcv, hrd, hbf⟩ := bytes_rd w1 ([48, 13, 10] ++ sec l) (by simp; omega)
    rw [← HA.out] at hcv
    have HQ := Lib.hid (show Own10 w w2 _ _ from ⟨hrd, ahead hb1 hbf, fun g hg => by simp [Value.ownBlock] at hg; subst hg; exact ⟨hb1.size, (hrd.lt (by simp)).elim fun k hk => by have := hk.1; simp [Value.ownBlock] at this; omega⟩⟩)
    generalize arr (sec l) = sb at *
    have hsb : sb.size ≤ 9000 := by omega
    clear hb1 hrd hbf HP hsl hss
    generalize ([48, 13, 10] ++ sec l).length = nb at *
    go_wp2_with fail
    go_ret2
    exact ⟨_, rfl, HQ.out⟩

end Go.Proofs.YtilebfpaibajcaaGreatDoor

/- An encoder's counter. -/
namespace Go.Proofs.YtilebfpaibajcaaGreatDoor
open Go.ChangeShapes Go.WideShapes Go.ChangeAt Go.RowKit
open Oc Fl Bk Bd
set_option linter.unusedVariables false
set_option maxRecDepth 100000

set_option maxHeartbeats 1000000 in
theorem add_any (K n d c : Nat) (p : Option Addr) (cs : Array Value) (ty : TypeId) (w : World) (hK : w.heap[K]? = some (.cells cs ty (0, 0))) (hc : cs[0]? = some (.int .i64 (d : Int))) (hb : d + n ≤ 9223372036854775807) :
    Calls Tryz.prog 141 #[.pointer (some ⟨K, 0, none⟩), .slice p n c] w fun e w' => e = .returned (.tuple #[]) ∧ w' = w.setCell ⟨K, 0, none⟩ (.int .i64 ((d + n : Nat) : Int)) := by
  have c0 : w.cell? ⟨K, 0, none⟩ = some (.int .i64 (d : Int)) := by simp [World.cell?, hK, hc]
  have f0 : w.frozen? ⟨K, 0, none⟩ = false := by simp [World.frozen?, hK]
  have hw : IntKind.i64.wrap ((d : Int) + (n : Int)) = ((d + n : Nat) : Int) := by rw [IntWalk.i64_in _ (by omega)]; omega
  clear hK hc
  generalize d + n = s at *
  go_enter Tryz.func141, Tryz.ntmps141
  go_wp2_with fail
  go_end0
  exact ⟨rfl, rfl⟩
set_option maxHeartbeats 1000000 in
theorem given10_any (K d : Nat) (cs : Array Value) (ty : TypeId) (w : World) (hK : w.heap[K]? = some (.cells cs ty (0, 0))) (hc : cs[0]? = some (.int .i64 (d : Int))) :
    Calls Tryz.prog 137 #[.pointer (some ⟨K, 0, none⟩)] w fun e w' => e = .returned (.int .i64 (d : Int)) ∧ w = w' := by
  have c0 : w.cell? ⟨K, 0, none⟩ = some (.int .i64 (d : Int)) := by simp [World.cell?, hK, hc]
  clear hK hc
  go_enter Tryz.func137, Tryz.ntmps137
  go_wp2_with fail
  go_ret
  exact ⟨rfl, rfl⟩

/-- The law's count of pieces: each one's bytes and one more. -/
def tot10 (L : List (List UInt8)) : Nat := L.flatten.length + L.length
theorem tot10_snoc {L : List (List UInt8)} {k : Nat} {x : List UInt8} (h : L[k]? = some x) : tot10 (L.take (k + 1)) = tot10 (L.take k) + x.length + 1 := by
  unfold tot10
  rw [flat_snoc h]
  have := (List.getElem?_eq_some_iff.1 h).1
  simp
  omega
theorem tot10_zero (L : List (List UInt8)) : tot10 (L.take 0) = 0 := by simp [tot10]
theorem tot10_mem {L : List (List UInt8)} {x : List UInt8} (h : x ∈ L) : x.length ≤ tot10 L := by have := flat_mem h; unfold tot10; omega

end Go.Proofs.YtilebfpaibajcaaGreatDoor

/- A chunked encoder: made, given data, ended. -/
namespace Go.Proofs.YtilebfpaibajcaaGreatDoor
open Go.ChangeShapes Go.WideShapes Go.ChangeAt Go.RowKit
open Oc Fl Bk Bd
set_option linter.unusedVariables false
set_option maxRecDepth 100000

/-- An open chunked encoder lies at the block R, what it counts at the block K. -/
structure ChkAt (R K d : Nat) (W : World) : Prop where
  enc : W.heap[R]? = some (.cells #[.iface 92 (.pointer (some ⟨K, 0, none⟩)), .bool false] 73 (0, 0))
  knd : W.heap[K]? = some (.cells #[.int .i64 (d : Int)] 94 (0, 0))
  ne : R ≠ K
theorem ChkAt.ltK {R K d : Nat} {W : World} (h : ChkAt R K d W) : K < W.heap.size := (Array.getElem?_eq_some_iff.1 h.knd).1
theorem ChkAt.ltR {R K d : Nat} {W : World} (h : ChkAt R K d W) : R < W.heap.size := (Array.getElem?_eq_some_iff.1 h.enc).1
theorem ChkAt.keep {R K d : Nat} {W W' : World} (h : ChkAt R K d W) (h1 : W'.heap[R]? = W.heap[R]?) (h2 : W'.heap[K]? = W.heap[K]?) : ChkAt R K d W' := ⟨h1.trans h.enc, h2.trans h.knd, h.ne⟩
theorem ChkAt.below {R K d : Nat} {W W' : World} (h : ChkAt R K d W) (hb : Below W.heap.size W W') : ChkAt R K d W' := h.keep (hb.block R h.ltR) (hb.block K h.ltK)
theorem ChkAt.set {R K d : Nat} (e : Nat) {W : World} (h : ChkAt R K d W) : ChkAt R K e (W.setCell ⟨K, 0, none⟩ (.int .i64 (e : Int))) :=
  ⟨(Below.heap_setCell _ _ _ _ h.ne).trans h.enc, heap_set _ h.knd, h.ne⟩

/-- What Put leaves. -/
structure ChkQ (R K d : Nat) (w w' : World) (v : Value) (ys : List UInt8) : Prop where
  at_ : ChkAt R K d w'
  rd : RD w' v ys
  sol : Sol10 K w w'
  own : ∀ g, v.ownBlock = some g → w.heap.size ≤ g ∧ g < w'.heap.size

set_option maxHeartbeats 2000000 in
theorem cput_any (R K d : Nat) (xs : List UInt8) (p : Option Addr) (c : Nat) (w : World) (h : ChkAt R K d w) (hx : RD w (.slice p xs.length c) xs) (hp : xs ≠ [] → ∀ g, (Value.slice p xs.length c).ownBlock = some g → g ≠ K) (hl : xs.length ≤ 100000) (hd : d ≤ 4611686018427387903) (hz : Tz w) (hg : 7 ≠ K) :
    Calls Tryz.prog 147 #[.pointer (some ⟨K, 0, none⟩), .slice p xs.length c] w fun e w' => ∃ v, e = .returned (.tuple #[v, .int .i64 0]) ∧ ChkQ R K (d + xs.length) w w' v (ck [] xs) := by
  have HD := Lib.hid (add_any K xs.length d c p _ _ w h.knd rfl (by omega))
  have x2 : RD (w.setCell ⟨K, 0, none⟩ (.int .i64 ((d + xs.length : Nat) : Int))) (.slice p xs.length c) xs := hx.keep fun hne k hk => Below.heap_setCell _ _ _ _ (hp hne k hk)
  have hz2 : Tz (w.setCell ⟨K, 0, none⟩ (.int .i64 ((d + xs.length : Nat) : Int))) := by
    unfold Tz at hz ⊢
    rw [World.cell?_of_block (Below.heap_setCell _ _ _ _ hg)]
    exact hz
  have HC := Lib.hid (chunk10_any xs p c _ x2 (by omega) hz2)
  have H2 := Lib.hid (h.set (d + xs.length))
  have S2 := Lib.hid (Sol10.set K 0 (.int .i64 ((d + xs.length : Nat) : Int)) w)
  clear h hx hp x2 hz hz2
  go_enter Tryz.func147, Tryz.ntmps147
  go_wp2_with fail
  refine HD.out.mono ?_
  rintro e w2 ⟨rfl, rfl⟩
  go_wp2_with fail
  refine HC.out.mono ?_
  rintro e w3 ⟨v, rfl, hO⟩
  have HQ := Lib.hid (show ChkQ R K (d + xs.length) w w3 v (ck [] xs) from ⟨H2.out.below hO.below, hO.rd, S2.out.trans (Sol10.of_below hO.below), fun g hg => by have := hO.own g hg; simpa [World.setCell] using this⟩)
  clear hO HD HC
  go_wp2_with fail
  go_ret2
  exact ⟨_, rfl, HQ.out⟩

set_option maxHeartbeats 2000000 in
theorem chkPut_any (R K d : Nat) (xs : List UInt8) (p : Option Addr) (c : Nat) (w : World) (h : ChkAt R K d w) (hx : RD w (.slice p xs.length c) xs) (hp : xs ≠ [] → ∀ g, (Value.slice p xs.length c).ownBlock = some g → g ≠ K) (hl : xs.length ≤ 100000) (hd : d ≤ 4611686018427387903) (hz : Tz w) (hg : 7 ≠ K) :
    Calls Tryz.prog 32 #[.pointer (some ⟨R, 0, none⟩), .slice p xs.length c] w fun e w' => ∃ v, e = .returned (.tuple #[v, .int .i64 0]) ∧ ChkQ R K (d + xs.length) w w' v (ck [] xs) := by
  have HP := Lib.hid (cput_any R K d xs p c w h hx hp hl hd hz hg)
  have hR := h.enc
  have c0 : w.cell? ⟨R, 0, none⟩ = some (.iface 92 (.pointer (some ⟨K, 0, none⟩))) := by simp [World.cell?, hR]
  have c1 : w.cell? ⟨R, 1, none⟩ = some (.bool false) := by simp [World.cell?, hR]
  clear h hx hp hR hz
  go_enter Tryz.func32, Tryz.ntmps32
  go_wp2_with fail
  refine HP.out.mono ?_
  rintro e w3 ⟨v, rfl, hQ⟩
  go_wp2_with fail
  go_ret2
  exact ⟨_, rfl, hQ⟩

set_option maxHeartbeats 1000000 in
theorem cend_any (K : Nat) (l : List Fld) (p : Option Addr) (c : Nat) (w : World) (hF : FS w (.slice p l.length c) l) (hl : bulk l ≤ 2000) (hsp : Spans w) :
    Calls Tryz.prog 145 #[.pointer (some ⟨K, 0, none⟩), .slice p l.length c] w fun e w' => ∃ v, e = .returned (.tuple #[v, .int .i64 (putE l)]) ∧ Own10 w w' v (lastB l) := by
  have HL := Lib.hid (last_any l p c w hF hl hsp)
  clear hF hsp
  generalize putE l = pe at *
  go_enter Tryz.func145, Tryz.ntmps145
  go_wp2_with fail
  refine HL.out.mono ?_
  rintro e w1 ⟨v, rfl, hO⟩
  have HO := Lib.hid hO
  clear hO
  go_wp2_with fail
  go_ret2
  exact ⟨_, rfl, HO.out⟩

/-- What End leaves: bytes in memory of its own; of what lay before only the encoder's block is written. -/
structure EndQ10 (R : Nat) (w w' : World) (v : Value) (ys : List UInt8) : Prop where
  rd : RD w' v ys
  sol : Sol10 R w w'
  own : ∀ g, v.ownBlock = some g → w.heap.size ≤ g ∧ g < w'.heap.size

set_option maxHeartbeats 2000000 in
theorem chkEnd_any (R K d : Nat) (l : List Fld) (p : Option Addr) (c : Nat) (w : World) (h : ChkAt R K d w) (hF : FS w (.slice p l.length c) l) (hl : bulk l ≤ 2000) (hsp : Spans w) :
    Calls Tryz.prog 25 #[.pointer (some ⟨R, 0, none⟩), .slice p l.length c] w fun e w' => ∃ v, e = .returned (.tuple #[v, .int .i64 (putE l)]) ∧ EndQ10 R w w' v (lastB l) := by
  have HP := Lib.hid (cend_any K l p c w hF hl hsp)
  have hR := h.enc
  have hlt := h.ltR
  have c0 : w.cell? ⟨R, 0, none⟩ = some (.iface 92 (.pointer (some ⟨K, 0, none⟩))) := by simp [World.cell?, hR]
  have c1 : w.cell? ⟨R, 1, none⟩ = some (.bool false) := by simp [World.cell?, hR]
  have HR := Lib.hid hR
  have HLT := Lib.hid hlt
  clear h hR hF hsp hlt
  have key : ∀ w1 v, Own10 w w1 v (lastB l) → ∀ x, EndQ10 R w (w1.setCell ⟨R, 1, none⟩ x) v (lastB l) := fun w1 v hO x =>
    ⟨hO.rd.kept fun k hk => Below.heap_setCell _ _ _ _ (by have h1 := (hO.own k hk).1; have h2 := HLT.out; show k ≠ R; omega), (Sol10.of_below hO.below).trans (Sol10.set R 1 x w1), fun g hg => by have := hO.own g hg; simpa [World.setCell] using this⟩
  have HK := Lib.hid key
  have g2 : ∀ w1 : World, Below w.heap.size w w1 → w1.cell? ⟨R, 1, none⟩ = some (.bool false) ∧ w1.frozen? ⟨R, 1, none⟩ = false := fun w1 hb => by
    have := (hb.block R HLT.out).trans HR.out
    simp [World.cell?, World.frozen?, this]
  have HG := Lib.hid g2
  clear key g2
  have he : putE l = 1 ∨ putE l = 0 := by unfold putE; split <;> simp
  rcases he with he | he
  · rw [he] at HP ⊢
    clear he
    go_enter Tryz.func25, Tryz.ntmps25
    go_wp2_with fail
    refine HP.out.mono ?_
    rintro e w1 ⟨v, rfl, hO⟩
    obtain ⟨q0, q1⟩ := HG.out w1 hO.below
    have HQ := Lib.hid (HK.out w1 v hO)
    clear hO HP
    go_wp2_with fail
    go_ret2
    exact ⟨_, rfl, HQ.out _⟩
  · rw [he] at HP ⊢
    clear he
    go_enter Tryz.func25, Tryz.ntmps25
    go_wp2_with fail
    refine HP.out.mono ?_
    rintro e w1 ⟨v, rfl, hO⟩
    obtain ⟨q0, q1⟩ := HG.out w1 hO.below
    have HQ := Lib.hid (HK.out w1 v hO)
    clear hO HP
    go_wp2_with fail
    go_ret2
    exact ⟨_, rfl, HQ.out _⟩

set_option maxHeartbeats 1000000 in
theorem chkNew_any (w : World) :
    Calls Tryz.prog 24 #[.agg #[.int .i64 2, .int .u64 0]] w fun e w' => ∃ R K, e = .returned (.tuple #[.pointer (some ⟨R, 0, none⟩), .int .i64 0]) ∧ ChkAt R K 0 w' ∧ Below w.heap.size w w' ∧ w.heap.size ≤ R ∧ w.heap.size ≤ K := by
  obtain ⟨w1, hw1⟩ : ∃ w1, w.alloc (.cells #[.int .i64 2, .int .u64 0] 24) = w1 := ⟨_, rfl⟩
  obtain ⟨w2, hw2⟩ : ∃ w2, w1.alloc (.cells #[.int .i64 0] 94) = w2 := ⟨_, rfl⟩
  obtain ⟨w3, hw3⟩ : ∃ w3, w2.alloc (.cells #[.iface 92 (.pointer (some ⟨w1.heap.size, 0, none⟩)), .bool false] 73) = w3 := ⟨_, rfl⟩
  have b1 : Below w.heap.size w w1 := by rw [← hw1]; exact below_box _ _
  have b2 : Below w1.heap.size w1 w2 := by rw [← hw2]; exact below_box _ _
  have b3 : Below w2.heap.size w2 w3 := by rw [← hw3]; exact below_box _ _
  have z1 : w1.heap.size = w.heap.size + 1 := by rw [← hw1]; simp
  have z2 : w2.heap.size = w1.heap.size + 1 := by rw [← hw2]; simp
  have hQ : ChkAt w2.heap.size w1.heap.size 0 w3 ∧ Below w.heap.size w w3 ∧ w.heap.size ≤ w2.heap.size ∧ w.heap.size ≤ w1.heap.size := by
    refine ⟨⟨?_, ?_, by omega⟩, ahead (ahead b1 b2) b3, by omega, by omega⟩
    · rw [← hw3]; exact World.alloc_heap_new w2 _
    · rw [b3.block _ (by omega), ← hw2]; exact World.alloc_heap_new w1 _
  rw [z2, z1] at hQ
  rw [z1] at hw3
  rw [← hw3, ← hw2, ← hw1] at hQ
  have HQ := Lib.hid hQ
  clear b1 b2 b3 z1 z2 hQ hw1 hw2 hw3
  go_enter Tryz.func24, Tryz.ntmps24
  go_wp2_with fail
  go_ret2
  exact ⟨w.heap.size + 1 + 1, w.heap.size + 1, rfl, HQ.out⟩

end Go.Proofs.YtilebfpaibajcaaGreatDoor
