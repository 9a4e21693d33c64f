/- The law ListAgain. -/
import Derived.Test.YtjdbgdlkbdpojaaDoorListLaws
namespace Go.Proofs.YtjdbgdlkbdpojaaDoor
open Go.ChangeShapes Go.WideShapes Go.ChangeAt Go.RowKit
open Oc Fl Ls
set_option linter.unusedVariables false

/-- A text of digits alone. -/
theorem dg_pos {l : List UInt8} (h : l.all dgb = true) : ¬ pos 44 l < l.length := fun hp => by
  have h1 := pos_at hp
  have h2 := List.all_eq_true.1 h 44 (List.mem_of_getElem? h1)
  exact absurd h2 (by decide)
theorem dg_blk {b : UInt8} (h : dgb b = true) : blk b = false := by
  have key : ∀ k : Fin 256, dgb (UInt8.ofNat k.val) = true → blk (UInt8.ofNat k.val) = false := by decide +kernel
  have h' := key ⟨b.toNat, b.toNat_lt⟩
  simp at h'
  exact h' h
theorem dg_trimL {l : List UInt8} (h : l.all dgb = true) : trimL l = l := by
  cases l with
  | nil => rfl
  | cons x l =>
    rw [trimL_cons, if_neg]
    rw [dg_blk (List.all_eq_true.1 h x List.mem_cons_self)]; simp
theorem dg_trimR {l : List UInt8} (h : l.all dgb = true) : trimR l = l := by
  unfold trimR
  cases hr : l.reverse with
  | nil => simp at hr; simp [hr]
  | cons x m =>
    have hx : x ∈ l := by rw [← List.mem_reverse, hr]; exact List.mem_cons_self
    rw [List.dropWhile_cons, dg_blk (List.all_eq_true.1 h x hx)]
    simp only [Bool.false_eq_true, if_false]
    rw [← hr, List.reverse_reverse]
theorem dg_trim {l : List UInt8} (h : l.all dgb = true) : trim l = l := by rw [← trim_turn, dg_trimL h, dg_trimR h]
theorem dg_trim1 {l : List UInt8} (h : l.all dgb = true) : trim (32 :: l) = l := by
  rw [← trim_turn, trimL_cons, if_pos (by decide), dg_trimL h, dg_trimR h]
theorem dg_itm {l : List UInt8} (h : l.all dgb = true) (h0 : l ≠ []) : itm l = [l] := by rw [itm_none (dg_pos h), dg_trim h, if_neg h0]
theorem dg_itm1 {l : List UInt8} (h : l.all dgb = true) (h0 : l ≠ []) : itm (32 :: l) = [l] := by
  have hp : ¬ pos 44 (32 :: l) < (32 :: l).length := by
    rw [pos_cons, if_neg (by decide), List.length_cons]
    have := dg_pos h
    omega
  rw [itm_none hp, dg_trim1 h, if_neg h0]

/-- All its items are that text. -/
def Sole (s v : ByteArray) : Prop := itmB v ≠ [] ∧ ∀ t ∈ itmB v, t = s
theorem sole_self {s : ByteArray} (h : s.data.toList.all dgb = true) (h0 : s.data.toList ≠ []) : Sole s s := by
  have e : itmB s = [s] := by unfold itmB; rw [dg_itm h h0]; simp [arr_of]
  exact ⟨by rw [e]; simp, fun t ht => by rw [e] at ht; simpa using ht⟩
/-- With a comma and a blank between. -/
def more1 (v s : ByteArray) : ByteArray := v ++ (⟨#[44, 32]⟩ ++ s)
theorem more1_list (v s : ByteArray) : (more1 v s).data.toList = v.data.toList ++ 44 :: (32 :: s.data.toList) := by simp [more1]
theorem more1_size (v s : ByteArray) : (more1 v s).size = v.size + s.size + 2 := by rw [← blen', more1_list, List.length_append, List.length_cons, List.length_cons, blen', blen']; omega
theorem sole_more {s v : ByteArray} (h : s.data.toList.all dgb = true) (h0 : s.data.toList ≠ []) (hv : Sole s v) : Sole s (more1 v s) := by
  have e : itmB (more1 v s) = itmB v ++ [s] := by unfold itmB; rw [more1_list, itm_app, dg_itm1 h h0]; simp [arr_of]
  refine ⟨by rw [e]; simp, fun t ht => ?_⟩
  rw [e] at ht
  rcases List.mem_append.1 ht with ht | ht
  · exact hv.2 t ht
  · simpa using ht
/-- Where all of them say one number. -/
def one (x : Nat × Nat) : Sr := ⟨x.2 == 3, true, x.1, true⟩
theorem one_next (x : Nat × Nat) : nextR (one x) x = one x := by simp [nextR, one]
theorem start_next (x : Nat × Nat) : nextR ⟨false, true, 0, false⟩ x = one x := by simp [nextR, one]
theorem sole_goI {s : ByteArray} (hx : (num s.data.toList).2 ≠ 2) : ∀ (l : List ByteArray), (∀ t ∈ l, t = s) → goIR (one (num s.data.toList)) l = some (one (num s.data.toList))
  | [], _ => rfl
  | t :: l, h => by
    obtain rfl := h t List.mem_cons_self
    rw [goIR_cons, if_neg hx, one_next]
    exact sole_goI hx l fun t ht => h t (List.mem_cons_of_mem _ ht)
theorem sole_goV {s : ByteArray} (hx : (num s.data.toList).2 ≠ 2) : ∀ (vs : List ByteArray), (∀ v ∈ vs, Sole s v) → goVR (one (num s.data.toList)) vs = some (one (num s.data.toList))
  | [], _ => rfl
  | v :: vs, h => by
    obtain ⟨h1, h2⟩ := h v List.mem_cons_self
    rw [goVR_cons, if_neg h1, sole_goI hx _ h2]
    exact sole_goV hx vs fun v hv => h v (List.mem_cons_of_mem _ hv)
theorem sole_length {s : ByteArray} (hx : (num s.data.toList).2 ≠ 2) {vs : List ByteArray} (h0 : vs ≠ []) (h : ∀ v ∈ vs, Sole s v) : Ls.length vs = finR (some (one (num s.data.toList))) := by
  rw [length_ref h0]
  cases vs with
  | nil => exact absurd rfl h0
  | cons v vs =>
    obtain ⟨h1, h2⟩ := h v List.mem_cons_self
    rw [goVR_cons, if_neg h1]
    cases hv : itmB v with
    | nil => exact absurd hv h1
    | cons t l =>
      rw [hv] at h2
      obtain rfl := h2 t List.mem_cons_self
      rw [goIR_cons, if_neg hx, start_next, sole_goI hx l fun t ht => h2 t (List.mem_cons_of_mem _ ht)]
      exact congrArg finR (sole_goV hx vs fun v hv => h v (List.mem_cons_of_mem _ hv))

/-- A number's digits, from behind. -/
def Dec (n x : Nat) (l : List UInt8) : Prop := n = x * 10 ^ l.length + val l ∧ l.all dgb = true ∧ l.length ≤ 20
def dgt (x : Nat) : UInt8 := UInt8.ofNat (48 + x % 10)
theorem dgt_nat (x : Nat) : (dgt x).toNat = 48 + x % 10 := by unfold dgt; rw [UInt8.toNat_ofNat']; omega
theorem valF_cons (n : Nat) (b : UInt8) (l : List UInt8) : valF n (b :: l) = valF (n * 10 + (b.toNat - 48)) l := by unfold valF; rw [List.foldl_cons]
theorem valF_add (n : Nat) (l : List UInt8) : valF n l = n * 10 ^ l.length + val l := by
  induction l generalizing n with
  | nil => simp [valF, val]
  | cons b l ih =>
    have e : val (b :: l) = valF (b.toNat - 48) l := by unfold val; rw [valF_cons]; simp
    rw [valF_cons, ih, e, ih (b.toNat - 48), List.length_cons, Nat.pow_succ, Nat.add_mul, Nat.mul_assoc, Nat.mul_comm 10, Nat.add_assoc]
theorem dec_val (x : Nat) (l : List UInt8) : val (dgt x :: l) = (x % 10) * 10 ^ l.length + val l := by
  have h : val (dgt x :: l) = valF (0 * 10 + ((dgt x).toNat - 48)) l := by unfold val; rw [valF_cons]
  rw [h, valF_add, dgt_nat, show 0 * 10 + (48 + x % 10 - 48) = x % 10 by omega]
theorem dec_sum (x p v : Nat) : x / 10 * (p * 10) + (x % 10 * p + v) = x * p + v := by
  rw [← Nat.add_assoc, Nat.mul_comm p 10, ← Nat.mul_assoc, ← Nat.add_mul, Nat.mul_comm (x / 10) 10, Nat.div_add_mod]
theorem dec_len {x n p k : Nat} (hp : p = 10 ^ k) (hx : 0 < x) (h : x * p ≤ n) (hn : n ≤ 18446744073709551615) : k < 20 := by
  refine Nat.lt_of_not_le fun hc => ?_
  have p1 : 10 ^ 20 ≤ 10 ^ k := Nat.pow_le_pow_right (by decide) hc
  rw [← hp] at p1
  have p2 : 1 * p ≤ x * p := Nat.mul_le_mul_right _ hx
  have p3 : (10 : Nat) ^ 20 = 100000000000000000000 := by decide
  rw [p3] at p1
  omega
theorem dec_next {n x : Nat} {l : List UInt8} (h : Dec n x l) (hn : n ≤ 18446744073709551615) (hx : 0 < x ∨ l = []) : Dec n (x / 10) (dgt x :: l) := by
  obtain ⟨h1, h2, h3⟩ := h
  refine ⟨?_, ?_, ?_⟩
  · rw [dec_val, List.length_cons, Nat.pow_succ, dec_sum]
    exact h1
  · rw [List.all_cons, h2, Bool.and_true]
    unfold dgb
    rw [dgt_nat]
    exact decide_eq_true (by omega)
  · rw [List.length_cons]
    rcases hx with hx | hx
    · exact dec_len rfl hx (by rw [h1]; exact Nat.le_add_right _ _) hn
    · rw [hx]; exact Nat.le_of_ble_eq_true rfl
theorem dec_num {n : Nat} {l : List UInt8} (h : Dec n 0 l) (h0 : l ≠ []) : num l = if n > top then (0, 3) else (n, 0) := by
  obtain ⟨h1, h2, h3⟩ := h
  have hv : val l = n := by omega
  by_cases hb : n > top
  · rw [if_pos hb, num_big h0 h2 (by omega)]
  · rw [if_neg hb, num_ok h0 h2 (by omega), hv]

theorem conv_one (b : UInt8) (g : Nat) (wx : World) (h : wx.cell? ⟨g, 0, none⟩ = some (.int .u8 (b.toNat : Int))) :
    (convert 44 9 (.slice (some ⟨g, 0, none⟩) 1 1)).run Tryd.prog wx = .ok (.string ⟨#[b]⟩) wx :=
  run_convert_bytes_back (P := Tryd.prog) wx 44 9 5 ⟨g, 0, none⟩ 1 [b] Tryd.underlying44 Tryd.underlying5 Tryd.underlying9 (fun j hj => by
    obtain rfl : j = 0 := by simpa using hj
    exact h)
theorem again_last {n : Nat} {s : ByteArray} (h : Dec n 0 s.data.toList) (h0 : s.data.toList ≠ []) {vs : List ByteArray} (hv0 : vs ≠ []) (hv : ∀ v ∈ vs, Sole s v) : Ls.length vs = if n > top then (0, 3) else (n, 0) := by
  have hn := dec_num h h0
  have hx : (num s.data.toList).2 ≠ 2 := by rw [hn]; split <;> simp
  rw [sole_length hx hv0 hv, hn]
  split <;> simp [finR, one]
theorem rep_sole {s : ByteArray} (h : Sole s s) (k : Nat) {al : ByteArray} (ha : Sole s al) : ∀ v ∈ List.replicate k s ++ [al], Sole s v := fun v hv => by
  rcases List.mem_append.1 hv with hv | hv
  · rw [(List.mem_replicate.1 hv).2]; exact h
  · rw [List.mem_singleton.1 hv]; exact ha
theorem rep_bulk (s : ByteArray) (k : Nat) : Ls.bulk (List.replicate k s) = k * (s.size + 1) := by
  induction k with
  | zero => simp [Ls.bulk]
  | succ k ih => rw [List.replicate_succ, bulk_cons, ih, Nat.succ_mul]; omega

set_option maxRecDepth 100000 in
set_option maxHeartbeats 8000000 in
theorem again7_walk (n : Nat) (hn : n ≤ 18446744073709551615) (tm : Nat) (ht : tm ≤ 255) (w : World) (hsp : Spans w) :
    Calls Tryd.prog 7 #[.int .u64 (n : Int), .int .u8 (tm : Int)] w fun e w' => e = .returned (.bool true) ∧ Below w.heap.size w w' := by
  have hW := Lib.hid (wakes7 w hsp)
  clear hsp
  go_enter Tryd.func7, Tryd.ntmps7
  go_wp2_with fail
  refine hW.out.mono ?_
  rintro e w1 ⟨rfl, hb1⟩
  have B1 := Lib.hid hb1
  clear hb1 hW
  go_wp2_with fail
  go_loopw [5, 6] (fun s x wr => ∃ (t : ByteArray) (m : Nat), s = .string t ∧ x = .int .u64 (m : Nat) ∧ m ≤ 18446744073709551615 ∧ t.size ≤ 20 ∧ Hid (Dec n m t.data.toList) ∧ Hid (Below w.heap.size w wr)) (fun s x _ => 2 * (intOf x).toNat + if lenOf s = 0 then 1 else 0)
  case atStart => exact ⟨⟨#[]⟩, n, rfl, rfl, hn, by decide, Lib.hid ⟨by simp [val, valF], rfl, by decide⟩, B1⟩
  case round =>
    obtain ⟨t, m, rfl, rfl, hm, htz, HD, HB⟩ := hrel
    by_cases hgo : 0 < m ∨ t.size = 0
    · have HD2 : Hid (Dec n (m / 10) (dgt m :: t.data.toList)) := Lib.hid (dec_next HD.out hn (hgo.imp id fun h => List.eq_nil_of_length_eq_zero (by rw [blen']; exact h)))
      have h20 := HD2.out.2.2
      rw [List.length_cons, blen'] at h20
      have hdg := dgt_nat m
      have hcv : (convert 44 9 (.slice (some ⟨wr.heap.size, 0, none⟩) 1 1)).run Tryd.prog (wr.alloc (.cells #[.int .u8 (48 + (m : Int) % 10)] 5)) = .ok (.string ⟨#[dgt m]⟩) (wr.alloc (.cells #[.int .u8 (48 + (m : Int) % 10)] 5)) := conv_one (dgt m) wr.heap.size _ (by
        rw [cell_of_row _ _ 0 #[.int .u8 (48 + (m : Int) % 10)] _ _ (heap_alloc_new wr _), hdg]
        show some (Value.int .u8 (48 + (m : Int) % 10)) = _
        congr 2)
      have hadd : ∀ W, (Op.stringOp .add ⟨#[dgt m]⟩ t).run Tryd.prog W = .ok (.string (⟨#[dgt m]⟩ ++ t)) W := fun W => run_string_add_sum (P := Tryd.prog) (w := W) _ _ (by show 1 + t.size ≤ _; omega)
      have hls : (⟨#[dgt m]⟩ ++ t : ByteArray).data.toList = dgt m :: t.data.toList := by simp
      have hlz : (⟨#[dgt m]⟩ ++ t : ByteArray).size = t.size + 1 := by rw [← blen', hls, List.length_cons, blen']
      rw [← hls] at HD2
      generalize (⟨#[dgt m]⟩ ++ t : ByteArray) = t2 at *
      have HB2 : Hid (∀ o, Below w.heap.size w (wr.alloc o)) := Lib.hid fun o => ahead HB.out (below_box _ _)
      clear hdg hls
      have hmd : ((m : Int) / 10) = ((m / 10 : Nat) : Int) := by omega
      have HMD := Lib.hid hmd
      clear hmd
      by_cases hmp : 0 < m
      · clear hgo
        go_wp2_with fail
        go_roundw
        case rel => exact ⟨t2, m / 10, rfl, by first | rfl | (rw [← HMD.out]; rfl), by omega, by omega, HD2, HB2.out _⟩
        case measure => simp [intOf, lenOf, hlz]; omega
      · have ht0 : t.size = 0 := by omega
        have htb : (t.toList == []) = true := by rw [ByteArray.toList_eq, empty_of ht0]; rfl
        have HT0 := Lib.hid ht0
        clear hgo ht0
        go_wp2_with fail
        go_roundw
        case rel => exact ⟨t2, m / 10, rfl, by first | rfl | (rw [← HMD.out]; rfl), by omega, by omega, HD2, HB2.out _⟩
        case measure =>
          have ht0 := HT0.out
          simp [intOf, lenOf, hlz, ht0]
          omega
    · have hm0 : m = 0 := by omega
      rw [hm0] at HD
      have hmz : (m : Int) ≤ 0 := by omega
      clear hm0
      have hne : t.data.toList ≠ [] := some_of (s := t) (fun h => hgo (.inr h))
      have htb : (t.toList == []) = false := by rw [ByteArray.toList_eq]; simpa using hne
      have HNE := Lib.hid hne
      have HLAST : Hid (∀ vs : List ByteArray, vs ≠ [] → (∀ v ∈ vs, Sole t v) → Ls.length vs = if n > top then (0, 3) else (n, 0)) := Lib.hid fun vs h1 h2 => again_last HD.out hne h1 h2
      have HSS := Lib.hid (sole_self HD.out.2.1 hne)
      have HSM : Hid (∀ v, Sole t v → Sole t (more1 v t)) := Lib.hid fun v hv => sole_more HD.out.2.1 hne hv
      clear hgo hne HD
      go_wp2_with fail
      have hq : (tm : Int) % 4 = ((tm % 4 : Nat) : Int) := by omega
      have hq3 : tm % 4 ≤ 3 := by omega
      rw [hq]
      clear hq
      generalize tm % 4 = q at *
      go_loopw [7, 8, 34] (fun v a i wr2 => ∃ (k : Nat) (al : ByteArray), k ≤ q ∧ i = .int .i64 (k : Nat) ∧ a = .string al ∧ al.size ≤ 20 + 22 * k ∧ Hid (Sole t al) ∧ Hid (Told wr wr2 v (List.replicate k t))) (fun _ _ i _ => q - (intOf i).toNat)
      case atStart => exact ⟨0, t, Nat.zero_le _, rfl, rfl, by omega, HSS, Lib.hid ⟨World.ownsRow_nil _ _ _ _, Below.refl _ _⟩⟩
      case round =>
        obtain ⟨k, al, hk, rfl, rfl, hal, HSA, HT⟩ := hrel
        by_cases hlt : k < q
        · obtain ⟨v', w2, r0, r1⟩ := HT.out.more t 22 (by rw [List.length_replicate]; omega)
          rw [← List.replicate_succ'] at r1
          have R0 := Lib.hid r0
          have R1 := Lib.hid r1
          have HSA2 := Lib.hid (HSM.out al HSA.out)
          have hz2 := more1_size al t
          have ha1 : ∀ W, (Op.stringOp .add ⟨#[44, 32]⟩ t).run Tryd.prog W = .ok (.string (⟨#[44, 32]⟩ ++ t)) W := fun W => run_string_add_sum (P := Tryd.prog) (w := W) _ _ (by show 2 + t.size ≤ _; omega)
          have ha2 : ∀ W, (Op.stringOp .add al (⟨#[44, 32]⟩ ++ t)).run Tryd.prog W = .ok (.string (more1 al t)) W := fun W => run_string_add_sum (P := Tryd.prog) (w := W) _ _ (by rw [ByteArray.size_append]; show al.size + (2 + t.size) ≤ _; omega)
          generalize more1 al t = al2 at *
          generalize (⟨#[44, 32]⟩ ++ t : ByteArray) = t3 at *
          clear r0 r1
          go_wp2_with (at_builtin; refine wpList_append_is rfl (.tmp 36) (.tmp 38) 22 rfl _ _ _ _ rfl rfl R0.out ?_)
          go_roundw
          case rel => exact ⟨k + 1, al2, by omega, by go_num, rfl, by omega, HSA2, R1⟩
          case measure => simp [intOf]; omega
        · obtain rfl : k = q := by omega
          obtain ⟨v', w2, r0, r1⟩ := HT.out.more al 22 (by rw [List.length_replicate]; omega)
          have hbk : Ls.bulk (List.replicate k t ++ [al]) ≤ 100000 := by
            rw [bulk_app, rep_bulk, bulk_cons]
            have : k * (t.size + 1) ≤ 3 * 21 := Nat.mul_le_mul hq3 (by omega)
            simp [Ls.bulk]
            omega
          have hlen := HLAST.out (List.replicate k t ++ [al]) (by simp) (rep_sole HSS.out k HSA.out)
          obtain ⟨pu, cu, rfl, -, -⟩ := RS.slice (RS.of_own r1.own)
          have HLN := Lib.hid (length_any _ pu cu w2 (RS.of_own r1.own) hbk)
          have HB3 := Lib.hid (ahead HB.out r1.below)
          have R0 := Lib.hid r0
          rw [hlen] at HLN
          generalize (List.replicate k t ++ [al]).length = nl at *
          clear r0 r1 hlen hbk HLAST HSS HSM HSA HT
          by_cases hbig : n > top
          · rw [if_pos hbig] at HLN
            unfold top at hbig
            go_wp2_with (at_builtin; refine wpList_append_is rfl (.tmp 45) (.tmp 47) 22 rfl _ _ _ _ rfl rfl R0.out ?_)
            refine HLN.out.mono ?_
            rintro e w3 ⟨rfl, hb3⟩
            have B3 := Lib.hid (ahead HB3.out hb3)
            clear hb3 HLN R0 HB3
            go_wp2_with fail
            go_ret
            exact ⟨rfl, B3.out⟩
          · rw [if_neg hbig] at HLN
            unfold top at hbig
            go_wp2_with (at_builtin; refine wpList_append_is rfl (.tmp 45) (.tmp 47) 22 rfl _ _ _ _ rfl rfl R0.out ?_)
            refine HLN.out.mono ?_
            rintro e w3 ⟨rfl, hb3⟩
            have B3 := Lib.hid (ahead HB3.out hb3)
            clear hb3 HLN R0 HB3
            go_wp2_with fail
            go_ret
            exact ⟨rfl, B3.out⟩

end Go.Proofs.YtjdbgdlkbdpojaaDoor
