/- An encoder of any kind: plain words, where it lies, what each kind's methods answer. -/
import Derived.Test.YtilebfpaibajcaaGreatDoorMF
import Derived.Test.YtilebfpaibajcaaGreatDoorEncFix
namespace Go.Proofs.YtilebfpaibajcaaGreatDoor
open Go.ChangeShapes Go.WideShapes Go.ChangeAt Go.RowKit
open Oc Fl Bk Bd
set_option linter.unusedVariables false
set_option maxRecDepth 100000

/-- What an encoder is of. -/
inductive K10 where
  | fix (size : Nat)
  | chk
  | unt
/-- An encoder: its kind, how many bytes of data it was given, whether it was ended. -/
structure Es where
  k : K10
  d : Nat
  done : Bool
/-- Data: what is to be written, what went wrong, the encoder then. -/
def putBx (x : Es) (T : List UInt8) : List UInt8 :=
  if x.done = true then [] else match x.k with
    | .fix s => fixB s x.d T
    | .chk => ck [] T
    | .unt => T
def putEx (x : Es) (T : List UInt8) : Nat :=
  if x.done = true then 8 else match x.k with
    | .fix s => fixE s x.d T
    | _ => 0
def putEs (x : Es) (T : List UInt8) : Es :=
  if x.done = true then x else match x.k with
    | .fix s => { x with d := fixD s x.d T }
    | _ => { x with d := x.d + T.length }
/-- The end. -/
def wrongE (l : List Fld) : Nat := if rights l = true then 0 else 1
theorem wrongE_put (l : List Fld) : putE l = (wrongE l : Int) := by unfold putE wrongE; split <;> rfl
def endBx (x : Es) (l : List Fld) : List UInt8 :=
  if x.done = true then [] else match x.k with
    | .chk => lastB l
    | _ => []
def endEx (x : Es) (l : List Fld) : Nat :=
  if x.done = true then 8 else match x.k with
    | .fix s => if x.d < s then 4 else wrongE l
    | _ => wrongE l
def endEs (x : Es) (l : List Fld) : Es := { x with done := x.done || decide (endEx x l = 0) }

/-- May a framing be? -/
def rightE (kind : Int) (size : Nat) : Bool := decide (kind = 1) && decide (size ≤ 4611686018427387903) || (decide (kind = 2) || decide (kind = 3)) && decide (size = 0)
def newEs (kind : Int) (size : Nat) : Es := ⟨if kind = 1 then .fix size else if kind = 2 then .chk else .unt, 0, false⟩

def K10.ty : K10 → TypeId
  | .fix _ => 87
  | .chk => 92
  | .unt => 95
def Es.obj (x : Es) : Obj :=
  match x.k with
  | .fix s => .cells #[.int .i64 (x.d : Int), .int .u64 (s : Int)] 91 (0, 0)
  | .chk => .cells #[.int .i64 (x.d : Int)] 94 (0, 0)
  | .unt => .cells #[.int .i64 (x.d : Int)] 96 (0, 0)
def Es.ok (x : Es) : Prop :=
  match x.k with
  | .fix s => x.d ≤ s ∧ s ≤ 4611686018427387903
  | _ => True

/-- An encoder lies at the block R, what it counts at the block K. -/
structure EnAt (R K : Nat) (x : Es) (W : World) : Prop where
  enc : W.heap[R]? = some (.cells #[.iface x.k.ty (.pointer (some ⟨K, 0, none⟩)), .bool x.done] 73 (0, 0))
  knd : W.heap[K]? = some x.obj
  ne : R ≠ K
  ok : x.ok
section
variable {R K : Nat} {x : Es} {W W' : World}
theorem EnAt.ltK (h : EnAt R K x W) : K < W.heap.size := (Array.getElem?_eq_some_iff.1 h.knd).1
theorem EnAt.ltR (h : EnAt R K x W) : R < W.heap.size := (Array.getElem?_eq_some_iff.1 h.enc).1
theorem EnAt.keep (h : EnAt R K x W) (h1 : W'.heap[R]? = W.heap[R]?) (h2 : W'.heap[K]? = W.heap[K]?) : EnAt R K x W' := ⟨h1.trans h.enc, h2.trans h.knd, h.ne, h.ok⟩
theorem EnAt.below (h : EnAt R K x W) (hb : Below W.heap.size W W') : EnAt R K x W' := h.keep (hb.block R h.ltR) (hb.block K h.ltK)
end

/-- Of what lay before only two blocks are written. -/
structure Sol2 (R K : Nat) (A B : World) : Prop where
  os : B.os = A.os
  tape : B.tape = A.tape
  output : B.output = A.output
  size : A.heap.size ≤ B.heap.size
  block : ∀ k, k < A.heap.size → k ≠ R → k ≠ K → B.heap[k]? = A.heap[k]?
theorem Sol2.trans {R K : Nat} {A B C : World} (h : Sol2 R K A B) (g : Sol2 R K B C) : Sol2 R K A C :=
  ⟨g.os.trans h.os, g.tape.trans h.tape, g.output.trans h.output, Nat.le_trans h.size g.size, fun k hk h0 h1 => (g.block k (Nat.lt_of_lt_of_le hk h.size) h0 h1).trans (h.block k hk h0 h1)⟩
theorem Sol2.of_below {R K : Nat} {A B : World} (h : Below A.heap.size A B) : Sol2 R K A B := ⟨h.os, h.tape, h.output, h.size, fun k hk _ _ => h.block k hk⟩
theorem Sol2.of_left {R K : Nat} {A B : World} (h : Sol10 R A B) : Sol2 R K A B := ⟨h.os, h.tape, h.output, h.size, fun k hk h0 _ => h.block k hk h0⟩
theorem Sol2.of_right {R K : Nat} {A B : World} (h : Sol10 K A B) : Sol2 R K A B := ⟨h.os, h.tape, h.output, h.size, fun k hk _ h1 => h.block k hk h1⟩
theorem Sol2.below {R K n : Nat} {w A B : World} (h : Sol2 R K A B) (hb : Below n w A) (hR : n ≤ R) (hK : n ≤ K) (hs : n ≤ A.heap.size) : Below n w B :=
  hb.trans ⟨h.os, h.tape, h.output, h.size, fun k hk => h.block k (by omega) (by omega) (by omega)⟩

/-- What a call leaves of an encoder: it, bytes in memory of the call's own. -/
structure EnQ (R K : Nat) (x : Es) (w w' : World) (v : Value) (ys : List UInt8) : Prop where
  at_ : EnAt R K x w'
  rd : RD w' v ys
  sol : Sol2 R K w w'
  own : ∀ g, v.ownBlock = some g → w.heap.size ≤ g ∧ g < w'.heap.size
theorem EnQ.none {R K : Nat} {x : Es} {w w' : World} (h : EnAt R K x w) (hb : Below w.heap.size w w') : EnQ R K x w w' (.slice none 0 0) [] :=
  ⟨h.below hb, RD.nil _, Sol2.of_below hb, fun g hg => by simp [Value.ownBlock] at hg⟩

set_option maxHeartbeats 2000000 in
theorem nothing_any (l : List Fld) (p : Option Addr) (c : Nat) (w : World) (hF : FS w (.slice p l.length c) l) (hl : bulk l ≤ 2000) (hsp : Spans w) :
    Calls Tryz.prog 140 #[.slice p l.length c] w fun e w' => e = .returned (.tuple #[.slice none 0 0, .int .i64 (wrongE l : Int)]) ∧ Below w.heap.size w w' := by
  have HF := Lib.hid hF
  have HS := Lib.hid hsp
  have hll := bulk_len l
  clear hF hsp
  go_enter Tryz.func140, Tryz.ntmps140
  go_wp2_with fail
  go_loopw [8] (fun i wr => ∃ (k : Nat), k ≤ l.length ∧ i = .int .i64 k ∧ Hid (rights (l.take k) = true) ∧ Hid (Below w.heap.size w wr)) (fun i _ => l.length - (intOf i).toNat)
  case atStart => exact ⟨0, Nat.zero_le _, rfl, Lib.hid rfl, Lib.hid (Below.refl _ _)⟩
  case round =>
    obtain ⟨k, hk, rfl, HR, HB⟩ := hrel
    by_cases hlt : k < l.length
    · obtain ⟨f, hf⟩ : ∃ f, l[k]? = some f := ⟨_, List.getElem?_eq_getElem hlt⟩
      obtain ⟨-, ad, rfl, c0, c1⟩ := ((HF.out).below HB.out).at hf
      have hfz := bulk_mem (List.mem_of_getElem? hf)
      have HPU : Hid (∀ W, Below w.heap.size w W → _) := Lib.hid fun W hb => right_any f W (by omega) (by omega) (HS.out.below hb)
      have HTK := Lib.hid (rights_take hf)
      have HNO : Hid (right f = false → wrongE l = 1) := Lib.hid fun hr => by unfold wrongE; rw [if_neg]; rw [rights_no hf hr]; decide
      clear hf
      cases hr : right f
      · rw [hr] at HPU HNO
        have HN := Lib.hid (HNO.out rfl)
        clear hr
        obtain ⟨x, y⟩ := f
        go_wp2_with fail
        refine (HPU.out _ (ahead HB.out (below_box _ _))).mono ?_
        rintro e w1 ⟨rfl, hb1⟩
        replace HB := Lib.hid (ahead (ahead HB.out (below_box _ _)) hb1)
        clear hb1 c0 c1
        go_wp2_with fail
        go_ret2
        exact ⟨by rw [HN.out]; rfl, HB.out⟩
      · rw [hr] at HPU HTK
        clear hr
        obtain ⟨x, y⟩ := f
        go_wp2_with fail
        refine (HPU.out _ (ahead HB.out (below_box _ _))).mono ?_
        rintro e w1 ⟨rfl, hb1⟩
        replace HB := Lib.hid (ahead (ahead HB.out (below_box _ _)) hb1)
        clear hb1 c0 c1
        go_wp2_with fail
        go_roundw
        case rel => exact ⟨k + 1, by omega, by go_num, Lib.hid (by rw [HTK.out, HR.out]; rfl), HB⟩
        case measure => simp [intOf]; omega
    · obtain rfl : k = l.length := by omega
      rw [List.take_length] at HR
      have HW : Hid (wrongE l = 0) := Lib.hid (if_pos HR.out)
      go_wp2_with fail
      go_ret2
      exact ⟨by rw [HW.out]; rfl, HB.out⟩

set_option maxHeartbeats 2000000 in
theorem fendL_any (R K size d : Nat) (l : List Fld) (p : Option Addr) (c : Nat) (w : World) (h : FixAt R K size d w) (hF : FS w (.slice p l.length c) l) (hl : bulk l ≤ 2000) (hsp : Spans w) :
    Calls Tryz.prog 136 #[.pointer (some ⟨K, 0, none⟩), .slice p l.length c] w fun e w' => e = .returned (.tuple #[.slice none 0 0, .int .i64 ((if d < size then 4 else wrongE l : Nat) : Int)]) ∧ Below w.heap.size w w' := by
  have HP := Lib.hid (fleft_any R K size d w h)
  have hle := h.le
  have hbg := h.big
  have HF := Lib.hid hF
  have HS := Lib.hid hsp
  clear h hF hsp
  by_cases hd : d < size
  · rw [if_pos hd]
    have h0 : (0 : Int) < ((size - d : Nat) : Int) := by omega
    generalize size - d = s at *
    go_enter Tryz.func136, Tryz.ntmps136
    go_wp2_with fail
    refine HP.out.mono ?_
    rintro e w1 ⟨rfl, m, rfl⟩
    have HB := Lib.hid (drewN_below8 w m)
    go_wp2_with fail
    go_ret2
    exact ⟨rfl, HB.out⟩
  · rw [if_neg hd]
    rw [show size - d = 0 from by omega] at HP
    go_enter Tryz.func136, Tryz.ntmps136
    go_wp2_with fail
    refine HP.out.mono ?_
    rintro e w1 ⟨rfl, m, rfl⟩
    have HB := Lib.hid (drewN_below8 w m)
    have HN := Lib.hid (nothing_any l p c (w.drewN m) (HF.out.below HB.out) hl (HS.out.below HB.out))
    go_wp2_with fail
    refine HN.out.mono ?_
    rintro e w2 ⟨rfl, hb⟩
    have HC := Lib.hid (ahead HB.out hb)
    clear hb
    go_wp2_with fail
    go_ret2
    exact ⟨rfl, HC.out⟩

set_option maxHeartbeats 1000000 in
theorem uendL_any (K : Nat) (l : List Fld) (p : Option Addr) (c : Nat) (w : World) (hF : FS w (.slice p l.length c) l) (hl : bulk l ≤ 2000) (hsp : Spans w) :
    Calls Tryz.prog 171 #[.pointer (some ⟨K, 0, none⟩), .slice p l.length c] w fun e w' => e = .returned (.tuple #[.slice none 0 0, .int .i64 (wrongE l : Int)]) ∧ Below w.heap.size w w' := by
  have HN := Lib.hid (nothing_any l p c w hF hl hsp)
  clear hF hsp
  generalize wrongE l = q at *
  go_enter Tryz.func171, Tryz.ntmps171
  go_wp2_with fail
  refine HN.out.mono ?_
  rintro e w2 ⟨rfl, hb⟩
  have HC := Lib.hid hb
  clear hb
  go_wp2_with fail
  go_ret2
  exact ⟨rfl, HC.out⟩

set_option maxHeartbeats 2000000 in
theorem uput_any (K d : Nat) (cs : Array Value) (ty : TypeId) (xs : List UInt8) (p : Option Addr) (c : Nat) (w : World) (hK : w.heap[K]? = some (.cells cs ty (0, 0))) (hc : cs[0]? = some (.int .i64 (d : Int))) (hx : RD w (.slice p xs.length c) xs) (hp : xs ≠ [] → ∀ g, (Value.slice p xs.length c).ownBlock = some g → g ≠ K) (hl : xs.length ≤ 100000) (hd : d ≤ 4611686018427387903) :
    Calls Tryz.prog 172 #[.pointer (some ⟨K, 0, none⟩), .slice p xs.length c] w fun e w' => ∃ v, e = .returned (.tuple #[v, .int .i64 0]) ∧ Own10 (w.setCell ⟨K, 0, none⟩ (.int .i64 ((d + xs.length : Nat) : Int))) w' v xs := by
  have HD := Lib.hid (add_any K xs.length d c p cs ty w hK hc (by omega))
  have x2 : RD (w.setCell ⟨K, 0, none⟩ (.int .i64 ((d + xs.length : Nat) : Int))) (.slice p xs.length c) xs := hx.keep fun hne k hk => Below.heap_setCell _ _ _ _ (hp hne k hk)
  have HC := Lib.hid (clone10_any xs p c _ x2 hl)
  clear hK hc hx hp x2
  go_enter Tryz.func172, Tryz.ntmps172
  go_wp2_with fail
  refine HD.out.mono ?_
  rintro e w2 ⟨rfl, rfl⟩
  go_wp2_with fail
  refine HC.out.mono ?_
  rintro e w3 ⟨v, rfl, hO⟩
  have HQ := Lib.hid hO
  clear hO HD HC
  go_wp2_with fail
  go_ret2
  exact ⟨_, rfl, HQ.out⟩

end Go.Proofs.YtilebfpaibajcaaGreatDoor
