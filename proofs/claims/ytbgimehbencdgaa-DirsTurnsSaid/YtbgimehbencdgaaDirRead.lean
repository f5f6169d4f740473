/-
  What a slot is: the program's answer. Nothing of one statement alone stands here.
-/
import Derived.Test.YtbgimehbencdgaaDirWrite
import Derived.Lib.SlBytesRow
import Derived.Laws.BitsAllLaws
import Derived.WalkSpells
import Derived.IntWalk
namespace Dirm
open Go Crcm Tagm
theorem d64_or_nat (a b : Nat) (ha : a < 4611686018427387904) (hb : b < 4611686018427387904) : bits .or .i64 (a : Int) (b : Int) = ((a ||| b : Nat) : Int) := by
  have hx : a ||| b < 2 ^ 62 := Nat.or_lt_two_pow (by omega) (by omega)
  show IntKind.i64.wrap ((BitVec.ofInt 64 (a : Int) ||| BitVec.ofInt 64 (b : Int)).toNat : Int) = _
  rw [BitVec.toNat_or, ofInt_u64 a (by omega), ofInt_u64 b (by omega), IntKind.wrap_i64]
  omega
theorem dor_low (x b : Int) (i : Nat) (hx : 0 ≤ x ∧ x < 256 ^ i) (hb : U8 b) (hi : i < 4) : bits .or .i64 x (IntKind.i64.wrap (b * 2 ^ (8 * i))) = x + 256 ^ i * b := by
  obtain ⟨b0, b1⟩ := hb
  obtain ⟨x0, x1⟩ := hx
  have e256 : (256 : Int) ^ i = 2 ^ (8 * i) := by rw [Int.pow_mul]; rfl
  have hp : (2 : Int) ^ (8 * i) ≤ 2 ^ 24 := by
    have : (2 : Nat) ^ (8 * i) ≤ 2 ^ 24 := Nat.pow_le_pow_right (by decide) (by omega)
    have h2 : ((2 ^ (8 * i) : Nat) : Int) ≤ ((2 ^ 24 : Nat) : Int) := by omega
    simpa using h2
  have hp0 : (0 : Int) < 2 ^ (8 * i) := Int.pow_pos (by decide)
  have hm : b * 2 ^ (8 * i) ≤ 255 * 2 ^ 24 := Int.mul_le_mul (by omega) hp (by omega) (by decide)
  have hm0 : 0 ≤ b * 2 ^ (8 * i) := Int.mul_nonneg b0 (by omega)
  have hw : IntKind.i64.wrap (b * 2 ^ (8 * i)) = b * 2 ^ (8 * i) := by rw [IntKind.wrap_i64]; omega
  have hx64 : x < 4611686018427387904 := by rw [e256] at x1; omega
  rw [hw]
  obtain ⟨n, rfl⟩ := Int.eq_ofNat_of_zero_le x0
  obtain ⟨m, rfl⟩ := Int.eq_ofNat_of_zero_le b0
  have hn : n < 2 ^ (8 * i) := by
    rw [e256] at x1
    have : ((n : Nat) : Int) < ((2 ^ (8 * i) : Nat) : Int) := by simpa using x1
    omega
  have e1 : ((m : Int) * 2 ^ (8 * i)) = ((m * 2 ^ (8 * i) : Nat) : Int) := by simp
  have e2 : m * 2 ^ (8 * i) < 4611686018427387904 := by omega
  show bits .or .i64 (n : Int) ((m : Int) * 2 ^ (8 * i)) = _
  rw [e1, d64_or_nat n _ (by omega) e2]
  have h2 := Nat.two_pow_add_eq_or_of_lt hn m
  rw [Nat.or_comm, Nat.mul_comm m, ← h2, e256]
  simp
  omega
end Dirm
namespace Go.Proofs.Ytbgimehbencdgaa
open Go.RowKit Crcm Tagm Dirm Go.ChangeShapes

/-- what is told of a slot: the inode's number, the name's length, the name -/
def rI (l : List Int) : Int := l.getD 0 0 + 256 * l.getD 1 0
def rK (l : List Int) : Nat := (l.getD 2 0).toNat
def rS (l : List Int) : ByteArray := strOfNums ((l.drop 3).take (rK l))
/-- an entry's slot -/
def gd (l : List Int) : Prop := rK l ≤ 13 ∧ nz (l.drop (3 + rK l)) ∧ 1 ≤ rI l ∧ Nm (rS l)
instance (l : List Int) : Decidable (gd l) := by unfold gd; infer_instance
def rE (l : List Int) : Int := if l.length = 16 then (if nz l then 0 else if gd l then 0 else 50) else 1
def rU (l : List Int) : Bool := decide (l.length = 16 ∧ ¬ nz l ∧ gd l)
def eI (l : List Int) : Int := if rU l = true then rI l else 0
def eS (l : List Int) : ByteArray := if rU l = true then rS l else ⟨#[]⟩
theorem r_len {l : List Int} (h : l.length ≠ 16) : rE l = 1 ∧ rU l = false ∧ eI l = 0 ∧ eS l = ⟨#[]⟩ := by
  have hu : rU l = false := decide_eq_false (fun g => h g.1)
  exact ⟨by unfold rE; rw [if_neg h], hu, by unfold eI; rw [hu]; rfl, by unfold eS; rw [hu]; rfl⟩
theorem r_zero {l : List Int} (h : l.length = 16) (h2 : nz l) : rE l = 0 ∧ rU l = false ∧ eI l = 0 ∧ eS l = ⟨#[]⟩ := by
  have hu : rU l = false := decide_eq_false (fun g => g.2.1 h2)
  exact ⟨by unfold rE; rw [if_pos h, if_pos h2], hu, by unfold eI; rw [hu]; rfl, by unfold eS; rw [hu]; rfl⟩
theorem r_bad {l : List Int} (h : l.length = 16) (h2 : ¬ nz l) (h3 : ¬ gd l) : rE l = 50 ∧ rU l = false ∧ eI l = 0 ∧ eS l = ⟨#[]⟩ := by
  have hu : rU l = false := decide_eq_false (fun g => h3 g.2.2)
  exact ⟨by unfold rE; rw [if_pos h, if_neg h2, if_neg h3], hu, by unfold eI; rw [hu]; rfl, by unfold eS; rw [hu]; rfl⟩
theorem r_good {l : List Int} (h : l.length = 16) (h2 : ¬ nz l) (h3 : gd l) : rE l = 0 ∧ rU l = true ∧ eI l = rI l ∧ eS l = rS l := by
  have hu : rU l = true := decide_eq_true ⟨h, h2, h3⟩
  exact ⟨by unfold rE; rw [if_pos h, if_neg h2, if_pos h3], hu, by unfold eI; rw [hu]; rfl, by unfold eS; rw [hu]; rfl⟩

/-- the answer, whole -/
def rv (i : Int) (s : ByteArray) (u : Bool) (e : Int) : Value := .tuple #[.agg #[.int .i64 i, .string s], .bool u, .int .i64 e]

set_option maxRecDepth 100000 in
set_option maxHeartbeats 1000000 in
theorem dread_early (l : List Int) (a : Option Addr) (c n : Nat) (w : World) (ha : Rw w a l) (hl : l.length = n) (n1 : n ≤ 9223372036854775807) (h : n ≠ 16 ∨ nz l) :
    Calls Try.prog 12 #[.slice a n c] w fun e w' => e = .returned (rv (eI l) (eS l) (rU l) (rE l)) ∧ Below w.heap.size w w' := by
  by_cases hn : n = 16
  · have hz := h.resolve_left (fun g => g hn)
    obtain ⟨e1, e2, e3, e4⟩ := r_zero (by omega) hz
    rw [e1, e2, e3, e4]
    have HE := Lib.hid (fun W (hb : Below w.heap.size w W) => empty_any l a c n W (ha.below hb) hl n1)
    rw [decide_eq_true hz] at HE
    subst hn
    clear ha hl h hz e1 e2 e3 e4
    unfold rv
    have B0 : Hid (Below w.heap.size w (w.alloc (.cells #[.int .i64 0, .string ⟨#[]⟩] 23))) := Lib.hid ((Below.refl _ _).alloc (Nat.le_refl _) _)
    go_enter Try.func12, Try.ntmps12
    go_wp2_with fail
    refine (HE.out _ B0.out).mono ?_
    rintro e w' ⟨rfl, rfl⟩
    go_wp2
    exact bodyPost_ret (v := .tuple #[.agg #[.int .i64 0, .string ⟨#[]⟩], .bool false, .int .i64 0]) (by simp [results, Try.results12, go_sem]) rfl ⟨rfl, B0.out⟩
  · obtain ⟨e1, e2, e3, e4⟩ := r_len (l := l) (by omega)
    rw [e1, e2, e3, e4]
    have t : ((n : Int) != 16) = true := by simp; omega
    clear ha hl h e1 e2 e3 e4 hn
    unfold rv
    go_enter Try.func12, Try.ntmps12
    go_wp2
    exact bodyPost_ret (v := .tuple #[.agg #[.int .i64 0, .string ⟨#[]⟩], .bool false, .int .i64 1]) (by simp [results, Try.results12, go_sem]) rfl ⟨rfl, (Below.refl _ _).alloc (Nat.le_refl _) _⟩

/-- an entry's block, written over -/
def ovE (w : World) (g : Nat) (i : Int) (s : ByteArray) : World := (w.setCell ⟨g, 0, none⟩ (.int .i64 i)).setCell ⟨g, 1, none⟩ (.string s)
theorem ovE_blk {w : World} {g : Nat} {t : TypeId} {x i : Int} {y s : ByteArray} (h : Blk w g t #[.int .i64 x, .string y]) : Blk (ovE w g i s) g t #[.int .i64 i, .string s] := by
  have := (h.put 0 (.int .i64 i)).put 1 (.string s)
  simpa [ovE] using this
theorem ovE_below {w0 w : World} {B g : Nat} {i : Int} {s : ByteArray} (h : Below B w0 w) (hg : B ≤ g) : Below B w0 (ovE w g i s) := by
  unfold ovE
  exact (h.setCell (p := ⟨g, 0, none⟩) hg _).setCell (p := ⟨g, 1, none⟩) hg _
theorem elemB : Try.prog.elem 24 = 5 := by simp [Program.elem, Try.underlying24]
theorem cut3 (b off cap k : Nat) (X : Int) (hX : X = 3 + (k : Int)) (hk : k ≤ 13) (hc : 16 ≤ cap) (W : World) :
    (Instr.slice 24 (.slice (some ⟨b, off, none⟩) 16 cap) (some (.int .i64 3)) (some (.int .i64 X)) none).run Try.prog W = .ok (.slice (some ⟨b, off + 3, none⟩) k (cap - 3)) W := by
  subst hX
  have he : Try.prog.underlying 24 = some (.slice (Try.prog.elem 24)) := by rw [elemB, Try.underlying24]
  rw [run_slice_lh W _ _ _ _ he .i64 .i64 _ _ (by omega) (by omega) (by omega), elemB, Try.sizeOf5]
  have h1 : (3 + (k : Int)).toNat - 3 = k := by omega
  have hne : ¬ cap = 3 := by omega
  simp [Result.andThen, sliced, hne, Addr.add, h1]
theorem restB (b off cap k : Nat) (X : Int) (hX : X = 3 + (k : Int)) (hk : k ≤ 13) (W : World) :
    (Instr.slice 24 (.slice (some ⟨b, off, none⟩) 16 cap) (some (.int .i64 X)) none none).run Try.prog W = .ok (.slice (mv (some ⟨b, off, none⟩) cap (3 + k)) (16 - (3 + k)) (cap - (3 + k))) W := by
  subst hX
  have he : Try.prog.underlying 24 = some (.slice (Try.prog.elem 24)) := by rw [elemB, Try.underlying24]
  have hx : (3 + (k : Int)) = ((3 + k : Nat) : Int) := by omega
  rw [hx, run_slice_l W _ _ _ _ he .i64 _ (by omega) (by omega), elemB, Try.sizeOf5]
  unfold mv
  have h1 : (3 + (k : Int)).toNat = 3 + k := by omega
  by_cases hne : cap = 3 + k <;> simp [Result.andThen, sliced, hne, h1, Go.WideShapes.add_plain]

set_option maxRecDepth 100000 in
set_option maxHeartbeats 4000000 in
theorem dread_long (l : List Int) (b off c : Nat) (w : World) (ha : Rw w (some ⟨b, off, none⟩) l) (hl : l.length = 16) (hc : 16 ≤ c) (hz : ¬ nz l) :
    Calls Try.prog 12 #[.slice (some ⟨b, off, none⟩) 16 c] w fun e w' => e = .returned (rv (eI l) (eS l) (rU l) (rE l)) ∧ Below w.heap.size w w' := by
  have hB0 : Below w.heap.size w (w.alloc (.cells #[.int .i64 0, .string ⟨#[]⟩] 23)) := (Below.refl _ _).alloc (Nat.le_refl _) _
  obtain ⟨V, hV⟩ : ∃ V, w.alloc (.cells #[.int .i64 0, .string ⟨#[]⟩] 23) = V := ⟨_, rfl⟩
  have hK : Blk V w.heap.size 23 #[.int .i64 0, .string ⟨#[]⟩] := by rw [← hV]; exact Blk.new _ _ _
  rw [hV] at hB0
  have HW := Lib.hid hV
  clear hV
  have B0 := Lib.hid hB0
  have K0 := Lib.hid hK
  have hr := ha.below hB0
  have HE := Lib.hid (fun W (hb : Below V.heap.size V W) => empty_any l (some ⟨b, off, none⟩) c 16 W (hr.below hb) hl (by omega))
  rw [decide_eq_false hz] at HE
  obtain ⟨_, _, e0, d0⟩ := hr.at (j := 0) (by omega)
  obtain ⟨_, _, e1, d1⟩ := hr.at (j := 1) (by omega)
  obtain ⟨_, _, e2, d2⟩ := hr.at (j := 2) (by omega)
  have hA := hr.below ((Below.refl V.heap.size V).alloc (Nat.le_refl _) (.cells #[.int .i64 0, .string ⟨#[]⟩] 23))
  obtain ⟨_, _, e3, n0⟩ := hA.at (j := 0) (by omega)
  obtain ⟨_, _, e4, n1⟩ := hA.at (j := 1) (by omega)
  clear hA
  injection e0 with e0; injection e0 with f1 f2; subst f1 f2
  injection e3 with e3; injection e3 with f1 f2; subst f1 f2
  injection e4 with e4; injection e4 with f1 f2; subst f1 f2
  injection e1 with e1; injection e1 with f1 f2; subst f1 f2
  injection e2 with e2; injection e2 with f1 f2; subst f1 f2
  rw [Nat.add_zero] at d0 n0
  have u0 : U8 (l.getD 0 0) := hr.1 _ (by rw [List.getD_eq_getElem?_getD, List.getElem?_eq_getElem (by omega : 0 < l.length)]; exact List.getElem_mem _)
  have u1 : U8 (l.getD 1 0) := hr.1 _ (by rw [List.getD_eq_getElem?_getD, List.getElem?_eq_getElem (by omega : 1 < l.length)]; exact List.getElem_mem _)
  have u2 : U8 (l.getD 2 0) := hr.1 _ (by rw [List.getD_eq_getElem?_getD, List.getElem?_eq_getElem (by omega : 2 < l.length)]; exact List.getElem_mem _)
  have hk : l.getD 2 0 = (rK l : Int) := by unfold rK; unfold U8 at u2; omega
  rw [hk] at d2
  have hor : bits .or .i64 (l.getD 0 0) (IntKind.i64.wrap (l.getD 1 0 * 2 ^ 8)) = rI l := by
    have := dor_low (l.getD 0 0) (l.getD 1 0) 1 (by unfold U8 at u0; omega) u1 (by omega)
    simpa [rI] using this
  by_cases h13 : rK l ≤ 13
  · have hconv := fun W (hb : Below V.heap.size V W) => run_convert_bytes_arg (P := Try.prog) W 24 5 Try.underlying24 Try.underlying5 b (off + 3) (rK l) (c - 3) ((l.drop 3).take (rK l)) (by rw [List.length_take, List.length_drop]; omega) (fun j hj => by
      have hrr := (hr.below hb).2.2
      rcases hrr with h | ⟨b', o', e, h⟩
      · rw [h] at hl; simp at hl
      · injection e with e; injection e with g1 g2; subst g1 g2
        have := h (3 + j) (by omega)
        rw [show off + 3 + j = off + (3 + j) by omega, this]
        simp [List.getD_eq_getElem?_getD, hj]) 9 Try.underlying9
    have hcv := hconv V.drew (Below.refl _ _).drew
    have hcv2 := hconv (V.alloc (.cells #[.int .i64 0, .string ⟨#[]⟩] 23)).drew ((Below.refl _ _).alloc (Nat.le_refl _) _).drew
    have hs1 := cut3 b off c (rK l) (3 + (rK l : Int)) rfl h13 hc
    have hs2 := restB b off c (rK l) (3 + (rK l : Int)) rfl h13
    have hiU : 0 ≤ rI l ∧ rI l ≤ 65535 := by unfold rI; unfold U8 at u0 u1; omega
    have HGg : gd l ↔ nz (l.drop (3 + rK l)) ∧ Mi (rI l) ∧ Nm (rS l) := ⟨fun g => ⟨g.2.1, ⟨g.2.2.1, hiU.2⟩, g.2.2.2⟩, fun g => ⟨h13, g.1, g.2.1.1, g.2.2⟩⟩
    have HBad := fun g => r_bad hl hz g
    have HGood := fun g => r_good hl hz g
    have HRest := Lib.hid (fun W (hb : Below V.heap.size V W) => empty_any (l.drop (3 + rK l)) (mv (some ⟨b, off, none⟩) c (3 + rK l)) (c - (3 + rK l)) (16 - (3 + rK l)) W ((hr.below hb).mv (3 + rK l) c (by omega)) (by rw [List.length_drop]; omega) (by omega))
    obtain ⟨k, hkk⟩ : ∃ k : Nat, rK l = k := ⟨_, rfl⟩
    obtain ⟨s, hs⟩ : ∃ s : ByteArray, rS l = s := ⟨_, rfl⟩
    have hs' : strOfNums (List.take (rK l) (List.drop 3 l)) = s := hs
    rw [hs'] at hcv hcv2
    rw [hkk] at d2 h13 hk hcv hcv2 hs1 hs2 HRest
    have ht : decide (16 < 3 + (k : Int)) = false := by simp; omega
    obtain ⟨i, hi⟩ : ∃ i : Int, rI l = i := ⟨_, rfl⟩
    obtain ⟨x0, hx0⟩ : ∃ i : Int, l.getD 0 0 = i := ⟨_, rfl⟩
    obtain ⟨x1, hx1⟩ : ∃ i : Int, l.getD 1 0 = i := ⟨_, rfl⟩
    rw [hx0] at d0 n0
    rw [hx1] at d1 n1
    rw [hx0, hx1, hi] at hor
    rw [hx0] at u0
    rw [hx1] at u1
    unfold U8 at u0 u1
    have ew : IntKind.i64.wrap (x1 * 2 ^ 8) = x1 * 256 := by rw [show (2 : Int) ^ 8 = 256 by rfl, IntKind.wrap_i64]; omega
    rw [ew] at hor
    obtain ⟨W1, hW1⟩ : ∃ W1, (V.alloc (.cells #[.int .i64 i, .string s] 23)).drew = W1 := ⟨_, rfl⟩
    have K1 : Blk W1 w.heap.size 23 #[.int .i64 0, .string ⟨#[]⟩] := by rw [← hW1]; exact hK.alloc _
    have G1 : Blk W1 V.heap.size 23 #[.int .i64 i, .string s] := by rw [← hW1]; exact Blk.new _ _ _
    have b1 : Below V.heap.size V W1 := by rw [← hW1]; exact ((Below.refl _ _).alloc (Nat.le_refl _) _).drew
    have b2 : Below w.heap.size w W1 := by rw [← hW1]; exact (hB0.alloc hB0.size _).drew
    have c0 : W1.cell? ⟨w.heap.size, 0, none⟩ = some (.int .i64 0) := K1.cell 0
    have c1 : W1.cell? ⟨w.heap.size, 1, none⟩ = some (.string ⟨#[]⟩) := K1.cell 1
    have z0 := K1.frozen 0
    have z1 := K1.frozen 1
    have g0 : W1.cell? ⟨V.heap.size, 0, none⟩ = some (.int .i64 i) := G1.cell 0
    have g1 : W1.cell? ⟨V.heap.size, 1, none⟩ = some (.string s) := G1.cell 1
    have HK1 := Lib.hid K1
    have Hb1 := Lib.hid b1
    have Hb2 := Lib.hid b2
    have HW1 := Lib.hid hW1
    have HM := Lib.hid (fun w => mayBe_any i w)
    have HN := Lib.hid (fun w => name_any s w)
    have HRW := Lib.hid (HRest.out W1 b1)
    clear hW1 K1 G1 b1 b2 HRest hB0 hK ha hr u2 hs'
    by_cases hm : Mi i
    · by_cases hn : Nm s
      · have en : nmE s = 0 := nm_yes hn
        rw [en] at HN
        by_cases hq : nz (l.drop (3 + k))
        · obtain ⟨q1, q2, q3, q4⟩ := HGood (HGg.2 ⟨hkk ▸ hq, hi ▸ hm, hs ▸ hn⟩)
          rw [q1, q2, q3, q4, hi, hs]
          rw [decide_eq_true hm] at HM
          rw [decide_eq_true hq] at HRW
          clear q1 q2 q3 q4 HBad HGood hn hq en hz hl HGg hkk hk hi hx0 hx1 hs hiU hm
          unfold rv
          go_enter Try.func12, Try.ntmps12
          go_wp2_with fail
          rw [HW.out]
          refine (HE.out _ (Below.refl _ _)).mono ?_
          rintro e w' ⟨rfl, rfl⟩
          go_wp2_with fail
          go_region
          all_goals
            rw [HW1.out]
            go_wp2_with fail
            refine (HM.out _).mono ?_
            rintro e w' ⟨rfl, rfl⟩
            go_wp2_with fail
            refine (HN.out _).mono ?_
            rintro e w' ⟨rfl, rfl⟩
            go_wp2_with fail
            refine HRW.out.mono ?_
            rintro e w' ⟨rfl, rfl⟩
            go_wp2_with fail
            have K2 := ovE_blk (i := i) (s := s) HK1.out
            have B2 := ovE_below (i := i) (s := s) Hb2.out (Nat.le_refl _)
            unfold ovE at K2 B2
            exact bodyPost_ret (v := .tuple #[.agg #[.int .i64 i, .string s], .bool true, .int .i64 0]) (by simp [results, Try.results12, go_sem, K2.cell 0, K2.cell 1]) rfl ⟨rfl, B2⟩
        · obtain ⟨q1, q2, q3, q4⟩ := HBad (fun g => hq (hkk ▸ (HGg.1 g).1))
          rw [q1, q2, q3, q4]
          rw [decide_eq_true hm] at HM
          rw [decide_eq_false hq] at HRW
          clear q1 q2 q3 q4 HBad HGood hn hq en hz hl HGg hkk hk hi hx0 hx1 hs hiU hm
          unfold rv
          go_enter Try.func12, Try.ntmps12
          go_wp2_with fail
          rw [HW.out]
          refine (HE.out _ (Below.refl _ _)).mono ?_
          rintro e w' ⟨rfl, rfl⟩
          go_wp2_with fail
          go_region
          all_goals
            rw [HW1.out]
            go_wp2_with fail
            refine (HM.out _).mono ?_
            rintro e w' ⟨rfl, rfl⟩
            go_wp2_with fail
            refine (HN.out _).mono ?_
            rintro e w' ⟨rfl, rfl⟩
            go_wp2_with fail
            refine HRW.out.mono ?_
            rintro e w' ⟨rfl, rfl⟩
            go_wp2_with fail
            have K2 := ovE_blk (i := 0) (s := ⟨#[]⟩) HK1.out
            have B2 := ovE_below (i := 0) (s := ⟨#[]⟩) Hb2.out (Nat.le_refl _)
            unfold ovE at K2 B2
            exact bodyPost_ret (v := .tuple #[.agg #[.int .i64 0, .string ⟨#[]⟩], .bool false, .int .i64 50]) (by simp [results, Try.results12, go_sem, K2.cell 0, K2.cell 1]) rfl ⟨rfl, B2⟩
      · obtain ⟨q1, q2, q3, q4⟩ := HBad (fun g => hn (hs ▸ (HGg.1 g).2.2))
        rw [q1, q2, q3, q4]
        rw [decide_eq_true hm] at HM
        have en : nmE s = 31 := nm_no hn
        rw [en] at HN
        clear en
        clear q1 q2 q3 q4 HBad HGood hn HRW hz hl HGg hkk hk hi hx0 hx1 hs hiU hm
        unfold rv
        go_enter Try.func12, Try.ntmps12
        go_wp2_with fail
        rw [HW.out]
        refine (HE.out _ (Below.refl _ _)).mono ?_
        rintro e w' ⟨rfl, rfl⟩
        go_wp2_with fail
        go_region
        all_goals
          rw [HW1.out]
          go_wp2_with fail
          refine (HM.out _).mono ?_
          rintro e w' ⟨rfl, rfl⟩
          go_wp2_with fail
          refine (HN.out _).mono ?_
          rintro e w' ⟨rfl, rfl⟩
          go_wp2_with fail
          have K2 := ovE_blk (i := 0) (s := ⟨#[]⟩) HK1.out
          have B2 := ovE_below (i := 0) (s := ⟨#[]⟩) Hb2.out (Nat.le_refl _)
          unfold ovE at K2 B2
          exact bodyPost_ret (v := .tuple #[.agg #[.int .i64 0, .string ⟨#[]⟩], .bool false, .int .i64 50]) (by simp [results, Try.results12, go_sem, K2.cell 0, K2.cell 1]) rfl ⟨rfl, B2⟩
    · obtain ⟨q1, q2, q3, q4⟩ := HBad (fun g => hm (hi ▸ (HGg.1 g).2.1))
      rw [q1, q2, q3, q4]
      rw [decide_eq_false hm] at HM
      clear q1 q2 q3 q4 HBad HGood HN HRW hz hl HGg hkk hk hi hx0 hx1 hs hiU hm
      unfold rv
      go_enter Try.func12, Try.ntmps12
      go_wp2_with fail
      rw [HW.out]
      refine (HE.out _ (Below.refl _ _)).mono ?_
      rintro e w' ⟨rfl, rfl⟩
      go_wp2_with fail
      go_region
      all_goals
        rw [HW1.out]
        go_wp2_with fail
        refine (HM.out _).mono ?_
        rintro e w' ⟨rfl, rfl⟩
        go_wp2_with fail
        have K2 := ovE_blk (i := 0) (s := ⟨#[]⟩) HK1.out
        have B2 := ovE_below (i := 0) (s := ⟨#[]⟩) Hb2.out (Nat.le_refl _)
        unfold ovE at K2 B2
        exact bodyPost_ret (v := .tuple #[.agg #[.int .i64 0, .string ⟨#[]⟩], .bool false, .int .i64 50]) (by simp [results, Try.results12, go_sem, K2.cell 0, K2.cell 1]) rfl ⟨rfl, B2⟩
  · have hng : ¬ gd l := fun g => h13 g.1
    obtain ⟨q1, q2, q3, q4⟩ := r_bad hl hz hng
    rw [q1, q2, q3, q4]
    obtain ⟨k, hkk⟩ : ∃ k : Nat, rK l = k := ⟨_, rfl⟩
    rw [hkk] at d2 h13 hk
    have hk8 : k ≤ 255 := by unfold U8 at u2; omega
    have hk13 : 13 < k := by omega
    have ht : decide (16 < 3 + (k : Int)) = true := by simp; omega
    have c0 : V.cell? ⟨w.heap.size, 0, none⟩ = some (.int .i64 0) := hK.cell 0
    have c1 : V.cell? ⟨w.heap.size, 1, none⟩ = some (.string ⟨#[]⟩) := hK.cell 1
    have z0 := hK.frozen 0
    have z1 := hK.frozen 1
    clear hk hkk
    clear q1 q2 q3 q4 hng hz ha hr h13 hor u0 u1 u2 hB0 hK d0 d1 n0 n1
    unfold rv
    go_enter Try.func12, Try.ntmps12
    go_wp2_with fail
    rw [HW.out]
    refine (HE.out _ (Below.refl _ _)).mono ?_
    rintro e w' ⟨rfl, rfl⟩
    go_wp2_with fail
    have K2 := ovE_blk (i := 0) (s := ⟨#[]⟩) K0.out
    have B2 := ovE_below (i := 0) (s := ⟨#[]⟩) B0.out (Nat.le_refl _)
    unfold ovE at K2 B2
    exact bodyPost_ret (v := .tuple #[.agg #[.int .i64 0, .string ⟨#[]⟩], .bool false, .int .i64 50]) (by simp [results, Try.results12, go_sem, K2.cell 0, K2.cell 1]) rfl ⟨rfl, B2⟩

theorem dread_any (l : List Int) (a : Option Addr) (c n : Nat) (w : World) (ha : Rw w a l) (hl : l.length = n) (hc : n ≤ c) (n1 : n ≤ 9223372036854775807) :
    Calls Try.prog 12 #[.slice a n c] w fun e w' => e = .returned (rv (eI l) (eS l) (rU l) (rE l)) ∧ Below w.heap.size w w' := by
  by_cases h : n ≠ 16 ∨ nz l
  · exact dread_early l a c n w ha hl n1 h
  · have h1 : n = 16 := Decidable.byContradiction (fun g => h (Or.inl g))
    subst h1
    obtain ⟨b, off, e, _⟩ := ha.at (j := 0) (by omega)
    subst e
    exact dread_long l b off c w ha hl hc (fun g => h (Or.inr g))

end Go.Proofs.Ytbgimehbencdgaa
