/-
  A manager is not opened: which blocks can't be so. Nothing of one statement alone stands here.
-/
import Derived.Test.YtjjggmopkfkpaaaGreatKL
import Derived.Test.YtjjggmopkfkpaaaGreatKM
import Derived.Test.YtjjggmopkfkpaaaGreatKE
import Derived.Test.YtjjggmopkfkpaaaGreatKB
namespace Go.Proofs.YtjjggmopkfkpaaaGreat
open Go.RowKit Crcm Gcm Go.ChangeShapes

/-- a block that can be so -/
def okB (np : Nat) (f : Bool) (x : Int) : Bool := decide (0 ≤ x) && decide (x ≤ np) && !(f && decide (0 < x))

set_option maxRecDepth 100000 in
set_option maxHeartbeats 1000000 in
theorem openable_len (nb np sz : Nat) (fa la : Option Addr) (n1 c1 n2 c2 : Nat) (w : World) (h : n1 ≠ nb ∨ n2 ≠ nb) :
    Calls Tryz.prog 48 #[.agg #[.int .i64 nb, .int .i64 np, .int .i64 sz], .slice fa n1 c1, .slice la n2 c2] w fun e w' => e = .returned (.bool false) ∧ Below w.heap.size w w' := by
  by_cases e1 : n1 = nb
  · have e2 : n2 ≠ nb := h.resolve_left (fun q => q e1)
    have t1 : ((n1 : Int) != (nb : Int)) = false := by simp; omega
    have t2 : ((n2 : Int) != (nb : Int)) = true := by simp; omega
    clear h e1 e2
    go_enter Tryz.func48, Tryz.ntmps48
    go_wp2
    go_ret
    exact ⟨rfl, (Below.refl _ _).alloc (Nat.le_refl _) _⟩
  · have t1 : ((n1 : Int) != (nb : Int)) = true := by simp; omega
    clear h e1
    go_enter Tryz.func48, Tryz.ntmps48
    go_wp2
    go_ret
    exact ⟨rfl, (Below.refl _ _).alloc (Nat.le_refl _) _⟩

set_option maxRecDepth 100000 in
set_option maxHeartbeats 2000000 in
theorem openable_bad (nb np sz : Nat) (hn : nb < 129) (f : Nat → Bool) (lv : Nat → Int) (fb fo c1 lb lo c2 : Nat) (w : World)
    (hf : ∀ j, j < nb → w.cell? ⟨fb, fo + j, none⟩ = some (.bool (f j))) (hl : ∀ j, j < nb → w.cell? ⟨lb, lo + j, none⟩ = some (.int .i64 (lv j)))
    (q : Nat) (hq : q < nb) (hbad : okB np (f q) (lv q) = false) (hok : ∀ j, j < q → okB np (f j) (lv j) = true) :
    Calls Tryz.prog 48 #[.agg #[.int .i64 nb, .int .i64 np, .int .i64 sz], .slice (some ⟨fb, fo, none⟩) nb c1, .slice (some ⟨lb, lo, none⟩) nb c2] w fun e w' => e = .returned (.bool false) ∧ Below w.heap.size w w' := by
  have HF := Lib.hid hf
  have HL := Lib.hid hl
  have HB := Lib.hid hbad
  have HO := Lib.hid hok
  clear hf hl hbad hok
  go_enter Tryz.func48, Tryz.ntmps48
  go_wp2_with fail
  go_loopw [23] (fun i wr => ∃ k : Nat, k ≤ q ∧ i = .int .i64 k ∧ wr = w.alloc (.cells #[.int .i64 nb, .int .i64 np, .int .i64 sz] 23)) (fun i _ => nb - (intOf i).toNat)
  case atStart => exact ⟨0, by omega, rfl, rfl⟩
  case round =>
    obtain ⟨k, hk, rfl, rfl⟩ := hrel
    have hlt : k < nb := by omega
    have kl : (k : Int) < (nb : Int) := by omega
    have d0 := cell_alloc (HF.out k hlt) (.cells #[.int .i64 nb, .int .i64 np, .int .i64 sz] 23)
    have d1 := cell_alloc (HL.out k hlt) (.cells #[.int .i64 nb, .int .i64 np, .int .i64 sz] 23)
    by_cases hkq : k = q
    · subst hkq
      have hb := HB.out
      generalize f k = fk at d0 hb
      generalize lv k = x at d1 hb
      unfold okB at hb
      by_cases g0 : x < 0
      · have t0 : decide (x < 0) = true := decide_eq_true g0
        clear hb
        go_wp2
        go_ret
        exact ⟨rfl, (Below.refl _ _).alloc (Nat.le_refl _) _⟩
      have t0 : decide (x < 0) = false := decide_eq_false g0
      by_cases g1 : (np : Int) < x
      · have t1 : decide ((np : Int) < x) = true := decide_eq_true g1
        clear hb
        go_wp2
        go_ret
        exact ⟨rfl, (Below.refl _ _).alloc (Nat.le_refl _) _⟩
      have t1 : decide ((np : Int) < x) = false := decide_eq_false g1
      rw [decide_eq_true (show 0 ≤ x by omega), decide_eq_true (show x ≤ (np : Int) by omega)] at hb
      have hb2 : fk = true ∧ decide (0 < x) = true := by simpa using hb
      obtain ⟨rfl, t2⟩ := hb2
      clear hb
      go_wp2
      go_ret
      exact ⟨rfl, (Below.refl _ _).alloc (Nat.le_refl _) _⟩
    · have ho := HO.out k (by omega)
      generalize f k = fk at d0 ho
      generalize lv k = x at d1 ho
      unfold okB at ho
      have ho2 : (0 ≤ x ∧ x ≤ (np : Int)) ∧ (fk = true → ¬ 0 < x) := by
        cases fk
        · simpa using ho
        · simpa using ho
      obtain ⟨⟨h0, h1⟩, h2⟩ := ho2
      have t0 : decide (x < 0) = false := decide_eq_false (by omega)
      have t1 : decide ((np : Int) < x) = false := decide_eq_false (by omega)
      clear ho
      cases fk
      · clear h2
        go_wp2
        go_roundw
        case rel => exact ⟨k + 1, by omega, by go_num, trivial⟩
        case measure => simp [intOf]; omega
      · have t2 : decide (0 < x) = false := decide_eq_false (h2 rfl)
        clear h2
        go_wp2
        go_roundw
        case rel => exact ⟨k + 1, by omega, by go_num, trivial⟩
        case measure => simp [intOf]; omega

set_option maxRecDepth 100000 in
set_option maxHeartbeats 1000000 in
theorem bopen_down {w : World} {X : Nat → Prop} {o : Own} {c : Ch} (hc : ChAt w X o c) (hu : c.up = false) (fa la : Option Addr) (n1 c1 n2 c2 : Nat) (r b : Int) :
    Calls Tryz.prog 18 #[o.p, .slice fa n1 c1, .slice la n2 c2, .int .i64 r, .int .i64 b] w fun e w' => e = .returned (.tuple #[.pointer none, .int .i64 4]) ∧ w = w' := by
  have HU := Lib.hid (up_any hc)
  rw [hu] at HU
  clear hc hu
  unfold Own.p at *
  go_enter Tryz.func18, Tryz.ntmps18
  go_wp2_with fail
  refine HU.out.mono ?_
  rintro e w' ⟨rfl, rfl⟩
  go_wp2
  go_ret2
  exact ⟨rfl, rfl⟩

set_option maxRecDepth 100000 in
set_option maxHeartbeats 1000000 in
/-- an argument that is refused: the blocks, the reserve, how many are bad -/
theorem bopen_arg {w : World} {X : Nat → Prop} {o : Own} {c : Ch} (hc : ChAt w X o c) (hu : c.up = true) (fa la : Option Addr) (n1 c1 n2 c2 : Nat) (r b : Int) (t : Bool)
    (hO : ∀ W, Below w.heap.size w W → Calls Tryz.prog 48 #[.agg #[.int .i64 c.nb, .int .i64 c.np, .int .i64 c.sz], .slice fa n1 c1, .slice la n2 c2] W fun e w' => e = .returned (.bool t) ∧ Below W.heap.size W w') (ht : t = false ∨ r < 0 ∨ b < 0) :
    Calls Tryz.prog 18 #[o.p, .slice fa n1 c1, .slice la n2 c2, .int .i64 r, .int .i64 b] w fun e w' => e = .returned (.tuple #[.pointer none, .int .i64 1]) ∧ Below w.heap.size w w' := by
  have HU := Lib.hid (up_any hc)
  have HGe := Lib.hid (geo_any hc)
  have HO := Lib.hid hO
  rw [hu] at HU
  clear hc hu hO
  unfold Own.p at *
  go_enter Tryz.func18, Tryz.ntmps18
  go_wp2_with fail
  refine HU.out.mono ?_
  rintro e w' ⟨rfl, rfl⟩
  go_wp2_with fail
  refine HGe.out.mono ?_
  rintro e w1 ⟨rfl, hb1⟩
  have HB1 := Lib.hid hb1
  clear hb1
  go_wp2_with fail
  refine (HO.out _ HB1.out).mono ?_
  rintro e w2 ⟨rfl, hb2⟩
  have HB2 := Lib.hid (HB1.out.trans (hb2.mono HB1.out.size))
  clear hb2
  cases t
  · clear ht
    go_wp2
    go_ret2
    exact ⟨rfl, HB2.out⟩
  · by_cases hr : r < 0
    · have t1 : decide (r < 0) = true := decide_eq_true hr
      clear ht
      go_wp2
      go_ret2
      exact ⟨rfl, HB2.out⟩
    · have t1 : decide (r < 0) = false := decide_eq_false hr
      have hb : b < 0 := by
        rcases ht with h | h | h
        · cases h
        · exact absurd h hr
        · exact h
      have t2 : decide (b < 0) = true := decide_eq_true hb
      clear ht
      go_wp2
      go_ret2
      exact ⟨rfl, HB2.out⟩
end Go.Proofs.YtjjggmopkfkpaaaGreat

/-
  The fixed calls that each statement on managers ends with. Nothing of one statement alone stands here.
-/
namespace Gcm
open Go Go.RowKit
def b0 : Bk := ⟨0, 0, 0, 0⟩
def l8 : List Bk := [b0, b0, b0, b0, b0, b0, b0, b0]
def l8' : List Bk := [⟨1, 1, 0, 1⟩, b0, b0, b0, b0, b0, b0, b0]
theorem l8_free : cnt 0 l8 8 = 8 := by kernel_rfl
theorem l8_room : rmk 4 l8 8 = 32 := by kernel_rfl
theorem l8_next : nxt l8 4 (decide ((4 : Int) ≤ 32)) = (3, 0) := by kernel_rfl
theorem l8_ob : ob (fun _ => 0) l8 8 = ((0 : Nat) : Int) := by kernel_rfl
theorem l8_set : l8.set 0 ⟨1, 1, 0, 1⟩ = l8' := rfl
theorem l8'_free : cnt 0 l8' 8 = 7 := by kernel_rfl
theorem l8'_room : rmk 4 l8' 8 = 31 := by kernel_rfl
theorem l8'_bad : cnt 4 l8' 8 = 0 := by kernel_rfl
theorem l8_rows : rows (fun _ => false) (fun _ => true) (fun _ => 0) 8 = l8 := rfl
theorem l8_apart : decide (4 < wrap64 (greatest l8 - least l8)) = false := by kernel_rfl
end Gcm
namespace Go.Proofs.YtjjggmopkfkpaaaGreat
open Go.RowKit Crcm Gcm Go.ChangeShapes

theorem l8_wk : wk (fun _ => 0) l8 8 = l8 := by kernel_rfl
theorem k0_wear : k0.wear = fun _ => 0 := rfl
theorem k0_bad : k0.bad = fun _ => false := by kernel_rfl
theorem l8_no : ∀ j, j < 8 → (l8[j]!.st == 1) = false := by decide
theorem frlv8 {w : World} {fb lb : Nat} (hf : Blk w fb 4 #[.bool true, .bool true, .bool true, .bool true, .bool true, .bool true, .bool true, .bool true]) (hl : Blk w lb 3 (madeCells #[.int .i64 0] 8)) : FrLv w 8 4 (fun _ => true) (fun _ => 0) fb 0 lb 0 := by
  refine ⟨fun j hj => ?_, fun j hj => ?_, fun j hj => ⟨by omega, by omega, fun _ => rfl⟩⟩
  · rw [hf.cell]
    obtain rfl | rfl | rfl | rfl | rfl | rfl | rfl | rfl : j = 0 ∨ j = 1 ∨ j = 2 ∨ j = 3 ∨ j = 4 ∨ j = 5 ∨ j = 6 ∨ j = 7 := by omega
    all_goals rfl
  · rw [hl.cell, Nat.zero_add]
    exact made_get hj

theorem calls_int {f : FuncId} {args : Array Value} {w : World} {x y : Int} (h : Calls Tryz.prog f args w fun e w' => e = .returned (.int .i64 x) ∧ Below w.heap.size w w') (e : x = y) : Calls Tryz.prog f args w fun e w' => e = .returned (.int .i64 y) ∧ Below w.heap.size w w' := e ▸ h

theorem bopen8 {w : World} {o : Own} {X : Nat → Prop} (hC : ChAt w X o k0) {fb lb : Nat} (h : FrLv w 8 4 (fun _ => true) (fun _ => 0) fb 0 lb 0) :
    Calls Tryz.prog 18 #[o.p, .slice (some ⟨fb, 0, none⟩) 8 8, .slice (some ⟨lb, 0, none⟩) 8 8, .int .i64 1, .int .i64 0] w fun e w' => ∃ M g cap, e = .returned (.tuple #[.pointer (some ⟨M, 0, none⟩), .int .i64 0]) ∧ MgAt w' M ⟨o.p, g, cap, l8, 1, 0, false⟩ ∧ w.heap.size ≤ M ∧ w.heap.size ≤ g ∧ Below w.heap.size w w' := by
  have hO := bopen_yes hC rfl (fun _ => true) (fun _ => 0) fb 0 8 lb 0 8 h (fun k _ => by show I64 0; unfold I64; omega) 1 0 (by omega) (by omega)
  have e1 : rows k0.bad (fun _ => true) (fun _ => 0) k0.nb = l8 := by rw [k0_bad]; rfl
  have e2 : wk k0.wear l8 k0.nb = l8 := by rw [k0_wear]; exact l8_wk
  refine hO.mono ?_
  rintro e w' ⟨M, ⟨cp, g, cap, l, r, b, ap⟩, he, hm, ⟨h3, h4, h5, h6⟩, h7, hM, hg, hb⟩
  rw [e1, e2, l8_apart] at h7
  rw [e1] at h4
  dsimp only at h3 h4 h5 h6 h7 hg
  subst h3 h4 h5 h6 h7
  exact ⟨M, g, cap, he, hm, hM, hg, hb⟩

set_option maxRecDepth 100000 in
set_option maxHeartbeats 4000000 in
theorem knownB_any (w : World) : Calls Tryz.prog 5 #[] w fun e w' => e = .returned (.bool true) ∧ Below w.heap.size w w' := by
  obtain ⟨i8, hi8, hy0, hy1, hy2⟩ := info_parts Tryz.info8
  obtain ⟨i0, hi, hz0, hz1, hz2⟩ := info_parts Tryz.infoInt
  have HNew := Lib.hid (new_any 8 4 64 w gd8 [] none 0 0 Ri.nil rfl)
  unfold geoV at HNew
  go_enter Tryz.func5, Tryz.ntmps5
  go_wp2_with fail
  refine HNew.out.mono ?_
  rintro r w1 ⟨hB, ⟨-, o, rfl, hC, hF⟩ | ⟨⟨x, hx, -⟩, -⟩⟩
  · have HC := Lib.hid hC
    have HB := Lib.hid hB
    have HF := Lib.hid hF
    clear hC hB hF HNew
    go_wp2_with (at_make; refine wpList_make_blk _ rfl _ _ 24 rfl 3 i0 (.int .i64 0) 1 Tryz.underlying24 hi hz0 hz1 .i64 .i64 _ _ 8 rfl rfl rfl rfl (by rw [hz2]; omega) (by unfold maxLen; omega) ?_)
    intro w2 hBk hB2 hS2
    have bF := Lib.hid ((Blk.new w1 4 #[.bool true, .bool true, .bool true, .bool true, .bool true, .bool true, .bool true, .bool true]).below hB2.out (by simp))
    have b12 := Lib.hid (((Below.refl w1.heap.size w1).alloc (Nat.le_refl _) (.cells #[.bool true, .bool true, .bool true, .bool true, .bool true, .bool true, .bool true, .bool true] 4)).trans (hB2.out.mono (by simp)))
    have C2 := Lib.hid (HC.out.below b12.out)
    have B2 := Lib.hid (HB.out.trans (b12.out.mono HB.out.size))
    have hO := bopen8 (o := o) C2.out (frlv8 (fb := w1.heap.size) (lb := w1.heap.size + 1) bF.out (by have := hBk.out; simpa using this))
    have HO := Lib.hid hO
    clear hO hBk hB2 hS2 HC bF b12 hi hz0 hz1 hz2
    go_wp2_with fail
    refine HO.out.mono ?_
    rintro r w3 ⟨M, g, cap, rfl, hm, hM, hg, hb3⟩
    have HX : Hid (∀ b, (o.F 8 b ∨ b = M ∨ b = g) → w.heap.size ≤ b ∧ b < w3.heap.size) := Lib.hid (fun b hb => by
      have s2 := B2.out.size
      have s3 := hb3.size
      rcases hb with h | rfl | rfl
      · exact ⟨HF.out b h, Nat.lt_of_lt_of_le (C2.out.old b h) s3⟩
      · exact ⟨by omega, hm.blk.lt⟩
      · exact ⟨by omega, hm.own.lt⟩)
    have C3 : Hid (ChAt w3 (fun b => o.F 8 b ∨ b = M ∨ b = g) o k0) := Lib.hid (C2.out.widen hb3 (fun b hb => by
      rcases hb with h | rfl | rfl
      · exact .inl h
      · exact .inr hM
      · exact .inr hg) (fun b hb => (HX.out b hb).2) (fun b hb => .inl hb))
    have HoM : Hid (¬ o.F 8 M) := Lib.hid (fun h => by have := C2.out.old M h; omega)
    have Hog : Hid (¬ o.F 8 g) := Lib.hid (fun h => by have := C2.out.old g h; omega)
    have M3 := Lib.hid hm
    have B3 := Lib.hid (B2.out.trans (hb3.mono B2.out.size))
    clear hm hM hg hb3 HO C2
    have Fr := Lib.hid (calls_int (bfree_any M3.out) l8_free)
    have Rm := Lib.hid (fun W (hb : Below w3.heap.size w3 W) => calls_int (broom_any (M3.out.below hb) (C3.out.below hb) rfl) l8_room)
    have Nx := Lib.hid (fun W (hb : Below w3.heap.size w3 W) => bnext_any (M3.out.below hb) (C3.out.below hb) rfl rfl rfl (fun k _ => by show I64 0; unfold I64; omega))
    have enx : nxt (wk k0.wear l8 k0.nb) k0.np (decide ((k0.np : Int) ≤ rmk k0.np l8 l8.length)) = (3, 0) := by
      rw [k0_wear, show wk (fun _ => 0) l8 k0.nb = l8 from l8_wk, show rmk k0.np l8 l8.length = 32 from l8_room]
      exact l8_next
    go_wp2_with fail
    refine Fr.out.mono ?_
    rintro r w4 ⟨rfl, hb4⟩
    have R4 := Lib.hid (Rm.out w4 hb4)
    have D4 := Lib.hid hb4
    clear hb4 Fr Rm
    go_wp2_with fail
    refine R4.out.mono ?_
    rintro r w5 ⟨rfl, hb5⟩
    have D5 := Lib.hid (D4.out.trans (hb5.mono D4.out.size))
    have N5 := Lib.hid (Nx.out w5 D5.out)
    rw [enx] at N5
    unfold av at N5
    clear hb5 R4 Nx enx
    go_wp2_with fail
    refine N5.out.mono ?_
    rintro r w6 ⟨rfl, hb6⟩
    have D6 := Lib.hid (D5.out.trans (hb6.mono D5.out.size))
    clear hb6 N5
    go_wp2_with (at_make; refine wpList_make_blk _ rfl _ _ 40 rfl 5 i8 (.int .u8 0) 1 Tryz.underlying40 hi8 hy0 hy1 .i64 .i64 _ _ 96 rfl rfl rfl rfl (by rw [hy2]; omega) (by unfold maxLen; omega) ?_)
    intro w7 hBk7 hB7 hS7
    have b67 := Lib.hid (((Below.refl w6.heap.size w6).alloc (Nat.le_refl _) (.cells #[.int .i64 3, .int .i64 0] 59)).trans (hB7.out.mono (by simp)))
    have D7 := Lib.hid (D6.out.trans (b67.out.mono D6.out.size))
    have bA := Lib.hid ((Blk.new w6 59 #[.int .i64 3, .int .i64 0]).below hB7.out (by simp))
    have hsz7 : (w6.alloc (.cells #[.int .i64 3, .int .i64 0] 59)).heap.size = w6.heap.size + 1 := by simp
    have RB7 : Hid (RB w7 (w6.heap.size + 1) (List.replicate 96 0)) := Lib.hid (by
      have h := hBk7.out
      have e : madeCells #[Value.int .u8 0] 96 = ((List.replicate 96 (0 : Int)).map (Value.int .u8)).toArray := by
        apply Array.toList_inj.1
        rw [toList_madeCells_one, List.map_replicate]
      rw [e] at h
      exact h)
    have s36 := D6.out.size
    have hrx : RwX w7 (fun b => o.F 8 b ∨ b = M ∨ b = g) (some ⟨w6.heap.size + 1, 0, none⟩) (List.replicate 96 0) := ⟨RB7.out.rw (fun y hy => by rw [(List.mem_replicate.1 hy).2]; unfold U8; omega) (by rw [List.length_replicate]; unfold maxLen; omega), fun b off s e _ h => by
      injection e with e
      injection e with e1 e2 e3
      subst e1
      have := (HX.out _ h).2
      omega⟩
    have P7 := Lib.hid (bprogram_new (M3.out.below D7.out) (C3.out.below D7.out) rfl rfl rfl (.inr (.inr rfl)) HoM.out Hog.out l8_no 0 l8_ob k0_0 k0_k (by rw [one_wrap]; show (1 : Int) ≠ ((4 : Nat) : Int); decide) (some ⟨w6.heap.size + 1, 0, none⟩) 96 96 (List.replicate 96 0) hrx (List.length_replicate ..) rfl)
    have hnX : Hid (¬ (o.F 8 w6.heap.size ∨ w6.heap.size = M ∨ w6.heap.size = g)) := Lib.hid (fun h => by have := (HX.out _ h).2; omega)
    clear hBk7 hB7 hS7 RB7 hrx hsz7 s36 hi8 hy0 hy1 hy2
    generalize List.replicate 96 (0 : Int) = l at P7
    go_wp2_with fail
    refine P7.out.mono ?_
    rintro r w8 ⟨rfl, hm8, hc8, hk8⟩
    have M8 : Hid (MgAt w8 M ⟨o.p, g, cap, l8', 1, 0, false⟩) := Lib.hid hm8
    have D8 := Lib.hid ((B3.out.trans (D7.out.mono B3.out.size)).trans (hk8.below (fun b hb => (HX.out b hb).1) (Nat.le_trans B3.out.size D7.out.size)))
    have bA8 := bA.out.kp hk8 hnX.out
    have a0 := bA8.cell 0
    have a1 := bA8.cell 1
    simp at a0 a1
    have Fr := Lib.hid (calls_int (bfree_any M8.out) l8'_free)
    have Rm := Lib.hid (fun W (hb : Below w8.heap.size w8 W) => calls_int (y := 31) (broom_any (M8.out.below hb) (hc8.below hb) rfl) (by rw [(prC_same k0 0 0 l).2]; exact l8'_room))
    have Lf := Lib.hid (fun W (hb : Below w8.heap.size w8 W) => bleft_same (M8.out.below hb) l8'_bad (by unfold I64; dsimp only; omega))
    dsimp only at Lf
    clear hm8 hc8 hk8 bA8 P7 bA
    go_wp2_with fail
    refine Fr.out.mono ?_
    rintro r w9 ⟨rfl, hb9⟩
    have R9 := Lib.hid (Rm.out w9 hb9)
    have E9 := Lib.hid hb9
    clear hb9 Rm Fr
    go_wp2_with fail
    refine R9.out.mono ?_
    rintro r w10 ⟨rfl, hb10⟩
    have E10 := Lib.hid (E9.out.trans (hb10.mono E9.out.size))
    have L10 := Lib.hid (Lf.out w10 E10.out)
    clear hb10 R9 Lf
    go_wp2_with fail
    refine L10.out.mono ?_
    rintro r w11 ⟨rfl, hb11⟩
    have E11 := Lib.hid (E10.out.trans (hb11.mono E10.out.size))
    clear hb11
    go_wp2
    go_ret
    exact ⟨rfl, D8.out.trans (E11.out.mono D8.out.size)⟩
  · cases hx
end Go.Proofs.YtjjggmopkfkpaaaGreat
