/-
  What the two calls Write answer (the program's and the document's): a page's bytes in new memory, or the first error.
-/
import Derived.Test.YtbfifppdcmimaaaGreatTagNum
namespace Go.Proofs.YtbfifppdcmimaaaGreat
open Go.RowKit Crcm Tagm Go.ChangeShapes

/-- a tag lies in a block -/
def TgAt (w : World) (g : Nat) (k p s e : Int) : Prop :=
  w.cell? ⟨g, 0, none⟩ = some (.int .i64 k) ∧ w.cell? ⟨g, 1, none⟩ = some (.int .u32 p) ∧ w.cell? ⟨g, 2, none⟩ = some (.int .u64 s) ∧ w.cell? ⟨g, 3, none⟩ = some (.int .u64 e)
theorem TgAt.new (w : World) (k p s e : Int) (m : Nat × Nat) : TgAt (w.alloc (.cells #[.int .i64 k, .int .u32 p, .int .u64 s, .int .u64 e] 61 m)) w.heap.size k p s e := by
  refine ⟨?_, ?_, ?_, ?_⟩ <;> (rw [cell_of_row _ _ _ _ _ _ (heap_alloc_new w _)]; rfl)
theorem TgAt.below {w w' : World} {g B : Nat} {k p s e : Int} (h : TgAt w g k p s e) (hb : Below B w w') (hg : g < B) : TgAt w' g k p s e :=
  ⟨(hb.cell (p := ⟨g, 0, none⟩) hg).trans h.1, (hb.cell (p := ⟨g, 1, none⟩) hg).trans h.2.1, (hb.cell (p := ⟨g, 2, none⟩) hg).trans h.2.2.1, (hb.cell (p := ⟨g, 3, none⟩) hg).trans h.2.2.2⟩

theorem Src.four (w : World) (a b c d : Int) (m : Nat × Nat) : Src (w.alloc (.cells #[.int .u8 a, .int .u8 b, .int .u8 c, .int .u8 d] 5 m)) (some ⟨w.heap.size, 0, none⟩) [a, b, c, d] := by
  refine .inr ⟨_, rfl, fun j hj => ?_⟩
  rw [show (⟨w.heap.size, 0, none⟩ : Addr).add j = ⟨w.heap.size, j, none⟩ by (unfold Addr.add; split <;> simp_all), cell_of_row _ _ _ _ _ _ (heap_alloc_new w _)]
  have hj : j < 4 := hj
  rcases (by omega : j = 0 ∨ j = 1 ∨ j = 2 ∨ j = 3) with rfl | rfl | rfl | rfl <;> rfl

theorem right_yes (k p s e : Int) (w : World) (h : Rt k p s e) : Calls Tryz.prog 73 #[tg k p s e] w fun r w' => r = .returned (.bool true) ∧ Below w.heap.size w w' := by
  have := tright_any k p s e w h.2.1.1
  rwa [decide_eq_true h] at this
theorem right_no (k p s e : Int) (w : World) (hp : 0 ≤ p) (h : ¬ Rt k p s e) : Calls Tryz.prog 73 #[tg k p s e] w fun r w' => r = .returned (.bool false) ∧ Below w.heap.size w w' := by
  have := tright_any k p s e w hp
  rwa [decide_eq_false h] at this
theorem sized_yes (n : Int) (w : World) (h : Sz n) : Calls Tryz.prog 50 #[.int .i64 n] w fun e w' => e = .returned (.bool true) ∧ w = w' := by
  have := sized_any n w
  rwa [decide_eq_true h] at this
theorem sized_no (n : Int) (w : World) (h : ¬ Sz n) : Calls Tryz.prog 50 #[.int .i64 n] w fun e w' => e = .returned (.bool false) ∧ w = w' := by
  have := sized_any n w
  rwa [decide_eq_false h] at this
theorem sum_own {w : World} {base n : Nat} {v : Value} {zs : List Int} (h : w.ownsRow base 5 1 v n (zs.map (Value.int .u8))) (hz : ∀ m ∈ zs, U8 m) :
    Calls Tryz.prog 75 #[v] w fun e w' => e = .returned (.int .u32 (sm zs)) ∧ w = w' := by
  obtain ⟨a, cap, rfl, hr, hl, -⟩ := Rw.of_own h hz
  exact sum_len hr hl

theorem write_no (k p s e : Int) (a : Option Addr) (cap : Nat) (z : List Int) (w : World) (hp : 0 ≤ p) (h : ¬ (Rt k p s e ∧ Sz z.length)) :
    Calls Tryz.prog 54 #[tg k p s e, .slice a z.length cap] w fun r w' => r = .returned (.tuple #[.slice none 0 0, .int .i64 1]) ∧ Below w.heap.size w w' := by
  by_cases hr : Rt k p s e
  · have HR := Lib.hid (fun w => right_yes k p s e w hr)
    have HS := Lib.hid (fun w => sized_no z.length w (fun g => h ⟨hr, g⟩))
    clear hr h hp
    unfold tg at *
    go_enter Tryz.func54, Tryz.ntmps54
    go_wp2_with fail
    refine (HR.out _).mono ?_
    rintro r w1 ⟨rfl, hb1⟩
    go_wp2_with fail
    refine (HS.out _).mono ?_
    rintro r w' ⟨rfl, rfl⟩
    go_wp2
    go_ret2
    exact ⟨rfl, ((Below.refl _ _).alloc (Nat.le_refl _) _).trans (hb1.mono (by simp))⟩
  · have HR := Lib.hid (fun w => right_no k p s e w hp hr)
    clear hr h hp
    unfold tg at *
    go_enter Tryz.func54, Tryz.ntmps54
    go_wp2_with fail
    refine (HR.out _).mono ?_
    rintro r w1 ⟨rfl, hb1⟩
    go_wp2
    go_ret2
    exact ⟨rfl, ((Below.refl _ _).alloc (Nat.le_refl _) _).trans (hb1.mono (by simp))⟩

set_option maxRecDepth 100000 in
set_option maxHeartbeats 1000000 in
theorem write_ok (k p s e : Int) (a : Option Addr) (cap : Nat) (z : List Int) (w : World) (h : Rt k p s e) (hs : Sz z.length) (hz : Rw w a z) :
    Calls Tryz.prog 54 #[tg k p s e, .slice a z.length cap] w fun r w' => ∃ v, r = .returned (.tuple #[v, .int .i64 0]) ∧
      w'.ownsRow (w.heap.size + 1) 5 1 v (z.length + 32) ((pg k p s e z).map (Value.int .u8)) ∧ Below w.heap.size w w' := by
  obtain ⟨i0, hi, hz0, hz1, hz2⟩ := info_parts Tryz.info8
  have HR := Lib.hid (fun w => right_yes k p s e w h)
  have HS := Lib.hid (fun w => sized_yes z.length w hs)
  have hlen : z.length ≤ 512 := by unfold Sz at hs; omega
  obtain ⟨e1, e2, e3, e4⟩ := h.same
  have hpU : U64 p := by obtain ⟨_, ⟨a, b⟩, _, _⟩ := h; exact ⟨by omega, by omega⟩
  have hsU : U64 s := by obtain ⟨_, _, ⟨a, b⟩, _⟩ := h; exact ⟨by omega, by omega⟩
  have heU : U64 e := by obtain ⟨_, _, _, ⟨a, b⟩⟩ := h; exact ⟨by omega, by omega⟩
  have hk : 0 ≤ k ∧ k < 256 := by obtain ⟨a, _⟩ := h; omega
  have hp0 : IntKind.u64.wrap p = p := by obtain ⟨a, b⟩ := hpU; rw [IntKind.wrap_u64]; omega
  have HP := Lib.hid hp0
  have HK := Lib.hid e1
  obtain ⟨hk0, hk1⟩ := hk
  clear e1 e2 e3 e4 hs h hp0
  unfold tg at *
  go_enter Tryz.func54, Tryz.ntmps54
  go_wp2_with fail
  refine (HR.out _).mono ?_
  rintro r w1 ⟨rfl, hb1⟩
  have hz1' := (hz.below ((Below.refl _ _).alloc (Nat.le_refl _) (.cells #[.int .i64 k, .int .u32 p, .int .u64 s, .int .u64 e] 61))).below hb1
  have hT1 := (TgAt.new w k p s e _).below hb1 (by simp)
  have hB1 : Below (w.heap.size + 1) w1 w1 := Below.refl _ _
  have hs1 := hb1.size
  simp at hs1
  go_wp2_with fail
  refine (HS.out _).mono ?_
  rintro r w' ⟨rfl, rfl⟩
  go_wp2_with (at_make; refine wpList_make_own _ rfl _ _ 23 rfl (w.heap.size + 1) 5 i0 (.int .u8 0) 1 Tryz.underlying23 hi hz0 hz1 _ _ _ (z.length + 32) rfl rfl ?c0 ?c1 ?c2 ?c3 ?_)
  case c0 => go_num
  case c1 => rw [hz2]; omega
  case c2 => unfold maxLen; omega
  case c3 => omega
  intro w2 hown2 hg2
  have hb2 : Below (w.heap.size + 1) w1 w2 := (Below.refl _ _).grown hg2 hs1 (fun g hg => by cases hg)
  have hz2' := hz1'.src.below ((Below.refl _ _).grown hg2 (Nat.le_refl _) (fun g hg => by cases hg))
  have hs2 := Nat.le_trans hs1 hg2.size
  clear hg2
  go_wp2_with (at_builtin; refine append_bytes rfl _ _ rfl (w.heap.size + 1) _ _ [] rfl hown2 a z.length cap z rfl rfl hz2' (by omega) hs2 ?_)
  intro v3 w3 hown3 hb3
  have hs3 : w.heap.size + 1 ≤ w3.heap.size := by have := hb3.size; omega
  have hT3 := (hT1.below hb2 (by omega)).below hb3 (by omega)
  obtain ⟨c0, c1, c2, c3⟩ := hT3
  have HO3 := Lib.hid hown3
  have HB3 := Lib.hid (hb2.trans hb3)
  have hS4 := Src.four w3 67 85 k 0 (0, 0)
  clear hown3 hown2 hz2' hz1' hb2 hb3
  go_wp2_with (at_builtin; refine append_bytes rfl _ _ rfl (w.heap.size + 1) _ _ z rfl (HO3.out.alloc _) (some ⟨w3.heap.size, 0, none⟩) 4 4 [67, 85, k, 0] rfl rfl hS4 (by omega) (by simp; omega) ?_)
  intro v4 w4 hown4 hb4
  have HO4 : Hid (w4.ownsRow (w.heap.size + 1) 5 1 v4 (z.length + 4) ((z ++ [67, 85, k, 0]).map (Value.int .u8))) := Lib.hid (by simpa using hown4)
  have HB4 := Lib.hid ((HB3.out.alloc hs3 _).trans hb4)
  have hs4 : w.heap.size + 1 ≤ w4.heap.size := by have := hb4.size; simp at this; omega
  obtain ⟨d0, d1, d2, d3⟩ := hT1.below HB4.out (by omega)
  clear hown4 hb4 hS4 HO3 HB3 c0 c1 c2 c3
  go_wp2_with fail
  rw [HP.out]
  refine (putn_any (w.heap.size + 1) _ _ _ p 4 _ hpU (by omega) (by omega) HO4.out hs4).mono ?_
  rintro r w5 ⟨v5, rfl, hown5, hb5⟩
  have HO5 : Hid (w5.ownsRow (w.heap.size + 1) 5 1 v5 (z.length + 4 + 4) ((z ++ [67, 85, k, 0] ++ le 4 p).map (Value.int .u8))) := Lib.hid hown5
  have HB5 := Lib.hid (HB4.out.trans hb5)
  have hs5 : w.heap.size + 1 ≤ w5.heap.size := by have := hb5.size; omega
  obtain ⟨f0, f1, f2, f3⟩ := hT1.below HB5.out (by omega)
  clear hown5 hb5 HO4 HB4 d0 d1 d2 d3
  go_wp2_with fail
  refine (putn_any (w.heap.size + 1) _ _ _ s 8 _ hsU (by omega) (by omega) HO5.out hs5).mono ?_
  rintro r w6 ⟨v6, rfl, hown6, hb6⟩
  have HO6 : Hid (w6.ownsRow (w.heap.size + 1) 5 1 v6 (z.length + 4 + 4 + 8) ((z ++ [67, 85, k, 0] ++ le 4 p ++ le 8 s).map (Value.int .u8))) := Lib.hid hown6
  have HB6 := Lib.hid (HB5.out.trans hb6)
  have hs6 : w.heap.size + 1 ≤ w6.heap.size := by have := hb6.size; omega
  obtain ⟨g0, g1, g2, g3⟩ := hT1.below HB6.out (by omega)
  clear hown6 hb6 HO5 HB5 f0 f1 f2 f3
  go_wp2_with fail
  refine (putn_any (w.heap.size + 1) _ _ _ e 8 _ heU (by omega) (by omega) HO6.out hs6).mono ?_
  rintro r w7 ⟨v7, rfl, hown7, hb7⟩
  have e7 : z ++ [67, 85, k, 0] ++ le 4 p ++ le 8 s ++ le 8 e = z ++ hd k p s e := by simp [hd, HK.out]
  rw [e7] at hown7
  have HO7 : Hid (w7.ownsRow (w.heap.size + 1) 5 1 v7 (z.length + 4 + 4 + 8 + 8) ((z ++ hd k p s e).map (Value.int .u8))) := Lib.hid hown7
  have HB7 := Lib.hid (HB6.out.trans hb7)
  have hs7 : w.heap.size + 1 ≤ w7.heap.size := by have := hb7.size; omega
  have hu7 : ∀ b ∈ z ++ hd k p s e, U8 b := fun b hb => by
    rcases List.mem_append.1 hb with h | h
    · exact hz.1 b h
    · exact hd_U8 _ _ _ _ b h
  have HC7 := Lib.hid (sum_own hown7 hu7)
  have hS := sm_U32 (z ++ hd k p s e)
  have hSU : U64 (sm (z ++ hd k p s e)) := by obtain ⟨a, b⟩ := hS; exact ⟨a, by omega⟩
  have hSW : IntKind.u64.wrap (sm (z ++ hd k p s e)) = sm (z ++ hd k p s e) := by obtain ⟨a, b⟩ := hSU; rw [IntKind.wrap_u64]; omega
  have HSW := Lib.hid hSW
  clear hown7 hb7 HO6 HB6 g0 g1 g2 g3 e7 hSW hS hu7
  go_wp2_with fail
  refine HC7.out.mono ?_
  rintro r w' ⟨rfl, rfl⟩
  go_wp2_with fail
  rw [HSW.out]
  refine (putn_any (w.heap.size + 1) _ _ _ (sm (z ++ hd k p s e)) 4 _ hSU (by omega) (by omega) HO7.out hs7).mono ?_
  rintro r w8 ⟨v8, rfl, hown8, hb8⟩
  have HO8 : Hid (w8.ownsRow (w.heap.size + 1) 5 1 v8 (z.length + 4 + 4 + 8 + 8 + 4) ((z ++ hd k p s e ++ le 4 (sm (z ++ hd k p s e))).map (Value.int .u8))) := Lib.hid hown8
  have HB8 := Lib.hid (HB7.out.trans hb8)
  have hs8 : w.heap.size + 1 ≤ w8.heap.size := by have := hb8.size; omega
  clear hown8 hb8 HO7 HB7 HC7
  go_wp2_with fail
  refine (putn_any (w.heap.size + 1) _ _ _ 0 4 _ ⟨by decide, by decide⟩ (by omega) (by omega) HO8.out hs8).mono ?_
  rintro r w9 ⟨v9, rfl, hown9, hb9⟩
  have HO9 : Hid (w9.ownsRow (w.heap.size + 1) 5 1 v9 (z.length + 4 + 4 + 8 + 8 + 4 + 4) ((pg k p s e z).map (Value.int .u8))) := Lib.hid hown9
  have HB9 := Lib.hid (HB8.out.trans hb9)
  clear hown9 hb9 HO8 HB8
  go_wp2
  go_ret2
  exact ⟨v9, rfl, HO9.out, ((Below.refl _ _).alloc (Nat.le_refl _) _).trans ((hb1.mono (by simp)).trans (HB9.out.mono (by omega)))⟩

end Go.Proofs.YtbfifppdcmimaaaGreat
