/-
  What the document's calls beside and Write answer.
-/
import Derived.Test.YtofdmfkncgaelaaTagWrite
namespace Tagm
open Crcm
/-- the bytes beside a payload -/
def bs (k p s e : Int) (z : List Int) : List Int := hd k p s e ++ le 4 (sm (z ++ hd k p s e)) ++ [0, 0, 0, 0]
theorem bs_length (k p s e : Int) (z : List Int) : (bs k p s e z).length = 32 := by simp [bs, hd_length, le_length]
theorem pg_bs (k p s e : Int) (z : List Int) : pg k p s e z = z ++ bs k p s e z := by simp [pg, bs]
theorem bs_U8 (k p s e : Int) (z : List Int) : ∀ b ∈ bs k p s e z, U8 b := by
  intro b hb
  unfold bs at hb
  rcases List.mem_append.1 hb with hb | hb
  · rcases List.mem_append.1 hb with hb | hb
    · exact hd_U8 _ _ _ _ b hb
    · exact le_U8 _ _ b hb
  · simp at hb; subst hb; unfold U8; omega
end Tagm
namespace Go.Proofs.Ytofdmfkncgaelaa
open Go.RowKit Crcm Tagm Go.ChangeShapes

theorem own_below {w w' : World} {base size n : Nat} {e : TypeId} {v : Value} {xs : List Value} (h : w.ownsRow base e size v n xs) (hb : Below w.heap.size w w') : w'.ownsRow base e size v n xs :=
  h.kept (row := none) ⟨hb.os, hb.tape, hb.output, hb.size, fun i hi _ => hb.block i hi⟩ (by cases v.ownBlock with | none => exact .inl rfl | some _ => exact .inr (by simp))

/-- a new row of four bytes is the call's own -/
theorem own_four (w : World) (base g : Nat) (a b c d : Int) (hg : g = w.heap.size) (hb : base ≤ g) :
    (w.alloc (.cells #[.int .u8 a, .int .u8 b, .int .u8 c, .int .u8 d] 5)).ownsRow base 5 1 (.slice (some ⟨g, 0, none⟩) 4 4) 4 ([a, b, c, d].map (Value.int .u8)) := by
  subst hg
  refine ⟨rfl, .inr ⟨w.heap.size, 4, _, rfl, hb, heap_alloc_new w _, Nat.le_refl _, by decide, rfl, rfl⟩⟩

theorem refsum_of {w : World} {a : Option Addr} {cap : Nat} {zs : List Int} (hr : Rw w a zs) :
    Calls Try.prog 82 #[.slice a zs.length cap] w fun e w' => e = .returned (.int .u32 (sm zs)) ∧ w = w' := refsum_any _ _ _ _ hr
theorem refmore_own {w : World} {base n : Nat} {v : Value} {y zs : List Int} (h : w.ownsRow base 5 1 v n (zs.map (Value.int .u8))) (hz : ∀ m ∈ zs, U8 m) :
    Calls Try.prog 81 #[.int .u32 (sm y), v] w fun e w' => e = .returned (.int .u32 (sm (y ++ zs))) ∧ w = w' := by
  obtain ⟨a, cap, rfl, hr, hl, -⟩ := Rw.of_own h hz
  have := refmore_len (s := sm y) (cap := cap) (sm_U32 y) hr hl
  rw [show mo (sm y) zs = sm (y ++ zs) from mo_cut 0 y zs] at this
  exact this

set_option maxRecDepth 100000 in
set_option maxHeartbeats 1000000 in
theorem beside_ok (k p s e : Int) (a : Option Addr) (cap : Nat) (z : List Int) (w : World) (h : Rt k p s e) (hz : Rw w a z) :
    Calls Try.prog 78 #[tg k p s e, .slice a z.length cap] w fun r w' => ∃ v, r = .returned v ∧
      w'.ownsRow (w.heap.size + 1) 5 1 v 32 ((bs k p s e z).map (Value.int .u8)) ∧ Below w.heap.size w w' := by
  obtain ⟨e1, e2, e3, e4⟩ := h.same
  have hpU : U64 p := by obtain ⟨_, ⟨a, b⟩, _, _⟩ := h; exact ⟨by omega, by omega⟩
  have hsU : U64 s := by obtain ⟨_, _, ⟨a, b⟩, _⟩ := h; exact ⟨by omega, by omega⟩
  have heU : U64 e := by obtain ⟨_, _, _, ⟨a, b⟩⟩ := h; exact ⟨by omega, by omega⟩
  have hk : 0 ≤ k ∧ k < 256 := by obtain ⟨a, _⟩ := h; omega
  have hp0 : IntKind.u64.wrap p = p := by obtain ⟨a, b⟩ := hpU; rw [IntKind.wrap_u64]; omega
  have HP := Lib.hid hp0
  have HK := Lib.hid e1
  obtain ⟨hk0, hk1⟩ := hk
  have HB4 := Lib.hid (fun w x hx => big_any x 4 w hx (by omega))
  have HB8 := Lib.hid (fun w x hx => big_any x 8 w hx (by omega))
  have hL4 := Lib.hid (le_length 4)
  have hL8 := Lib.hid (le_length 8)
  have hT := TgAt.new w k p s e (0, 0)
  have hO := own_four (w.alloc (.cells #[.int .i64 k, .int .u32 p, .int .u64 s, .int .u64 e] 68)) (w.heap.size + 1) (w.heap.size + 1) 67 85 k 0 (by simp) (Nat.le_refl _)
  have hb0 : Below w.heap.size w ((w.alloc (.cells #[.int .i64 k, .int .u32 p, .int .u64 s, .int .u64 e] 68)).alloc (.cells #[.int .u8 67, .int .u8 85, .int .u8 k, .int .u8 0] 5)) :=
    ((Below.refl _ _).alloc (Nat.le_refl _) _).alloc (by simp) _
  have hT0 : TgAt ((w.alloc (.cells #[.int .i64 k, .int .u32 p, .int .u64 s, .int .u64 e] 68)).alloc (.cells #[.int .u8 67, .int .u8 85, .int .u8 k, .int .u8 0] 5)) w.heap.size k p s e :=
    hT.below ((Below.refl _ _).alloc (Nat.le_refl _) _) (by simp)
  obtain ⟨W0, hW0⟩ : ∃ W0, (w.alloc (.cells #[.int .i64 k, .int .u32 p, .int .u64 s, .int .u64 e] 68)).alloc (.cells #[.int .u8 67, .int .u8 85, .int .u8 k, .int .u8 0] 5) = W0 := ⟨_, rfl⟩
  have hs0 : w.heap.size + 1 ≤ W0.heap.size := by rw [← hW0]; simp
  rw [hW0] at hO hT0 hb0
  have HW0 := Lib.hid hW0
  have HO0 := Lib.hid hO
  have HT0 := Lib.hid hT0
  have HZ := Lib.hid hz
  have HBL0 := Lib.hid hb0
  clear e1 e2 e3 e4 h hp0 hz hT hO hT0 hb0 hW0
  unfold tg
  go_enter Try.func78, Try.ntmps78
  go_wp2_with fail
  rw [HW0.out, HP.out]
  refine (HB4.out _ p hpU).mono ?_
  rintro r w1 ⟨a1, cap1, rfl, hr1, hb1⟩
  have hs1 := Nat.le_trans hs0 hb1.size
  have hown1 := own_below HO0.out hb1
  have hr1' := hr1.src
  go_wp2_with (at_builtin; refine append_bytes rfl _ _ rfl (w.heap.size + 1) _ _ [67, 85, k, 0] rfl hown1 a1 4 cap1 (le 4 p) rfl (hL4.out p) hr1' (by omega) hs1 ?_)
  intro v2 w2 hown2 hb2
  have HO2 : Hid (w2.ownsRow (w.heap.size + 1) 5 1 v2 8 (([67, 85, k, 0] ++ le 4 p).map (Value.int .u8))) := Lib.hid (by simpa using hown2)
  have HB2 := Lib.hid (Below.trans (hb1.mono hs0) hb2)
  have hs2 : w.heap.size + 1 ≤ w2.heap.size := by have := hb2.size; omega
  obtain ⟨c0, c1, c2, c3⟩ := HT0.out.below HB2.out (by omega)
  clear hown1 hown2 hb1 hb2 hr1 hr1'
  go_wp2_with fail
  refine (HB8.out _ s hsU).mono ?_
  rintro r w3 ⟨a3, cap3, rfl, hr3, hb3⟩
  have hs3 := Nat.le_trans hs2 hb3.size
  have hown3 := own_below HO2.out hb3
  have hr3' := hr3.src
  go_wp2_with (at_builtin; refine append_bytes rfl _ _ rfl (w.heap.size + 1) _ _ ([67, 85, k, 0] ++ le 4 p) rfl hown3 a3 8 cap3 (le 8 s) rfl (hL8.out s) hr3' (by omega) hs3 ?_)
  intro v4 w4 hown4 hb4
  have HO4 : Hid (w4.ownsRow (w.heap.size + 1) 5 1 v4 16 (([67, 85, k, 0] ++ le 4 p ++ le 8 s).map (Value.int .u8))) := Lib.hid (by simpa using hown4)
  have HBL4 := Lib.hid (Below.trans HB2.out (Below.trans (hb3.mono hs2) hb4))
  have hs4 : w.heap.size + 1 ≤ w4.heap.size := by have := hb4.size; omega
  obtain ⟨d0, d1, d2, d3⟩ := HT0.out.below HBL4.out (by omega)
  clear hown3 hown4 hb3 hb4 hr3 hr3' HO2 HB2 c0 c1 c2 c3
  go_wp2_with fail
  refine (HB8.out _ e heU).mono ?_
  rintro r w5 ⟨a5, cap5, rfl, hr5, hb5⟩
  have hs5 := Nat.le_trans hs4 hb5.size
  have hown5 := own_below HO4.out hb5
  have hr5' := hr5.src
  go_wp2_with (at_builtin; refine append_bytes rfl _ _ rfl (w.heap.size + 1) _ _ ([67, 85, k, 0] ++ le 4 p ++ le 8 s) rfl hown5 a5 8 cap5 (le 8 e) rfl (hL8.out e) hr5' (by omega) hs5 ?_)
  intro v6 w6 hown6 hb6
  have e6 : [67, 85, k, 0] ++ le 4 p ++ le 8 s ++ le 8 e = hd k p s e := by simp [hd, HK.out]
  have HO6 : Hid (w6.ownsRow (w.heap.size + 1) 5 1 v6 24 ((hd k p s e).map (Value.int .u8))) := Lib.hid (by rw [← e6]; simpa using hown6)
  have HBL6 := Lib.hid (Below.trans HBL4.out (Below.trans (hb5.mono hs4) hb6))
  have hs6 : w.heap.size + 1 ≤ w6.heap.size := by have := hb6.size; omega
  have hz6 := HZ.out.below (HBL0.out.trans (HBL6.out.mono (by omega)))
  have HC6 := Lib.hid (refsum_of (cap := cap) hz6)
  have HM6 := Lib.hid (refmore_own (y := z) HO6.out (hd_U8 k p s e))
  have hS := sm_U32 (z ++ hd k p s e)
  have hSU : U64 (sm (z ++ hd k p s e)) := by obtain ⟨a, b⟩ := hS; exact ⟨a, by omega⟩
  have hSW : IntKind.u64.wrap (sm (z ++ hd k p s e)) = sm (z ++ hd k p s e) := by obtain ⟨a, b⟩ := hSU; rw [IntKind.wrap_u64]; omega
  have HSW := Lib.hid hSW
  clear hown5 hown6 hb5 hb6 hr5 hr5' HO4 HBL4 d0 d1 d2 d3 hSW hS e6 hz6
  go_wp2_with fail
  refine HC6.out.mono ?_
  rintro r w' ⟨rfl, rfl⟩
  go_wp2_with fail
  refine HM6.out.mono ?_
  rintro r w' ⟨rfl, rfl⟩
  clear HC6 HM6
  go_wp2_with fail
  rw [HSW.out]
  refine (HB4.out _ _ hSU).mono ?_
  rintro r w7 ⟨a7, cap7, rfl, hr7, hb7⟩
  have hs7 := Nat.le_trans hs6 hb7.size
  have hown7 := own_below HO6.out hb7
  have hr7' := hr7.src
  go_wp2_with (at_builtin; refine append_bytes rfl _ _ rfl (w.heap.size + 1) _ _ (hd k p s e) rfl hown7 a7 4 cap7 (le 4 (sm (z ++ hd k p s e))) rfl (hL4.out _) hr7' (by omega) hs7 ?_)
  intro v8 w8 hown8 hb8
  have HO8 : Hid (w8.ownsRow (w.heap.size + 1) 5 1 v8 28 ((hd k p s e ++ le 4 (sm (z ++ hd k p s e))).map (Value.int .u8))) := Lib.hid (by simpa using hown8)
  have HBL8 := Lib.hid (Below.trans HBL6.out (Below.trans (hb7.mono hs6) hb8))
  have hs8 : w.heap.size + 1 ≤ w8.heap.size := by have := hb8.size; omega
  have hS9 := Src.four w8 0 0 0 0 (0, 0)
  clear hown7 hown8 hb7 hb8 hr7 hr7' HO6 HBL6
  go_wp2_with (at_builtin; refine append_bytes rfl _ _ rfl (w.heap.size + 1) _ _ (hd k p s e ++ le 4 (sm (z ++ hd k p s e))) rfl (HO8.out.alloc _) (some ⟨w8.heap.size, 0, none⟩) 4 4 [0, 0, 0, 0] rfl rfl hS9 (by omega) (by simp; omega) ?_)
  intro v9 w9 hown9 hb9
  have HO9 : Hid (w9.ownsRow (w.heap.size + 1) 5 1 v9 32 ((bs k p s e z).map (Value.int .u8))) := Lib.hid (by unfold bs; simpa using hown9)
  have HBL9 := Lib.hid (HBL0.out.trans ((HBL8.out.mono (Nat.le_succ _)).trans (((Below.refl _ w8).alloc (by omega) (.cells #[.int .u8 0, .int .u8 0, .int .u8 0, .int .u8 0] 5)).trans (hb9.mono (Nat.le_succ _)))))
  clear hown9 hb9 HO8 HBL8
  go_wp2
  go_ret
  exact ⟨v9, rfl, HO9.out, HBL9.out⟩

end Go.Proofs.Ytofdmfkncgaelaa
