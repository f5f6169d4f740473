/-
  An entry's slot: the document's answer. Nothing of one statement alone stands here.
-/
import Derived.Test.YtbgimehbencdgaaDirWrite
namespace Go.Proofs.Ytbgimehbencdgaa
open Go.RowKit Crcm Tagm Go.ChangeShapes

theorem own_form8 {w : World} {base k : Nat} {v : Value} {xs : List Value} {e : TypeId} (h : w.ownsRow base e 1 v k xs) : ∃ a c, v = .slice a k c := by
  rcases h.2 with ⟨rfl, rfl⟩ | ⟨g, cap, cur, rfl, _⟩
  · exact ⟨none, 0, rfl⟩
  · exact ⟨_, cap, rfl⟩
theorem rw_one8 (w : World) (x : Int) (hx : U8 x) : Rw (w.alloc (.cells #[.int .u8 x] 5)) (some ⟨w.heap.size, 0, none⟩) [x] := by
  refine ⟨fun n hn => by rw [List.mem_singleton.1 hn]; exact hx, by simp [maxLen], .inr ⟨_, 0, rfl, fun j hj => ?_⟩⟩
  simp at hj
  subst hj
  exact (Blk.new w 5 #[.int .u8 x]).cell 0
theorem nb_at (s : ByteArray) (k : Nat) (h : k < s.size) : (nb s).take (k + 1) = (nb s).take k ++ [(s[k].toNat : Int)] := by
  have hl : k < (nb s).length := by rw [nb_length]; exact h
  rw [List.take_succ_eq_append_getElem hl]
  have e : (nb s)[k]'hl = (s[k].toNat : Int) := by
    simp only [nb, List.getElem_map]
    rfl
  rw [e]

set_option maxRecDepth 100000 in
set_option maxHeartbeats 1000000 in
theorem rwrite_no (i : Int) (s : ByteArray) (w : World) (h : wE i s ≠ 0) :
    Calls Try.prog 11 #[ev i s] w fun e w' => e = .returned (.tuple #[.slice none 0 0, .int .i64 (wE i s)]) ∧ Below w.heap.size w w' := by
  have HN := Lib.hid (fun w => refName_any s w)
  unfold ev
  by_cases hm : Mi i
  · rw [wE_name hm] at h ⊢
    have hne : nmE s = 31 := by unfold nmE at h ⊢; split at h <;> simp_all
    rw [hne] at HN ⊢
    obtain ⟨i0, i1⟩ := hm
    have t1 : ¬ i < 1 := by omega
    have t2 : ¬ 65535 < i := by omega
    clear h hne
    go_enter Try.func11, Try.ntmps11
    go_wp2_with fail
    refine (HN.out _).mono ?_
    rintro e w' ⟨rfl, rfl⟩
    go_wp2
    go_ret2
    exact ⟨rfl, (Below.refl _ _).alloc (Nat.le_refl _) _⟩
  · rw [wE_arg hm]
    have h1 : i < 1 ∨ (1 ≤ i ∧ 65535 < i) := by unfold Mi at hm; omega
    clear hm h
    rcases h1 with h1 | ⟨h1, h2⟩
    all_goals
      go_enter Try.func11, Try.ntmps11
      go_wp2
      go_ret2
      exact ⟨rfl, (Below.refl _ _).alloc (Nat.le_refl _) _⟩

set_option maxRecDepth 100000 in
set_option maxHeartbeats 4000000 in
theorem rwrite_yes (i : Int) (s : ByteArray) (w : World) (hm : Mi i) (hn : Nm s) :
    Calls Try.prog 11 #[ev i s] w fun e w' => ∃ A cc, e = .returned (.tuple #[.slice A 16 cc, .int .i64 0]) ∧ Rw w' A (sb i s) ∧ Below w.heap.size w w' := by
  have HN := Lib.hid (fun w => refName_any s w)
  rw [nm_yes hn] at HN
  unfold ev
  obtain ⟨i0, i1⟩ := hm
  obtain ⟨⟨s0, s1⟩, -⟩ := hn
  have hU : ∀ n ∈ sb i s, U8 n := fun n hn => by
    unfold sb at hn
    rcases List.mem_cons.1 hn with rfl | hn
    · unfold U8; omega
    rcases List.mem_cons.1 hn with rfl | hn
    · unfold U8; omega
    rcases List.mem_cons.1 hn with rfl | hn
    · unfold U8; omega
    rcases List.mem_append.1 hn with hn | hn
    · exact nb_U8 s n hn
    · rw [(List.mem_replicate.1 hn).2]; unfold U8; omega
  have HU := Lib.hid hU
  have t1 : ¬ i < 1 := by omega
  have t2 : ¬ 65535 < i := by omega
  have hmod : i % 256 % 256 = i % 256 := by omega
  clear hU
  have B0 : Hid (Below w.heap.size w ((w.alloc (.cells #[.int .i64 i, .string s] 23)).alloc (.cells #[.int .u8 (i % 256), .int .u8 (i / 256), .int .u8 s.size] 5))) := Lib.hid (((Below.refl _ _).alloc (Nat.le_refl _) _).alloc (by simp) _)
  have K0 : Hid (Blk ((w.alloc (.cells #[.int .i64 i, .string s] 23)).alloc (.cells #[.int .u8 (i % 256), .int .u8 (i / 256), .int .u8 s.size] 5)) w.heap.size 23 #[.int .i64 i, .string s]) := Lib.hid ((Blk.new w _ _).alloc _)
  have O0 : Hid (((w.alloc (.cells #[.int .i64 i, .string s] 23)).alloc (.cells #[.int .u8 (i % 256), .int .u8 (i / 256), .int .u8 s.size] 5)).ownsRow (w.heap.size + 1) 5 1 (.slice (some ⟨w.heap.size + 1, 0, none⟩) 3 3) 3 ([i % 256, i / 256, (s.size : Int)].map (Value.int .u8))) := Lib.hid (by
    have := World.ownsRow_lit (w.alloc (.cells #[.int .i64 i, .string s] 23)) #[.int .u8 (i % 256), .int .u8 (i / 256), .int .u8 s.size] 3 (base := w.heap.size + 1) (e := 5) (size := 1) (by simp) (by unfold maxLen; simp) rfl
    simpa using this)
  go_enter Try.func11, Try.ntmps11
  go_wp2_with fail
  refine (HN.out _).mono ?_
  rintro e w' ⟨rfl, rfl⟩
  obtain ⟨W0, hW0⟩ : ∃ W, ((w.alloc (.cells #[.int .i64 i, .string s] 23)).alloc (.cells #[.int .u8 (i % 256), .int .u8 (i / 256), .int .u8 s.size] 5)) = W := ⟨_, rfl⟩
  rw [hW0] at B0 K0 O0
  go_wp2_with fail
  clear hW0
  go_loopw [4, 5] (fun v j wr => ∃ k : Nat, k ≤ s.size ∧ j = .int .i64 k ∧ Hid (wr.ownsRow (w.heap.size + 1) 5 1 v (3 + k) ((i % 256 :: i / 256 :: (s.size : Int) :: (nb s).take k).map (Value.int .u8))) ∧ Hid (Below (w.heap.size + 1) W0 wr)) (fun _ j _ => s.size - (intOf j).toNat)
  case atStart => exact ⟨0, by omega, rfl, O0, Lib.hid (Below.refl _ _)⟩
  case round =>
    obtain ⟨k, hk, rfl, O, B⟩ := hrel
    have hKb := (B.out.block w.heap.size (Nat.lt_succ_self _)).trans K0.out
    have c1 := cell_of_row wr w.heap.size 1 _ _ _ hKb
    simp only [List.getElem?_toArray, List.getElem?_cons_zero, List.getElem?_cons_succ] at c1
    have hBz : w.heap.size + 1 ≤ wr.heap.size := Nat.le_trans (by have := K0.out.lt; omega) B.out.size
    by_cases hlt : k < s.size
    · have kl : (k : Int) < (s.size : Int) := by omega
      have hx : U8 (s[k].toNat : Int) := by have := s[k].toNat_lt; unfold U8; omega
      have hO := O.out
      have HS := Lib.hid (nb_at s k hlt)
      have c1' : (wr.alloc (.cells #[.int .u8 (s[k].toNat : Int)] 5)).cell? ⟨w.heap.size, 1, none⟩ = some (.string s) := (((Below.refl (w.heap.size + 1) wr).alloc hBz _).cell (p := ⟨w.heap.size, 1, none⟩) (Nat.lt_succ_self _)).trans c1
      clear O hKb
      go_wp2_with (at_builtin; refine append_bytes rfl _ _ rfl (w.heap.size + 1) _ (3 + k) _ rfl (hO.alloc _) (some ⟨wr.heap.size, 0, none⟩) 1 1 [(s[k].toNat : Int)] rfl rfl ((rw_one8 wr _ hx).src) (by omega) (by simp; omega) ?_; intro v' w' hown' hb')
      go_roundw
      case rel =>
        refine ⟨k + 1, by omega, by go_num, Lib.hid ?_, Lib.hid (B.out.trans (((Below.refl _ _).alloc hBz _).trans hb'))⟩
        rw [HS.out]
        exact hown'
      case measure => simp [intOf]; omega
    · have hks : k = s.size := by omega
      have hO := O.out
      rw [hks, List.take_of_length_le (by rw [nb_length]; exact Nat.le_refl _)] at hO
      obtain ⟨a0, q0, rfl⟩ := own_form8 hO
      have O2 : Hid (wr.ownsRow (w.heap.size + 1) 5 1 (.slice a0 (3 + s.size) q0) (3 + s.size) ((i % 256 :: i / 256 :: (s.size : Int) :: (nb s ++ List.replicate 0 0)).map (Value.int .u8))) := Lib.hid (by simpa using hO)
      have hks2 : ¬ (k : Int) < (s.size : Int) := by omega
      clear hO O hKb
      obtain ⟨W1, rfl⟩ : ∃ W, W = wr := ⟨_, rfl⟩
      go_wp2_with fail
      go_loopw [4] (fun v wr => ∃ (m : Nat) (A : Option Addr) (cc : Nat), m ≤ 13 - s.size ∧ v = .slice A (3 + s.size + m) cc ∧ Hid (wr.ownsRow (w.heap.size + 1) 5 1 (.slice A (3 + s.size + m) cc) (3 + s.size + m) ((i % 256 :: i / 256 :: (s.size : Int) :: (nb s ++ List.replicate m 0)).map (Value.int .u8))) ∧ Hid (Below (w.heap.size + 1) W1 wr)) (fun v _ => 16 - (match v with | .slice _ n _ => n | _ => 0))
      case atStart => exact ⟨0, a0, q0, by omega, rfl, O2, Lib.hid (Below.refl _ _)⟩
      case round =>
        obtain ⟨m, A, cc, hm, rfl, O, C⟩ := hrel
        have hCz : w.heap.size + 1 ≤ wr.heap.size := Nat.le_trans hBz C.out.size
        by_cases hlt2 : m < 13 - s.size
        · have hO := O.out
          have t16 : (3 : Int) + (s.size : Int) + (m : Int) < 16 := by omega
          have HS : Hid ((i % 256 :: i / 256 :: (s.size : Int) :: (nb s ++ List.replicate m 0)) ++ [0] = i % 256 :: i / 256 :: (s.size : Int) :: (nb s ++ List.replicate (m + 1) 0)) := Lib.hid (by
            simp [List.replicate_succ'])
          clear O
          go_wp2_with (at_builtin; refine append_bytes rfl _ _ rfl (w.heap.size + 1) _ (3 + s.size + m) _ rfl (hO.alloc _) (some ⟨wr.heap.size, 0, none⟩) 1 1 [0] rfl rfl ((rw_one8 wr 0 (by unfold U8; omega)).src) (by omega) (by simp; omega) ?_; intro v' w' hown' hb'; obtain ⟨a1, q1, rfl⟩ := own_form8 hown')
          go_roundw
          case rel =>
            refine ⟨m + 1, a1, q1, by omega, rfl, Lib.hid ?_, Lib.hid (C.out.trans (((Below.refl _ _).alloc hCz _).trans hb'))⟩
            rw [HS.out] at hown'
            exact hown'
          case measure => simp; omega
        · have hm2 : m = 13 - s.size := by omega
          have t16 : (3 : Int) + (s.size : Int) + (m : Int) = 16 := by omega
          have e16 : 3 + s.size + m = 16 := by omega
          have hO := O.out
          rw [e16] at hO
          have HSb : Hid (i % 256 :: i / 256 :: (s.size : Int) :: (nb s ++ List.replicate m 0) = sb i s) := Lib.hid (by rw [hm2]; rfl)
          rw [HSb.out] at hO
          obtain ⟨A', cc', e, hri, -, -⟩ := Rw.of_own hO HU.out
          injection e with e1 e2 e3
          subst e1 e3
          have HR := Lib.hid hri
          have HE := Lib.hid e16
          clear O hO hri hm2 e16
          go_wp2
          go_ret2
          exact ⟨A, ⟨cc, by rw [← HE.out]; rfl⟩, HR.out, B0.out.trans ((B.out.trans C.out).mono (Nat.le_succ _))⟩

end Go.Proofs.Ytbgimehbencdgaa
