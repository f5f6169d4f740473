/-
  What the call Big answers: a number's bytes, the least one first, in new memory; and the statement on two rows of four bytes.
-/
import Derived.Test.YtgadiloflepclaaCrcLawB
namespace Go.Proofs.Ytgadiloflepclaa
open Go.RowKit Crcm Go.ChangeShapes

/-- a number in so many bytes, the least one first -/
def bl (x : Int) : Nat → List Int
  | 0 => []
  | n + 1 => bl x n ++ [x / 256 ^ n % 256]
theorem bl_length (x : Int) (n : Nat) : (bl x n).length = n := by
  induction n with
  | zero => rfl
  | succ n ih => simp [bl, ih]
theorem bl_u8 (x : Int) (n : Nat) : ∀ m ∈ bl x n, U8 m := by
  induction n with
  | zero => simp [bl]
  | succ n ih =>
    intro m hm
    simp only [bl, List.mem_append, List.mem_singleton] at hm
    rcases hm with hm | rfl
    · exact ih m hm
    · unfold U8; omega

theorem Rw.of_own {w : World} {base n : Nat} {v : Value} {zs : List Int} (h : w.ownsRow base 5 1 v n (zs.map (Value.int .u8))) (hz : ∀ m ∈ zs, U8 m) :
    ∃ a cap, v = .slice a n cap ∧ Rw w a zs ∧ zs.length = n := by
  obtain ⟨hl, h⟩ := h
  have hl' : zs.length = n := by simpa using hl
  rcases h with ⟨rfl, rfl⟩ | ⟨g, cap, cur, rfl, _, hg, hn, hm, _, ht⟩
  · exact ⟨none, 0, rfl, ⟨hz, by omega, .inl (List.eq_nil_of_length_eq_zero hl')⟩, hl'⟩
  · refine ⟨_, cap, rfl, ⟨hz, by omega, .inr ⟨g, 0, rfl, fun i hi => ?_⟩⟩, hl'⟩
    rw [Nat.zero_add, cell_of_row w g i cur _ _ hg]
    have h1 : (cur.toList.take (n * 1))[i]? = (zs.map (Value.int .u8))[i]? := by rw [ht]
    rw [List.getElem?_take, if_pos (by omega)] at h1
    rw [← Array.getElem?_toList, h1]
    simp [List.getD_eq_getElem?_getD, hi]

theorem Try.info8 : (Try.prog.info? 5).map (fun i => (i.zero, i.size, i.bytes)) = some (some (.int .u8 0), 1, 1) := by kernel_rfl

set_option maxHeartbeats 400000 in
theorem big_any (x : Int) (n : Nat) (w : World) (hx : U32 x) (hn : n ≤ 1000) :
    Calls Try.prog 28 #[.int .u64 x, .int .i64 n] w fun e w' => ∃ a cap, e = .returned (.slice a n cap) ∧ Rw w' a (bl x n) ∧ Below w.heap.size w w' := by
  obtain ⟨i0, hi, hz0, hz1, hz2⟩ := info_parts Try.info8
  go_enter Try.func28, Try.ntmps28
  go_wp2
  go_loopw [0, 5, 6] (fun x' v i wr => ∃ k : Nat, ∃ m : Int, k ≤ n ∧ U32 m ∧ i = .int .i64 k ∧ x' = .int .u64 m ∧ Hid (m = x / 256 ^ k) ∧ wr.ownsRow w.heap.size 5 1 v k ((bl x k).map (Value.int .u8)) ∧ Below w.heap.size w wr) (fun _ _ i _ => n - (intOf i).toNat)
  case atStart => exact ⟨0, x, by omega, hx, rfl, rfl, Lib.hid (by simp), World.ownsRow_nil _ _ _ _, Below.refl _ _⟩
  case round =>
    obtain ⟨k, m, hk, hm, rfl, rfl, hv, hown, hbel⟩ := hrel
    by_cases hlt : k < n
    · have hm0 := hm.1
      have hs := hbel.size
      go_wp2_with (at_builtin; refine wpList_append_own _ rfl _ _ 26 rfl w.heap.size 5 i0 (.int .u8 0) 1 1 Try.underlying26 hi hz0 hz1 hz2 rfl (by decide) _ _ _ rfl (hown.alloc _) ⟨wr.heap.size, 0, none⟩ 1 1 [.int .u8 (m % 256)] rfl rfl ?c1 ?c2 ?c3 ?c4 ?c5 ?_)
      case c1 => exact cell_one_new _ _ _
      case c2 => intro u hu; simp at hu; subst hu; rfl
      case c3 => unfold maxLen; omega
      case c4 => omega
      case c5 => simp; omega
      intro v' w1 hown1 hgrow _
      have hb1 : Below w.heap.size w w1 := (hbel.alloc hs _).grown hgrow (by simp; omega) (fun g hg => (hown.lt g hg).1)
      have hH := Lib.hid hown1
      clear hown1 hgrow hown
      go_wp2
      go_roundw
      case rel =>
        have hown1 := hH.out
        refine ⟨k + 1, m / 256, by omega, ?_, by go_num, by rw [quo256 hm], Lib.hid ?_, ?_, hb1⟩
        · obtain ⟨g0, g1⟩ := hm; exact ⟨by omega, by omega⟩
        · rw [hv.out, Int.pow_succ, Int.ediv_ediv_of_nonneg (Int.le_of_lt (Int.pow_pos (by decide)))]
        · have e : bl x (k + 1) = bl x k ++ [m % 256] := by rw [hv.out]; rfl
          rw [e, List.map_append]
          exact hown1
      case measure => simp [intOf]; omega
    · have hkn : k = n := by omega
      subst hkn
      go_wp2
      go_ret
      obtain ⟨a, cap, rfl, hr, -⟩ := Rw.of_own hown (bl_u8 _ _)
      exact ⟨a, cap, rfl, hr, hbel⟩


theorem ret_bool {a b : Bool} (h : a = b) : Ending.returned (.bool a) = .returned (.bool b) := by rw [h]

theorem V_bl (x : Int) (n : Nat) : ∀ b ∈ (bl x n).map V, b.toNat < 256 := by
  intro b hb
  obtain ⟨m, hm, rfl⟩ := List.mem_map.1 hb
  have h := bl_u8 x n m hm
  rw [toNat_V h.u32]
  obtain ⟨h0, h1⟩ := h
  omega

theorem mo_inj {s : Int} {l m : List Int} (h : mo s l = mo s m) : F (~~~ V s) (l.map V) = F (~~~ V s) (m.map V) := not_inj (N_inj h)

theorem four_inj {a b : Int} (ha : U32 a) (hb : U32 b) (h : mo 0 (bl a 4) = mo 0 (bl b 4)) : a = b := by
  have e := F_inj4 _ _ _ (V_bl a 4) (V_bl b 4) (by simp [bl_length]) (by simp [bl_length]) (mo_inj h)
  have e2 := map_V_inj _ _ (fun n hn => (bl_u8 a 4 n hn).u32) (fun n hn => (bl_u8 b 4 n hn).u32) e
  simp [bl] at e2
  obtain ⟨a0, a1⟩ := ha
  obtain ⟨b0, b1⟩ := hb
  omega

theorem sum_len {a : Option Addr} {cap len : Nat} {zs : List Int} {w : World} (hr : Rw w a zs) (hl : zs.length = len) :
    Calls Try.prog 19 #[.slice a len cap] w fun e w' => e = .returned (.int .u32 (mo 0 zs)) ∧ w = w' := by
  subst hl
  exact sum_any _ _ _ _ hr

set_option maxHeartbeats 400000 in
theorem crcFour_walk (a0 : Int) (a1 : Int) (w0 : (Lit.int .u32 a0).wf = true) (w1 : (Lit.int .u32 a1).wf = true) (w : World) :
    Calls Try.prog 11 #[.int .u32 a0, .int .u32 a1] w fun e w' => e = .returned (.bool true) ∧ Below w.heap.size w w' := by
  have h0 := U32_wf w0
  have h1 := U32_wf w1
  have c0 : IntKind.u64.wrap a0 = a0 := by obtain ⟨g0, g1⟩ := h0; rw [IntKind.wrap_u64]; omega
  have c1 : IntKind.u64.wrap a1 = a1 := by obtain ⟨g0, g1⟩ := h1; rw [IntKind.wrap_u64]; omega
  have hB := fun (x : Int) (w : World) (hx : U32 x) => big_any x 4 w hx (by omega)
  have HB := Lib.hid hB
  clear w0 w1 hB
  by_cases hab : a0 = a1
  · subst hab
    go_enter Try.func11, Try.ntmps11
    go_wp2_with fail
    refine (HB.out _ _ h0).mono ?_
    rintro e w1 ⟨p, cap, rfl, hr1, hb1⟩
    go_wp2_with fail
    refine (sum_len hr1 (bl_length _ _)).mono ?_
    rintro e w' ⟨rfl, rfl⟩
    go_wp2_with fail
    refine (HB.out _ _ h0).mono ?_
    rintro e w2 ⟨p2, cap2, rfl, hr2, hb2⟩
    go_wp2_with fail
    refine (sum_len hr2 (bl_length _ _)).mono ?_
    rintro e w' ⟨rfl, rfl⟩
    go_wp2_with fail
    refine (known_any _).mono ?_
    rintro e w3 ⟨rfl, hb3⟩
    go_wp2
    go_ret
    exact ⟨rfl, hb1.trans ((hb2.mono hb1.size).trans (hb3.mono (Nat.le_trans hb1.size hb2.size)))⟩
  · have hne : (a0 == a1) = false := by simpa using hab
    have hmo : (mo 0 (bl a0 4) == mo 0 (bl a1 4)) = false := by
      have : ¬ mo 0 (bl a0 4) = mo 0 (bl a1 4) := fun h => hab (four_inj h0 h1 h)
      simpa using this
    clear hab
    go_enter Try.func11, Try.ntmps11
    go_wp2_with fail
    refine (HB.out _ _ h0).mono ?_
    rintro e w1 ⟨p, cap, rfl, hr1, hb1⟩
    go_wp2_with fail
    refine (sum_len hr1 (bl_length _ _)).mono ?_
    rintro e w' ⟨rfl, rfl⟩
    go_wp2_with fail
    refine (HB.out _ _ h1).mono ?_
    rintro e w2 ⟨p2, cap2, rfl, hr2, hb2⟩
    go_wp2_with fail
    refine (sum_len hr2 (bl_length _ _)).mono ?_
    rintro e w' ⟨rfl, rfl⟩
    go_wp2_with fail
    refine (known_any _).mono ?_
    rintro e w3 ⟨rfl, hb3⟩
    go_wp2
    go_ret
    exact ⟨rfl, hb1.trans ((hb2.mono hb1.size).trans (hb3.mono (Nat.le_trans hb1.size hb2.size)))⟩

end Go.Proofs.Ytgadiloflepclaa
