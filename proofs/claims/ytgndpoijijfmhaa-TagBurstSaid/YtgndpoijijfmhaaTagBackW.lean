/-
  The statement that what is written is read as it was, and what is read is written as the same bytes.
-/
import Derived.Test.YtgndpoijijfmhaaTagLaws
namespace Go.Proofs.Ytgndpoijijfmhaa
open Go.RowKit Crcm Tagm Go.ChangeShapes

theorem write_any {k p s e : Int} {a : Option Addr} {cap m : Nat} {z : List Int} {w : World} (hp : 0 ≤ p) (hz : Rw w a z) (hl : z.length = m) :
    Calls Try.prog 17 #[tg k p s e, .slice a m cap] w fun r w' => Below w.heap.size w w' ∧ ∃ A n c f, r = .returned (.tuple #[.slice A n c, .int .i64 f]) ∧
      ((Rt k p s e ∧ Sz m ∧ f = 0 ∧ n = m + 32 ∧ n ≤ c ∧ Rw w' A (pg k p s e z)) ∨ (¬ (Rt k p s e ∧ Sz m) ∧ f = 1 ∧ n = 0 ∧ A = none ∧ c = 0)) := by
  subst hl
  exact writes k p s e a cap z w hp hz

theorem rdF_pg {k p s e : Int} (z : List Int) (h : Rt k p s e) (hs : Sz z.length) : rdF (pg k p s e z) = 0 := by
  obtain ⟨_, _, _, _, hv⟩ := Vl_pg z h
  unfold rdF
  rw [pg_length, if_pos (by simpa using hs), if_neg (pg_not_Er _ _ _ _ _), show z.length + 32 - 32 = z.length by omega, if_pos hv]
theorem rdF_nil : rdF [] = 1 := by decide

set_option maxRecDepth 100000 in
set_option maxHeartbeats 1000000 in
theorem tagBack_long (k p s e : Int) (a1 : Option Addr) (n1 cap1 : Nat) (a2 : Option Addr) (n2 cap2 : Nat) (w : World) (h : 2000 < n1 ∨ 2000 < n2) :
    Calls Try.prog 6 #[.agg #[.int .i64 k, .int .u32 p, .int .u64 s, .int .u64 e], .slice a1 n1 cap1, .slice a2 n2 cap2] w fun r w' => r = .returned (.bool true) ∧ Below w.heap.size w w' := by
  by_cases h1 : 2000 < n1
  · have HL := Lib.hid (fun w => long_yes a1 n1 cap1 w h1)
    clear h h1
    go_enter Try.func6, Try.ntmps6
    go_wp2_with fail
    refine (HL.out _).mono ?_
    rintro r w' ⟨rfl, rfl⟩
    go_wp2_with fail
    refine (known_any _).mono ?_
    rintro r w' ⟨rfl, hb⟩
    go_wp2
    go_ret
    exact ⟨rfl, ((Below.refl _ _).alloc (Nat.le_refl _) _).trans (hb.mono (by simp))⟩
  · have h2 : 2000 < n2 := by omega
    have HL := Lib.hid (fun w => long_no a1 n1 cap1 w (by omega))
    have HL2 := Lib.hid (fun w => long_yes a2 n2 cap2 w h2)
    clear h h1 h2
    go_enter Try.func6, Try.ntmps6
    go_wp2_with fail
    refine (HL.out _).mono ?_
    rintro r w' ⟨rfl, rfl⟩
    go_wp2_with fail
    refine (HL2.out _).mono ?_
    rintro r w' ⟨rfl, rfl⟩
    go_wp2_with fail
    refine (known_any _).mono ?_
    rintro r w' ⟨rfl, hb⟩
    go_wp2
    go_ret
    exact ⟨rfl, ((Below.refl _ _).alloc (Nat.le_refl _) _).trans (hb.mono (by simp))⟩

/-- what stands of the statement behind its first half: the tag's block, and what came in -/
structure Bk (w W : World) (g : Nat) (k p s e : Int) (a2 : Option Addr) (l2 : List Int) : Prop where
  at_ : TgAt W g k p s e
  lt : g < W.heap.size
  bel : Below w.heap.size w W
  r2 : Rw W a2 l2
theorem Bk.next {w W W' : World} {g : Nat} {k p s e : Int} {a2 : Option Addr} {l2 : List Int} (h : Bk w W g k p s e a2 l2) (hb : Below W.heap.size W W') : Bk w W' g k p s e a2 l2 :=
  ⟨h.at_.below hb h.lt, Nat.lt_of_lt_of_le h.lt hb.size, h.bel.trans (hb.mono h.bel.size), h.r2.below hb⟩

set_option maxRecDepth 100000 in
set_option maxHeartbeats 4000000 in
theorem tagBack_short (k p s e : Int) (a1 : Option Addr) (cap1 : Nat) (l1 : List Int) (a2 : Option Addr) (cap2 : Nat) (l2 : List Int) (w : World) (hp : U32 p)
    (h1 : l1.length ≤ 2000) (h2 : l2.length ≤ 2000) (r1 : Rw w a1 l1) (r2 : Rw w a2 l2) (hc2 : l2.length ≤ cap2) :
    Calls Try.prog 6 #[.agg #[.int .i64 k, .int .u32 p, .int .u64 s, .int .u64 e], .slice a1 l1.length cap1, .slice a2 l2.length cap2] w fun r w' => r = .returned (.bool true) ∧ Below w.heap.size w w' := by
  have HL := Lib.hid (fun w => long_no a1 l1.length cap1 w h1)
  have HL2 := Lib.hid (fun w => long_no a2 l2.length cap2 w h2)
  have hbz : Below w.heap.size w (w.alloc (.cells #[.int .i64 k, .int .u32 p, .int .u64 s, .int .u64 e] 25)) := (Below.refl _ _).alloc (Nat.le_refl _) _
  have bk : Bk w (w.alloc (.cells #[.int .i64 k, .int .u32 p, .int .u64 s, .int .u64 e] 25)) w.heap.size k p s e a2 l2 := ⟨TgAt.new w k p s e (0, 0), by simp, hbz, r2.below hbz⟩
  have z1 := r1.below hbz
  obtain ⟨W, hW⟩ : ∃ W, (w.alloc (.cells #[.int .i64 k, .int .u32 p, .int .u64 s, .int .u64 e] 25)) = W := ⟨_, rfl⟩
  rw [hW] at bk z1
  have HW := Lib.hid hW
  have BK := Lib.hid bk
  have Z1 := Lib.hid z1
  have HC2 := Lib.hid hc2
  have HA := Lib.hid (fun w hz => writes k p s e a1 cap1 l1 w hp.1 hz)
  clear h1 h2 r1 r2 hbz bk z1 hW hp hc2
  unfold tg at HA
  go_enter Try.func6, Try.ntmps6
  go_wp2_with fail
  refine (HL.out _).mono ?_
  rintro r w' ⟨rfl, rfl⟩
  go_wp2_with fail
  refine (HL2.out _).mono ?_
  rintro r w' ⟨rfl, rfl⟩
  go_wp2_with fail
  rw [HW.out]
  refine (HA.out _ Z1.out).mono ?_
  rintro r W2 ⟨hb2, A, n, c, f, rfl, hq⟩
  have BK2 := Lib.hid (BK.out.next hb2)
  have Z2 := Lib.hid (Z1.out.below hb2)
  have HQ := Lib.hid hq
  clear hq hb2 HL HL2
  rcases HQ.out with ⟨hRt, hSz, rfl, rfl, hc, rA⟩ | ⟨hno, rfl, rfl, rfl, rfl⟩
  · have RA := Lib.hid rA
    have e0 := rdF_pg l1 hRt hSz
    have E0 := Lib.hid e0
    have hV := Vl_pg l1 hRt
    have HV := Lib.hid hV
    have HC := Lib.hid hc
    clear rA e0 hV hc HQ hRt hSz
    go_wp2_with fail
    refine (read_any _ _ _ _ _ RA.out (pg_length _ _ _ _ _) HC.out).mono ?_
    rintro r W3 ⟨hb3, ⟨hf, _⟩ | ⟨_, m, hm, _, hv, B, d, rfl, hB⟩⟩
    · exact absurd E0.out hf
    have hm' : m = l1.length := by rw [pg_length] at hm; omega
    subst hm'
    obtain ⟨v1, v2, v3, v4, _⟩ := HV.out
    rw [pg_take] at hB
    rw [v1, v2, v3, v4]
    unfold tg
    have BK3 := Lib.hid (BK2.out.next hb3)
    have hbz3 : Below W3.heap.size W3 (W3.alloc (.cells #[.int .i64 k, .int .u32 p, .int .u64 s, .int .u64 e] 25)) := (Below.refl _ _).alloc (Nat.le_refl _) _
    have BK4 := Lib.hid (BK3.out.next hbz3)
    have hSm := same_any B a1 d cap1 l1.length l1.length l1 l1 _ (hB.below hbz3) ((Z2.out.below hb3).below hbz3) rfl rfl
    rw [decide_eq_true rfl] at hSm
    have HSm := Lib.hid hSm
    obtain ⟨t0, t1, t2, t3⟩ := BK4.out.at_
    obtain ⟨u0, u1, u2, u3⟩ := TgAt.new W3 k p s e (0, 0)
    clear v1 v2 v3 v4 hB hSm hb3 hbz3 hm hv
    go_wp2_with fail
    refine HSm.out.mono ?_
    rintro r w' ⟨rfl, rfl⟩
    obtain ⟨W4, hW4⟩ : ∃ W4, (W3.alloc (.cells #[.int .i64 k, .int .u32 p, .int .u64 s, .int .u64 e] 25)) = W4 := ⟨_, rfl⟩
    rw [hW4] at BK4 HSm
    have HW4 := Lib.hid hW4
    clear hW4 t0 t1 t2 t3 u0 u1 u2 u3 HSm
    go_wp2_with fail
    rw [HW4.out]
    refine (read_any _ _ _ _ _ BK4.out.r2 rfl HC2.out).mono ?_
    rintro r W5 ⟨hb5, ⟨hf, rfl⟩ | ⟨hf, n, hn, hsz, hv, B2, d2, rfl, hB2⟩⟩
    · have BK5 := Lib.hid (BK4.out.next hb5)
      have hz5 : Below W5.heap.size W5 (W5.alloc (.cells #[.int .i64 0, .int .u32 0, .int .u64 0, .int .u64 0] 25)) := (Below.refl _ _).alloc (Nat.le_refl _) _
      have BK6 := Lib.hid (BK5.out.next hz5)
      have g0 : (rdF l2 != 0) = true := by simpa using hf
      obtain ⟨x, hx⟩ : ∃ x, rdF l2 = x := ⟨_, rfl⟩
      rw [hx] at g0 ⊢
      obtain ⟨u0, u1, u2, u3⟩ := TgAt.new W5 0 0 0 0 (0, 0)
      have HWW := Lib.hid (write_any (k := 0) (p := 0) (s := 0) (e := 0) (a := none) (cap := 0) (m := 0) (z := []) (w := (W5.alloc (.cells #[.int .i64 0, .int .u32 0, .int .u64 0, .int .u64 0] 25))) (by decide) Rw.nil rfl)
      unfold tg at HWW
      unfold Bad tg
      clear hf hx hb5 hz5
      go_wp2_with fail
      refine HWW.out.mono ?_
      rintro r W7 ⟨hb7, A7, n7, c7, f7, rfl, hq7⟩
      have BK7 := Lib.hid (BK6.out.next hb7)
      clear hb7 hq7 u0 u1 u2 u3 HWW
      go_wp2_with fail
      refine (known_any _).mono ?_
      rintro r W8 ⟨rfl, hb8⟩
      have BK8 := Lib.hid (BK7.out.next hb8)
      clear hb8
      go_wp2
      go_ret
      exact ⟨rfl, BK8.out.bel⟩
    · have BK5 := Lib.hid (BK4.out.next hb5)
      have hz5 : Below W5.heap.size W5 (W5.alloc (.cells #[.int .i64 (tk n l2), .int .u32 (tp n l2), .int .u64 (ts n l2), .int .u64 (te n l2)] 25)) := (Below.refl _ _).alloc (Nat.le_refl _) _
      have BK6 := Lib.hid (BK5.out.next hz5)
      obtain ⟨u0, u1, u2, u3⟩ := TgAt.new W5 (tk n l2) (tp n l2) (ts n l2) (te n l2) (0, 0)
      have HWW := Lib.hid (write_any (k := tk n l2) (p := tp n l2) (s := ts n l2) (e := te n l2) (a := B2) (cap := d2) (m := n) (z := l2.take n) (w := (W5.alloc (.cells #[.int .i64 (tk n l2), .int .u32 (tp n l2), .int .u64 (ts n l2), .int .u64 (te n l2)] 25))) hv.1.2.1.1 (hB2.below hz5) (by rw [List.length_take]; omega))
      have HV2 := Lib.hid hv
      have HS2 := Lib.hid hsz
      have HN2 := Lib.hid hn
      unfold tg at HWW
      unfold tg
      clear hf hb5 hz5 hB2 hv hsz hn
      go_wp2_with fail
      refine HWW.out.mono ?_
      rintro r W7 ⟨hb7, A7, n7, c7, f7, rfl, ⟨_, _, rfl, rfl, _, r7⟩ | ⟨hno, _⟩⟩
      · have BK7 := Lib.hid (BK6.out.next hb7)
        rw [HV2.out.2] at r7
        have hSm := same_any a2 A7 cap2 c7 l2.length (n + 32) l2 l2 W7 BK7.out.r2 r7 rfl HN2.out
        rw [decide_eq_true rfl] at hSm
        have HSm := Lib.hid hSm
        clear hb7 r7 hSm u0 u1 u2 u3 HWW
        go_wp2_with fail
        refine HSm.out.mono ?_
        rintro r w' ⟨rfl, rfl⟩
        go_wp2_with fail
        refine (known_any _).mono ?_
        rintro r W8 ⟨rfl, hb8⟩
        have BK8 := Lib.hid (BK7.out.next hb8)
        clear hb8
        go_wp2
        go_ret
        exact ⟨rfl, BK8.out.bel⟩
      · exact absurd ⟨HV2.out.1, HS2.out⟩ hno
  · have HNO := Lib.hid hno
    clear hno HQ
    go_wp2_with fail
    refine (read_any none 0 0 [] _ Rw.nil rfl (Nat.le_refl _)).mono ?_
    rintro r W3 ⟨hb3, ⟨_, rfl⟩ | ⟨hf, _⟩⟩
    · rw [rdF_nil]
      unfold Bad tg
      have BK3 := Lib.hid (BK2.out.next hb3)
      have hbz3 : Below W3.heap.size W3 (W3.alloc (.cells #[.int .i64 0, .int .u32 0, .int .u64 0, .int .u64 0] 25)) := (Below.refl _ _).alloc (Nat.le_refl _) _
      have BK4 := Lib.hid (BK3.out.next hbz3)
      obtain ⟨W4, hW4⟩ : ∃ W4, (W3.alloc (.cells #[.int .i64 0, .int .u32 0, .int .u64 0, .int .u64 0] 25)) = W4 := ⟨_, rfl⟩
      rw [hW4] at BK4
      have HW4 := Lib.hid hW4
      clear hW4 hb3 hbz3
      go_wp2_with fail
      rw [HW4.out]
      refine (read_any _ _ _ _ _ BK4.out.r2 rfl HC2.out).mono ?_
      rintro r W5 ⟨hb5, ⟨hf, rfl⟩ | ⟨hf, n, hn, hsz, hv, B2, d2, rfl, hB2⟩⟩
      · have BK5 := Lib.hid (BK4.out.next hb5)
        have hz5 : Below W5.heap.size W5 (W5.alloc (.cells #[.int .i64 0, .int .u32 0, .int .u64 0, .int .u64 0] 25)) := (Below.refl _ _).alloc (Nat.le_refl _) _
        have BK6 := Lib.hid (BK5.out.next hz5)
        have g0 : (rdF l2 != 0) = true := by simpa using hf
        obtain ⟨x, hx⟩ : ∃ x, rdF l2 = x := ⟨_, rfl⟩
        rw [hx] at g0 ⊢
        obtain ⟨u0, u1, u2, u3⟩ := TgAt.new W5 0 0 0 0 (0, 0)
        have HWW := Lib.hid (write_any (k := 0) (p := 0) (s := 0) (e := 0) (a := none) (cap := 0) (m := 0) (z := []) (w := (W5.alloc (.cells #[.int .i64 0, .int .u32 0, .int .u64 0, .int .u64 0] 25))) (by decide) Rw.nil rfl)
        unfold tg at HWW
        unfold Bad tg
        clear hf hx hb5 hz5
        go_wp2_with fail
        refine HWW.out.mono ?_
        rintro r W7 ⟨hb7, A7, n7, c7, f7, rfl, hq7⟩
        have BK7 := Lib.hid (BK6.out.next hb7)
        clear hb7 hq7 u0 u1 u2 u3 HWW
        go_wp2_with fail
        refine (known_any _).mono ?_
        rintro r W8 ⟨rfl, hb8⟩
        have BK8 := Lib.hid (BK7.out.next hb8)
        clear hb8
        go_wp2
        go_ret
        exact ⟨rfl, BK8.out.bel⟩
      · have BK5 := Lib.hid (BK4.out.next hb5)
        have hz5 : Below W5.heap.size W5 (W5.alloc (.cells #[.int .i64 (tk n l2), .int .u32 (tp n l2), .int .u64 (ts n l2), .int .u64 (te n l2)] 25)) := (Below.refl _ _).alloc (Nat.le_refl _) _
        have BK6 := Lib.hid (BK5.out.next hz5)
        obtain ⟨u0, u1, u2, u3⟩ := TgAt.new W5 (tk n l2) (tp n l2) (ts n l2) (te n l2) (0, 0)
        have HWW := Lib.hid (write_any (k := tk n l2) (p := tp n l2) (s := ts n l2) (e := te n l2) (a := B2) (cap := d2) (m := n) (z := l2.take n) (w := (W5.alloc (.cells #[.int .i64 (tk n l2), .int .u32 (tp n l2), .int .u64 (ts n l2), .int .u64 (te n l2)] 25))) hv.1.2.1.1 (hB2.below hz5) (by rw [List.length_take]; omega))
        have HV2 := Lib.hid hv
        have HS2 := Lib.hid hsz
        have HN2 := Lib.hid hn
        unfold tg at HWW
        unfold tg
        clear hf hb5 hz5 hB2 hv hsz hn
        go_wp2_with fail
        refine HWW.out.mono ?_
        rintro r W7 ⟨hb7, A7, n7, c7, f7, rfl, ⟨_, _, rfl, rfl, _, r7⟩ | ⟨hno, _⟩⟩
        · have BK7 := Lib.hid (BK6.out.next hb7)
          rw [HV2.out.2] at r7
          have hSm := same_any a2 A7 cap2 c7 l2.length (n + 32) l2 l2 W7 BK7.out.r2 r7 rfl HN2.out
          rw [decide_eq_true rfl] at hSm
          have HSm := Lib.hid hSm
          clear hb7 r7 hSm u0 u1 u2 u3 HWW
          go_wp2_with fail
          refine HSm.out.mono ?_
          rintro r w' ⟨rfl, rfl⟩
          go_wp2_with fail
          refine (known_any _).mono ?_
          rintro r W8 ⟨rfl, hb8⟩
          have BK8 := Lib.hid (BK7.out.next hb8)
          clear hb8
          go_wp2
          go_ret
          exact ⟨rfl, BK8.out.bel⟩
        · exact absurd ⟨HV2.out.1, HS2.out⟩ hno
    · exfalso; rw [rdF_nil] at hf; omega

theorem tagBack_walk (k p s e : Int) (a1 : Option Addr) (len1 cap1 : Nat) (z1 : List Int) (a2 : Option Addr) (len2 cap2 : Nat) (z2 : List Int) (w : World) (_hk : (Lit.int .i64 k).wf = true) (hp : (Lit.int .u32 p).wf = true) (_hs : (Lit.int .u64 s).wf = true) (_he : (Lit.int .u64 e).wf = true)
    (w1 : Row8 w a1 len1 cap1 z1) (w2 : Row8 w a2 len2 cap2 z2) :
    Calls Try.prog 6 #[.agg #[.int .i64 k, .int .u32 p, .int .u64 s, .int .u64 e], .slice a1 len1 cap1, .slice a2 len2 cap2] w fun r w' => r = .returned (.bool true) ∧ Below w.heap.size w w' := by
  obtain ⟨l1, rfl, -, r1, -⟩ := w1.rw
  obtain ⟨l2, rfl, hc2, r2, -⟩ := w2.rw
  by_cases h : 2000 < l1.length ∨ 2000 < l2.length
  · exact tagBack_long k p s e a1 l1.length cap1 a2 l2.length cap2 w h
  · exact tagBack_short k p s e a1 cap1 l1 a2 cap2 l2 w (U32_wf hp) (by omega) (by omega) r1 r2 hc2

end Go.Proofs.Ytgndpoijijfmhaa
