/-
  The statement on what any bytes are.
-/
import Derived.Test.YtgndpoijijfmhaaTagRefRead
import Derived.Test.YtgndpoijijfmhaaTagLaws
namespace Go.Proofs.Ytgndpoijijfmhaa
open Go.RowKit Crcm Tagm Go.ChangeShapes

theorem refread_any (a : Option Addr) (len cap : Nat) (l : List Int) (w : World) (hr : Rw w a l) (hl : l.length = len) (hcap : len ≤ cap) :
    Calls Try.prog 23 #[.slice a len cap] w (RdA w l) := by
  subst hl
  by_cases hs : Sz ((l.length : Int) - 32)
  · obtain ⟨n, hn⟩ : ∃ n, l.length = n + 32 := ⟨l.length - 32, by unfold Sz at hs; omega⟩
    have hs' : Sz n := by rw [hn] at hs; simpa using hs
    have hn2 : l.length - 32 = n := by omega
    have h := refread_page a n cap l w hs' hr hn (by omega)
    rw [← hn] at h
    refine h.mono ?_
    rintro r w' (⟨he, rfl, hb⟩ | ⟨he, hb, ⟨hv, rfl⟩ | ⟨hv, A, c, rfl, hA⟩⟩)
    · have e : rdF l = 20 := by unfold rdF; rw [if_pos hs, if_pos he]
      exact ⟨hb, .inl ⟨by rw [e]; decide, by rw [e]⟩⟩
    · have e : rdF l = 21 := by unfold rdF; rw [if_pos hs, if_neg he, hn2, if_neg hv]
      exact ⟨hb, .inl ⟨by rw [e]; decide, by rw [e]⟩⟩
    · have e : rdF l = 0 := by unfold rdF; rw [if_pos hs, if_neg he, hn2, if_pos hv]
      exact ⟨hb, .inr ⟨e, n, hn, hs', hv, A, c, rfl, hA⟩⟩
  · refine (refread_arg a l.length cap w hs hr.2.1).mono ?_
    rintro r w' ⟨rfl, hb⟩
    have e : rdF l = 1 := by unfold rdF; rw [if_neg hs]
    exact ⟨hb, .inl ⟨by rw [e]; decide, by rw [e]⟩⟩

set_option maxRecDepth 100000 in
set_option maxHeartbeats 1000000 in
theorem tagReads_walk (a0 : Option Addr) (len0 cap0 : Nat) (z0 : List Int) (w : World) (w0 : Row8 w a0 len0 cap0 z0) :
    Calls Try.prog 4 #[.slice a0 len0 cap0] w fun r w' => r = .returned (.bool true) ∧ Below w.heap.size w w' := by
  obtain ⟨l, rfl, hcap, hr, -⟩ := w0.rw
  clear w0
  by_cases h : 2000 < l.length
  · have HL := Lib.hid (fun w => long_yes a0 l.length cap0 w h)
    clear h
    go_enter Try.func4, Try.ntmps4
    go_wp2_with fail
    refine (HL.out _).mono ?_
    rintro r w' ⟨rfl, rfl⟩
    go_wp2_with fail
    refine (known_any _).mono ?_
    rintro r w' ⟨rfl, hb⟩
    go_wp2
    go_ret
    exact ⟨rfl, hb⟩
  · have HL := Lib.hid (fun w => long_no a0 l.length cap0 w (by omega))
    have HR := Lib.hid hr
    have HC := Lib.hid hcap
    clear h hr hcap
    go_enter Try.func4, Try.ntmps4
    go_wp2_with fail
    refine (HL.out _).mono ?_
    rintro r w' ⟨rfl, rfl⟩
    go_wp2_with fail
    refine (read_any _ _ _ _ _ HR.out rfl HC.out).mono ?_
    rintro r W1 ⟨hb1, ⟨hf, rfl⟩ | ⟨hf, n, hn, _, hv, A, c, rfl, hA⟩⟩
    · have hz1 : Below W1.heap.size W1 (W1.alloc (.cells #[.int .i64 0, .int .u32 0, .int .u64 0, .int .u64 0] 25)) := (Below.refl _ _).alloc (Nat.le_refl _) _
      have hb2 := hb1.trans (hz1.mono hb1.size)
      have T1 := TgAt.new W1 0 0 0 0 (0, 0)
      obtain ⟨W2, hW2⟩ : ∃ W2, (W1.alloc (.cells #[.int .i64 0, .int .u32 0, .int .u64 0, .int .u64 0] 25)) = W2 := ⟨_, rfl⟩
      have hlt : W1.heap.size < W2.heap.size := by rw [← hW2]; simp
      rw [hW2] at hb2 T1
      have HW2 := Lib.hid hW2
      have HB2 := Lib.hid hb2
      have HT1 := Lib.hid T1
      have HF := Lib.hid hf
      unfold Bad tg
      clear hW2 hb1 hz1 hb2 T1 hf
      go_wp2_with fail
      rw [HW2.out]
      refine (refread_any _ _ _ _ _ (HR.out.below HB2.out) rfl HC.out).mono ?_
      rintro r W3 ⟨hb3, ⟨_, rfl⟩ | ⟨hf, _⟩⟩
      · unfold Bad tg
        have hz3 : Below W3.heap.size W3 (W3.alloc (.cells #[.int .i64 0, .int .u32 0, .int .u64 0, .int .u64 0] 25)) := (Below.refl _ _).alloc (Nat.le_refl _) _
        obtain ⟨t0, t1, t2, t3⟩ := (HT1.out.below hb3 hlt).below hz3 (Nat.lt_of_lt_of_le hlt hb3.size)
        obtain ⟨u0, u1, u2, u3⟩ := TgAt.new W3 0 0 0 0 (0, 0)
        have HB3 := Lib.hid (HB2.out.trans ((hb3.mono HB2.out.size).trans (hz3.mono (by have := HB2.out.size; have := hb3.size; omega))))
        have hSm := same_any none none 0 0 0 0 [] [] (W3.alloc (.cells #[.int .i64 0, .int .u32 0, .int .u64 0, .int .u64 0] 25)) Rw.nil Rw.nil rfl rfl
        rw [decide_eq_true rfl] at hSm
        have HSm := Lib.hid hSm
        obtain ⟨x, hx⟩ : ∃ x, rdF l = x := ⟨_, rfl⟩
        rw [hx]
        clear hx hb3 hz3 hSm
        go_wp2_with fail
        refine HSm.out.mono ?_
        rintro r w' ⟨rfl, rfl⟩
        go_wp2_with fail
        refine (known_any _).mono ?_
        rintro r W8 ⟨rfl, hb8⟩
        go_wp2
        go_ret
        exact ⟨rfl, HB3.out.trans (hb8.mono HB3.out.size)⟩
      · exact absurd hf HF.out
    · have hz1 : Below W1.heap.size W1 (W1.alloc (.cells #[.int .i64 (tk n l), .int .u32 (tp n l), .int .u64 (ts n l), .int .u64 (te n l)] 25)) := (Below.refl _ _).alloc (Nat.le_refl _) _
      have hb2 := hb1.trans (hz1.mono hb1.size)
      have T1 := TgAt.new W1 (tk n l) (tp n l) (ts n l) (te n l) (0, 0)
      have hA2 := hA.below hz1
      obtain ⟨W2, hW2⟩ : ∃ W2, (W1.alloc (.cells #[.int .i64 (tk n l), .int .u32 (tp n l), .int .u64 (ts n l), .int .u64 (te n l)] 25)) = W2 := ⟨_, rfl⟩
      have hlt : W1.heap.size < W2.heap.size := by rw [← hW2]; simp
      rw [hW2] at hb2 T1 hA2
      have HW2 := Lib.hid hW2
      have HB2 := Lib.hid hb2
      have HT1 := Lib.hid T1
      have HF := Lib.hid hf
      have HA := Lib.hid hA2
      have HN := Lib.hid hn
      unfold tg
      clear hW2 hb1 hz1 hb2 T1 hf hA hA2 hn hv
      go_wp2_with fail
      rw [HW2.out]
      refine (refread_any _ _ _ _ _ (HR.out.below HB2.out) rfl HC.out).mono ?_
      rintro r W3 ⟨hb3, ⟨hf, _⟩ | ⟨_, m, hm, _, _, B, d, rfl, hB⟩⟩
      · exact absurd HF.out hf
      · have hmn : m = n := by have := HN.out; omega
        subst hmn
        unfold tg
        have hz3 : Below W3.heap.size W3 (W3.alloc (.cells #[.int .i64 (tk m l), .int .u32 (tp m l), .int .u64 (ts m l), .int .u64 (te m l)] 25)) := (Below.refl _ _).alloc (Nat.le_refl _) _
        obtain ⟨t0, t1, t2, t3⟩ := (HT1.out.below hb3 hlt).below hz3 (Nat.lt_of_lt_of_le hlt hb3.size)
        obtain ⟨u0, u1, u2, u3⟩ := TgAt.new W3 (tk m l) (tp m l) (ts m l) (te m l) (0, 0)
        have HB3 := Lib.hid (HB2.out.trans ((hb3.mono HB2.out.size).trans (hz3.mono (by have := HB2.out.size; have := hb3.size; omega))))
        have hlen : (l.take m).length = m := by rw [List.length_take]; omega
        have hSm := same_any A B c d m m (l.take m) (l.take m) (W3.alloc (.cells #[.int .i64 (tk m l), .int .u32 (tp m l), .int .u64 (ts m l), .int .u64 (te m l)] 25)) ((HA.out.below hb3).below hz3) (hB.below hz3) hlen hlen
        rw [decide_eq_true rfl] at hSm
        have HSm := Lib.hid hSm
        clear hb3 hz3 hSm hlen hB hm
        go_wp2_with fail
        refine HSm.out.mono ?_
        rintro r w' ⟨rfl, rfl⟩
        go_wp2_with fail
        refine (known_any _).mono ?_
        rintro r W8 ⟨rfl, hb8⟩
        go_wp2
        go_ret
        exact ⟨rfl, HB3.out.trans (hb8.mono HB3.out.size)⟩

end Go.Proofs.Ytgndpoijijfmhaa
