/-
  The statements' own calls: tags written as the document says; which tag is newer.
-/
import Derived.Test.YtgndpoijijfmhaaTagKnown
import Derived.Test.YtgndpoijijfmhaaLater
namespace Go.Proofs.Ytgndpoijijfmhaa
open Go.RowKit Crcm Tagm Go.ChangeShapes

theorem long_any (a : Option Addr) (len cap : Nat) (w : World) :
    Calls Try.prog 15 #[.slice a len cap] w fun e w' => e = .returned (.bool (decide ((2000 : Int) < len))) ∧ w = w' := by
  go_enter Try.func15, Try.ntmps15
  go_wp2
  go_ret
  exact ⟨rfl, rfl⟩
theorem long_yes (a : Option Addr) (len cap : Nat) (w : World) (h : 2000 < len) :
    Calls Try.prog 15 #[.slice a len cap] w fun e w' => e = .returned (.bool true) ∧ w = w' := by
  have := long_any a len cap w
  rwa [decide_eq_true (by omega : (2000 : Int) < len)] at this
theorem long_no (a : Option Addr) (len cap : Nat) (w : World) (h : len ≤ 2000) :
    Calls Try.prog 15 #[.slice a len cap] w fun e w' => e = .returned (.bool false) ∧ w = w' := by
  have := long_any a len cap w
  rwa [decide_eq_false (by omega : ¬ (2000 : Int) < len)] at this

theorem known_later {w : World} (n : Later w) : Calls Try.prog 16 #[] n.to fun e w'' => e = .returned (.bool true) ∧ ∃ m : Later w, w'' = m.to := later_below (known_any _)
theorem TgAt.later {w : World} {g : Nat} {k p s e : Int} (h : TgAt w g k p s e) (hg : g < w.heap.size) (n : Later w) : TgAt n.to g k p s e := h.below n.bel hg
theorem Rw.later {w : World} {a : Option Addr} {zs : List Int} (h : Rw w a zs) (n : Later w) : Rw n.to a zs := h.below n.bel

/-- what either Write answers -/
theorem writes (k p s e : Int) (a : Option Addr) (cap : Nat) (z : List Int) (w : World) (hp : 0 ≤ p) (hz : Rw w a z) :
    Calls Try.prog 17 #[tg k p s e, .slice a z.length cap] w fun r w' => Below w.heap.size w w' ∧ ∃ A n c f, r = .returned (.tuple #[.slice A n c, .int .i64 f]) ∧
      ((Rt k p s e ∧ Sz z.length ∧ f = 0 ∧ n = z.length + 32 ∧ n ≤ c ∧ Rw w' A (pg k p s e z)) ∨ (¬ (Rt k p s e ∧ Sz z.length) ∧ f = 1 ∧ n = 0 ∧ A = none ∧ c = 0)) := by
  by_cases h : Rt k p s e ∧ Sz z.length
  · refine (write_ok k p s e a cap z w h.1 h.2 hz).mono ?_
    rintro r w' ⟨v, rfl, hown, hb⟩
    obtain ⟨A, c, rfl, hr, hl, hc⟩ := Rw.of_own hown (pg_U8 _ _ _ _ _ hz.1)
    exact ⟨hb, A, _, c, 0, rfl, .inl ⟨h.1, h.2, rfl, rfl, hc, hr⟩⟩
  · refine (write_no k p s e a cap z w hp h).mono ?_
    rintro r w' ⟨rfl, hb⟩
    exact ⟨hb, none, 0, 0, 1, rfl, .inr ⟨h, rfl, rfl, rfl, rfl⟩⟩
theorem refwrites (k p s e : Int) (a : Option Addr) (cap : Nat) (z : List Int) (w : World) (hp : 0 ≤ p) (hz : Rw w a z) :
    Calls Try.prog 18 #[tg k p s e, .slice a z.length cap] w fun r w' => Below w.heap.size w w' ∧ ∃ A n c f, r = .returned (.tuple #[.slice A n c, .int .i64 f]) ∧
      ((Rt k p s e ∧ Sz z.length ∧ f = 0 ∧ n = z.length + 32 ∧ n ≤ c ∧ Rw w' A (pg k p s e z)) ∨ (¬ (Rt k p s e ∧ Sz z.length) ∧ f = 1 ∧ n = 0 ∧ A = none ∧ c = 0)) := by
  by_cases h : Rt k p s e ∧ Sz z.length
  · refine (refwrite_ok k p s e a cap z w h.1 h.2 hz).mono ?_
    rintro r w' ⟨v, rfl, hown, hb⟩
    obtain ⟨A, c, rfl, hr, hl, hc⟩ := Rw.of_own hown (pg_U8 _ _ _ _ _ hz.1)
    exact ⟨hb, A, _, c, 0, rfl, .inl ⟨h.1, h.2, rfl, rfl, hc, hr⟩⟩
  · refine (refwrite_no k p s e a cap z w hp h).mono ?_
    rintro r w' ⟨rfl, hb⟩
    exact ⟨hb, none, 0, 0, 1, rfl, .inr ⟨h, rfl, rfl, rfl, rfl⟩⟩

/-- the two answers are the same bytes -/
theorem same_later {W : World} {A B : Option Addr} {n m c d : Nat} {l : List Int} (h1 : Rw W A l) (h2 : Rw W B l) (e1 : l.length = n) (e2 : l.length = m) (q : Later W) :
    Calls Try.prog 21 #[.slice A n c, .slice B m d] q.to fun r w'' => r = .returned (.bool true) ∧ ∃ m : Later W, w'' = m.to := by
  have h := same_any A B c d n m l l q.to (h1.later q) (h2.later q) e1 e2
  rw [decide_eq_true rfl] at h
  exact later_same h

set_option maxRecDepth 100000 in
set_option maxHeartbeats 2000000 in
theorem tagWrites_walk (k p s e : Int) (a1 : Option Addr) (len1 cap1 : Nat) (z1 : List Int) (w : World) (_hk : (Lit.int .i64 k).wf = true) (hp : (Lit.int .u32 p).wf = true) (_hs : (Lit.int .u64 s).wf = true) (_he : (Lit.int .u64 e).wf = true) (w1 : Row8 w a1 len1 cap1 z1) :
    Calls Try.prog 3 #[.agg #[.int .i64 k, .int .u32 p, .int .u64 s, .int .u64 e], .slice a1 len1 cap1] w fun r w' => r = .returned (.bool true) ∧ Below w.heap.size w w' := by
  obtain ⟨l, rfl, hcap, hr, -⟩ := w1.rw
  have hp0 : 0 ≤ p := (U32_wf hp).1
  clear _hk hp _hs _he w1
  by_cases hl : 2000 < l.length
  · have HL := Lib.hid (fun w => long_yes a1 l.length cap1 w hl)
    clear hl
    go_enter Try.func3, Try.ntmps3
    go_wp2_with fail
    refine (HL.out _).mono ?_
    rintro r w' ⟨rfl, rfl⟩
    go_wp2_with fail
    refine (known_any _).mono ?_
    rintro r w' ⟨rfl, hb⟩
    go_wp2
    go_ret
    exact ⟨rfl, ((Below.refl _ _).alloc (Nat.le_refl _) _).trans (hb.mono (by simp))⟩
  · have HL := Lib.hid (fun w => long_no a1 l.length cap1 w (by omega))
    have HZ := Lib.hid hr
    have HA := Lib.hid (fun w hz => writes k p s e a1 cap1 l w hp0 hz)
    have HB := Lib.hid (fun w hz => refwrites k p s e a1 cap1 l w hp0 hz)
    have hT := TgAt.new w k p s e (0, 0)
    have hbz : Below w.heap.size w (w.alloc (.cells #[.int .i64 k, .int .u32 p, .int .u64 s, .int .u64 e] 25)) := (Below.refl _ _).alloc (Nat.le_refl _) _
    have hz0 := hr.below hbz
    obtain ⟨W, hW⟩ : ∃ W, (w.alloc (.cells #[.int .i64 k, .int .u32 p, .int .u64 s, .int .u64 e] 25)) = W := ⟨_, rfl⟩
    have hWs : w.heap.size < W.heap.size := by rw [← hW]; simp
    rw [hW] at hT hbz hz0
    have HW := Lib.hid hW
    have HT := Lib.hid hT
    have HBZ := Lib.hid hbz
    have HZ0 := Lib.hid hz0
    clear hl hr hT hbz hz0 hW
    unfold tg at HA HB
    go_enter Try.func3, Try.ntmps3
    go_wp2_with fail
    refine (HL.out _).mono ?_
    rintro r w' ⟨rfl, rfl⟩
    go_wp2_with fail
    rw [HW.out]
    refine (HA.out _ HZ0.out).mono ?_
    rintro r w2 ⟨hb2, A, n, c, f, rfl, hq⟩
    have HQ := Lib.hid hq
    obtain ⟨t0, t1, t2, t3⟩ := HT.out.below hb2 hWs
    have hz2 := HZ0.out.below hb2
    clear hq
    go_wp2_with fail
    refine (HB.out _ hz2).mono ?_
    rintro r w3 ⟨hb3, B, m, d, g, rfl, hq⟩
    have HQ2 := Lib.hid hq
    have hT3 := (HT.out.below hb2 hWs).below hb3 (Nat.lt_of_lt_of_le hWs hb2.size)
    have hlt3 : w.heap.size < w3.heap.size := by have := hb2.size; have := hb3.size; omega
    have HB3 := Lib.hid (HBZ.out.trans ((hb2.mono HBZ.out.size).trans (hb3.mono (by have := hb2.size; omega))))
    have L0 : ∀ q : Later w3, q.to.cell? ⟨w.heap.size, 0, none⟩ = some (.int .i64 k) := fun q => (hT3.later hlt3 q).1
    have L1 : ∀ q : Later w3, q.to.cell? ⟨w.heap.size, 1, none⟩ = some (.int .u32 p) := fun q => (hT3.later hlt3 q).2.1
    have L2 : ∀ q : Later w3, q.to.cell? ⟨w.heap.size, 2, none⟩ = some (.int .u64 s) := fun q => (hT3.later hlt3 q).2.2.1
    have L3 : ∀ q : Later w3, q.to.cell? ⟨w.heap.size, 3, none⟩ = some (.int .u64 e) := fun q => (hT3.later hlt3 q).2.2.2
    have HS : f = g ∧ Hid (∀ q : Later w3, Calls Try.prog 21 #[.slice A n c, .slice B m d] q.to fun r w'' => r = .returned (.bool true) ∧ ∃ m : Later w3, w'' = m.to) := by
      rcases HQ.out with ⟨h1, h2, rfl, rfl, _, r1⟩ | ⟨h1, rfl, rfl, rfl, rfl⟩ <;> rcases HQ2.out with ⟨h3, h4, rfl, rfl, _, r2⟩ | ⟨h3, rfl, rfl, rfl, rfl⟩
      · exact ⟨rfl, Lib.hid (fun q => same_later (r1.below hb3) r2 (pg_length _ _ _ _ _) (pg_length _ _ _ _ _) q)⟩
      · exact absurd ⟨h1, h2⟩ h3
      · exact absurd ⟨h3, h4⟩ h1
      · exact ⟨rfl, Lib.hid (fun q => same_later Rw.nil Rw.nil rfl rfl q)⟩
    obtain ⟨rfl, HS⟩ := HS
    clear t0 t1 t2 t3 hT3 hz2 hb2 hb3 hq
    by_cases hR : Rt k p s e
    · have C1 := Lib.hid (fun (q : Later w3) => later_below (right_yes k p s e q.to hR))
      have C2 := Lib.hid (fun (q : Later w3) => later_below (refright_yes k p s e q.to hR))
      unfold tg at C1 C2
      clear hR
      go_wp2_with fail
      refine wp_region_later (by kernel_rfl) (by kernel_rfl) ?_
      repeat (go_big_quiet_step (with_reducible first | exact C1.out _ | exact C2.out _ | exact HS.out _ | exact known_later _))
      refine wpQuiet_nil ?_
      rintro _ ⟨q, rfl⟩
      go_wp2
      go_ret
      exact ⟨rfl, HB3.out.trans (q.bel.mono HB3.out.size)⟩
    · have C1 := Lib.hid (fun (q : Later w3) => later_below (right_no k p s e q.to hp0 hR))
      have C2 := Lib.hid (fun (q : Later w3) => later_below (refright_no k p s e q.to hp0 hR))
      unfold tg at C1 C2
      clear hR
      go_wp2_with fail
      refine wp_region_later (by kernel_rfl) (by kernel_rfl) ?_
      repeat (go_big_quiet_step (with_reducible first | exact C1.out _ | exact C2.out _ | exact HS.out _ | exact known_later _))
      refine wpQuiet_nil ?_
      rintro _ ⟨q, rfl⟩
      go_wp2
      go_ret
      exact ⟨rfl, HB3.out.trans (q.bel.mono HB3.out.size)⟩

end Go.Proofs.Ytgndpoijijfmhaa
