/-
  A row that is laid over places, whole; a part's pieces over a name.
-/
import Derived.Test.YtaielamimkigmaaGlobTry
import Derived.Laws.EntriesVeiled
namespace Go.Proofs.Ytaielamimkigmaa
open Go.RowKit Go.ChangeShapes Globm Go.ChangeMaps

set_option maxRecDepth 100000 in
set_option maxHeartbeats 1000000 in
theorem covers_any {α : Type} (f1 f2 f3 : Nat) (c1 c2 c3 : Array Value) (l : List (Mk α)) (s : List α) (bey : Nat → Bool) (w : World) (hR : RowOn f1 f2 f3 c1 c2 c3 l s bey w) (N M : Nat) (hN : l.length = N) (hM : s.length = M) (n1 : N ≤ 100000) (m1 : M ≤ 100000) :
    Calls Try.prog 45 #[.agg #[.int .i64 N, .int .i64 M, .func (.func f1) #[] c1, .func (.func f2) #[] c2, .func (.func f3) #[] c3]] w fun e w' => e = .returned (.bool (cv l s bey 0 0)) ∧ Below w.heap.size w w' := by
  have HT := Lib.hid (fun W hT => try_any f1 f2 f3 c1 c2 c3 l s bey w hR N M hN hM n1 m1 w.heap.size (N + 1) 0 0 W (by omega) (by omega) (by omega) hT)
  have HN := Lib.hid hN
  have HM := Lib.hid hM
  clear hR hN hM
  have hmm := @run_makeMap Try.prog
  go_enter Try.func45, Try.ntmps45
  go_wp2_with fail
  refine (HT.out _ ?_).mono ?_
  · obtain ⟨rv, hrv⟩ : ∃ rv : Array Value, #[.int .i64 N, .int .i64 M, .func (.func f1) #[] c1, .func (.func f2) #[] c2, .func (.func f3) #[] c3] = rv := ⟨_, rfl⟩
    obtain ⟨fvv, hfv⟩ : ∃ fvv : Value, .func (.func 60) #[] #[.pointer (some ⟨w.heap.size, 0, none⟩), .pointer (some ⟨w.heap.size + 2, 0, none⟩), .pointer (some ⟨w.heap.size + 3, 0, none⟩)] = fvv := ⟨_, rfl⟩
    have b0 := Below.refl w.heap.size w
    refine ⟨?_, Nat.le_refl _, ?_, ?_, ?_, ?_⟩
    · exact (((b0.alloc (Nat.le_refl _) _).alloc (by simp) _).alloc (by simp; omega) _).alloc (by simp; omega) _
    · rw [HN.out, HM.out]
      exact (((Blk.new w _ _).alloc _).alloc _).alloc _
    · have := Vn.new (w.alloc (.cells #[.int .i64 N, .int .i64 M, .func (.func f1) #[] c1, .func (.func f2) #[] c2, .func (.func f3) #[] c3] 81)) l.length (rn l) (cv l s bey)
      have h2 := this.below ((Below.refl _ _).alloc (Nat.le_refl _) (.cells #[.map (some (w.heap.size + 1))] 99))
      have h3 := h2.below ((Below.refl _ _).alloc (Nat.le_refl _) (.cells #[.func (.func 60) #[] #[.pointer (some ⟨w.heap.size, 0, none⟩), .pointer (some ⟨w.heap.size + 1 + 1, 0, none⟩), .pointer (some ⟨w.heap.size + 1 + 1 + 1, 0, none⟩)]] 79))
      simpa using h3
    · have := (Blk.new ((w.alloc (.cells #[.int .i64 N, .int .i64 M, .func (.func f1) #[] c1, .func (.func f2) #[] c2, .func (.func f3) #[] c3] 81)).alloc (.map #[] 0)) 99 #[.map (some (w.heap.size + 1))]).alloc (.cells #[.func (.func 60) #[] #[.pointer (some ⟨w.heap.size, 0, none⟩), .pointer (some ⟨w.heap.size + 1 + 1, 0, none⟩), .pointer (some ⟨w.heap.size + 1 + 1 + 1, 0, none⟩)]] 79)
      simpa using this
    · have := Blk.new (((w.alloc (.cells #[.int .i64 N, .int .i64 M, .func (.func f1) #[] c1, .func (.func f2) #[] c2, .func (.func f3) #[] c3] 81)).alloc (.map #[] 0)).alloc (.cells #[.map (some (w.heap.size + 1))] 99)) 79 #[.func (.func 60) #[] #[.pointer (some ⟨w.heap.size, 0, none⟩), .pointer (some ⟨w.heap.size + 1 + 1, 0, none⟩), .pointer (some ⟨w.heap.size + 1 + 1 + 1, 0, none⟩)]]
      simpa using this
  · rintro e w' ⟨rfl, hT⟩
    have hb := Lib.hid hT.hb
    clear hT
    go_wp2
    go_ret
    exact ⟨rfl, hb.out⟩
end Go.Proofs.Ytaielamimkigmaa
