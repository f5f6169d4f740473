/-
  The statements' own calls: that any byte is put as the document says, and that any bytes have the document's sum.
-/
import Derived.Test.YtgadiloflepclaaCrcKnown
import Derived.OpenShut
namespace Go.Proofs.Ytgadiloflepclaa
open Go.RowKit Crcm Go.ChangeShapes

theorem U32_wf {n : Int} (h : (Lit.int .u32 n).wf = true) : U32 n := by have := bounds_u32 h; unfold U32; omega
theorem U8_wf {n : Int} (h : (Lit.int .u8 n).wf = true) : U8 n := by have := bounds_u8 h; unfold U8; omega

/-- what is told of a slice of bytes that came in -/
def Row8 (w : World) (a : Option Addr) (len cap : Nat) (zs : List Int) : Prop :=
  (a = none ∧ len = 0 ∧ cap = 0 ∧ zs = []) ∨
  ∃ x, a = some x ∧ len ≤ cap ∧ cap ≤ maxLen ∧ zs.length = cap ∧ (∀ i, i < zs.length → w.cell? (x.add i) = some (.int .u8 (zs.getD i 0))) ∧ ∀ n ∈ zs, (Lit.int .u8 n).wf = true

theorem Row8.rw {w : World} {a : Option Addr} {len cap : Nat} {zs : List Int} (h : Row8 w a len cap zs) : ∃ l : List Int, l.length = len ∧ len ≤ cap ∧ Rw w a l ∧ l = zs.take len := by
  rcases h with ⟨rfl, rfl, rfl, rfl⟩ | ⟨x, rfl, hl, hm, hz, hc, hw⟩
  · exact ⟨[], rfl, Nat.le_refl _, ⟨by simp, by simp, .inl rfl⟩, rfl⟩
  · refine ⟨zs.take len, by rw [List.length_take]; omega, hl, ⟨fun n hn => U8_wf (hw n (List.mem_of_mem_take hn)), by rw [List.length_take]; omega, ?_⟩, rfl⟩
    by_cases h0 : len = 0
    · left; subst h0; rfl
    · right
      obtain ⟨b, off, spot⟩ := x
      have hc0 := hc 0 (by omega)
      have hspot : spot = none := by simpa [Addr.add] using World.cell?_spot hc0
      subst hspot
      refine ⟨b, off, rfl, fun i hi => ?_⟩
      have hi' : i < len := by rw [List.length_take] at hi; omega
      have := hc i (by omega)
      rw [show (⟨b, off, none⟩ : Addr).add i = ⟨b, off + i, none⟩ by simp [Addr.add]] at this
      rw [this]
      simp [List.getD_eq_getElem?_getD, hi']

theorem Rw.below {w w' : World} {a : Option Addr} {zs : List Int} (h : Rw w a zs) (hb : Below w.heap.size w w') : Rw w' a zs := by
  obtain ⟨h1, h2, h3⟩ := h
  refine ⟨h1, h2, ?_⟩
  rcases h3 with h3 | ⟨b, off, rfl, h3⟩
  · exact .inl h3
  · refine .inr ⟨b, off, rfl, fun i hi => ?_⟩
    have hc := h3 i hi
    rw [hb.cell (p := ⟨b, off + i, none⟩) (block_lt_of_cell hc)]
    exact hc

theorem crcPuts_walk (a0 : Int) (a1 : Int) (w0 : (Lit.int .u32 a0).wf = true) (w1 : (Lit.int .u8 a1).wf = true) (w : World) :
    Calls Try.prog 3 #[.int .u32 a0, .int .u8 a1] w fun e w' => e = .returned (.bool true) ∧ Below w.heap.size w w' := by
  have h0 := U32_wf w0
  have h1 := U8_wf w1
  clear w0 w1
  go_enter Try.func3, Try.ntmps3
  go_wp2_with (first | (go_at_call 15; refine (put_any _ _ _ h0 h1).mono ?_; rintro e w' ⟨rfl, rfl⟩) | (go_at_call 16; refine (refput_any _ _ _ h0 h1).mono ?_; rintro e w' ⟨rfl, rfl⟩) | (go_at_call 17; refine (known_any _).mono ?_; rintro e w' ⟨rfl, hb⟩))
  go_ret
  exact ⟨rfl, hb⟩

theorem long_any (a : Option Addr) (len cap : Nat) (w : World) :
    Calls Try.prog 18 #[.slice a len cap] w fun e w' => e = .returned (.bool (decide ((2000 : Int) < len))) ∧ w = w' := by
  go_enter Try.func18, Try.ntmps18
  go_wp2
  go_ret
  exact ⟨rfl, rfl⟩

theorem long_yes (a : Option Addr) (len cap : Nat) (w : World) (h : 2000 < len) :
    Calls Try.prog 18 #[.slice a len cap] w fun e w' => e = .returned (.bool true) ∧ w = w' := by
  have := long_any a len cap w
  rwa [decide_eq_true (by omega : (2000 : Int) < len)] at this
theorem long_no (a : Option Addr) (len cap : Nat) (w : World) (h : len ≤ 2000) :
    Calls Try.prog 18 #[.slice a len cap] w fun e w' => e = .returned (.bool false) ∧ w = w' := by
  have := long_any a len cap w
  rwa [decide_eq_false (by omega : ¬ (2000 : Int) < len)] at this

theorem crcSums_walk (a0 : Int) (a1 : Option Addr) (len1 cap1 : Nat) (z1 : List Int) (w : World) (w0 : (Lit.int .u32 a0).wf = true) (w1 : Row8 w a1 len1 cap1 z1) :
    Calls Try.prog 4 #[.int .u32 a0, .slice a1 len1 cap1] w fun e w' => e = .returned (.bool true) ∧ Below w.heap.size w w' := by
  have h0 := U32_wf w0
  obtain ⟨l, rfl, hcap, hr, -⟩ := w1.rw
  clear w0 w1
  by_cases hl : 2000 < l.length
  · go_enter Try.func4, Try.ntmps4
    go_wp2_with (first | (go_at_call 18; refine (long_yes _ _ _ _ hl).mono ?_; rintro e w' ⟨rfl, rfl⟩) | (go_at_call 17; refine (known_any _).mono ?_; rintro e w' ⟨rfl, hb⟩))
    go_ret
    exact ⟨rfl, hb⟩
  · go_enter Try.func4, Try.ntmps4
    go_wp2_with (first | (go_at_call 18; refine (long_no _ _ _ _ (by omega)).mono ?_; rintro e w' ⟨rfl, rfl⟩) | (go_at_call 19; refine (sum_any _ _ _ _ hr).mono ?_; rintro e w' ⟨rfl, rfl⟩) | (go_at_call 20; refine (refsum_any _ _ _ _ hr).mono ?_; rintro e w' ⟨rfl, rfl⟩) | (go_at_call 21; refine (more_any _ _ _ _ _ h0 hr).mono ?_; rintro e w' ⟨rfl, rfl⟩) | (go_at_call 22; refine (refmore_any _ _ _ _ _ h0 hr).mono ?_; rintro e w' ⟨rfl, rfl⟩) | (go_at_call 17; refine (known_any _).mono ?_; rintro e w' ⟨rfl, hb⟩))
    go_ret
    exact ⟨rfl, hb⟩

end Go.Proofs.Ytgadiloflepclaa
