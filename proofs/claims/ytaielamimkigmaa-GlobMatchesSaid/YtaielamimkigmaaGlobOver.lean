/-
  A pattern over names: the program's over, Match, Size.
-/
import Derived.Test.YtaielamimkigmaaGlobNewW
namespace Go.Proofs.Ytaielamimkigmaa
open Go.RowKit Go.ChangeShapes Globm Go.ChangeMaps

/-- does a part stand for a name? -/
def fitsT (t x : ByteArray) : Bool := match marks (by8 t) with
  | some m => cv m (by8 x) (fun _ => false) 0 0
  | none => false
/-- a part as a mark over names -/
def pk (t : ByteArray) : Mk ByteArray := if isAny t then .many else .one (fitsT t)
theorem pk_run (t : ByteArray) : (pk t).run = isAny t := by unfold pk; cases isAny t <;> rfl
theorem pk_one {t : ByteArray} {S : ByteArray → Bool} (h : pk t = .one S) : S = fitsT t := by
  unfold pk at h
  split at h
  · cases h
  · injection h with h; exact h.symm
theorem pk_at {L : List ByteArray} {i : Nat} {x : Mk ByteArray} (h : (L.map pk)[i]? = some x) : ∃ t, L[i]? = some t ∧ x = pk t := by
  rw [List.getElem?_map] at h
  rcases ht : L[i]? with _ | t
  · rw [ht] at h; cases h
  · rw [ht] at h; injection h with h; exact ⟨t, rfl, h.symm⟩

set_option maxRecDepth 100000 in
theorem psize_any (v : Value) (L : List ByteArray) (w : World) (hp : Pt w v L) : Calls Try.prog 16 #[v] w fun e w' => e = .returned (.int .i64 (L.length : Int)) ∧ w = w' := by
  obtain ⟨g, A, k, c, rfl, hc, hk, -, -, -⟩ := hp
  rw [← hk]
  clear hk
  go_enter Try.func16, Try.ntmps16
  go_wp2
  go_ret
  exact ⟨rfl, rfl⟩
set_option maxRecDepth 100000 in
theorem psize_nil (w : World) : Calls Try.prog 16 #[.pointer none] w fun e w' => e = .returned (.int .i64 0) ∧ w = w' := by
  go_enter Try.func16, Try.ntmps16
  go_wp2
  go_ret
  exact ⟨rfl, rfl⟩

set_option maxRecDepth 100000 in
theorem over1_any (v : Value) (L : List ByteArray) (B i : Nat) (t : ByteArray) (w : World) (hp : Pt w v L) (hB : w.cell? ⟨B, 0, none⟩ = some v) (hi : L[i]? = some t) :
    Calls Try.prog 52 #[.int .i64 i, .pointer (some ⟨B, 0, none⟩)] w fun e w' => e = .returned (.bool (isAny t)) ∧ Below w.heap.size w w' := by
  obtain ⟨g, A, k, c, rfl, hc, hk, hkc, hc63, hL⟩ := hp
  have hil := (List.getElem?_eq_some_iff.1 hi).1
  rcases hL with hL | ⟨b, rfl, hL⟩
  · rw [hL] at hil; simp at hil
  obtain ⟨m, A', c', -, -, -, h4, -, -⟩ := hL i t hi
  have hik : (i : Int) < (k : Int) := by omega
  clear hL hi hil
  generalize isAny t = r at h4 ⊢
  go_enter Try.func52, Try.ntmps52
  go_wp2
  go_ret
  exact ⟨rfl, Below.refl _ _⟩

set_option maxRecDepth 100000 in
set_option maxHeartbeats 1000000 in
theorem over2_any (v : Value) (L : List ByteArray) (B B2 i j : Nat) (t x : ByteArray) (a : Option Addr) (n cap : Nat) (names : List ByteArray) (w : World) (hp : Pt w v L) (hB : w.cell? ⟨B, 0, none⟩ = some v) (hi : L[i]? = some t)
    (hB2 : w.cell? ⟨B2, 0, none⟩ = some (.slice a n cap)) (hR : Rs w a names) (hn : names.length = n) (hx : names[j]? = some x) (hxz : x.size ≤ 100000) :
    Calls Try.prog 53 #[.int .i64 i, .int .i64 j, .pointer (some ⟨B, 0, none⟩), .pointer (some ⟨B2, 0, none⟩)] w fun e w' => e = .returned (.bool (fitsT t x)) ∧ Below w.heap.size w w' := by
  obtain ⟨g, A, k, c, rfl, hc, hk, hkc, hc63, hL⟩ := hp
  have hil := (List.getElem?_eq_some_iff.1 hi).1
  rcases hL with hL | ⟨b, rfl, hL⟩
  · rw [hL] at hil; simp at hil
  obtain ⟨m, A', c', h1, h2, h3, -, h5, h6⟩ := hL i t hi
  obtain ⟨hjl, hxe⟩ := List.getElem?_eq_some_iff.1 hx
  rcases hR.2.2 with hR0 | ⟨d, off, rfl, hRc⟩
  · rw [hR0] at hjl; simp at hjl
  have h7 := hRc j hjl
  rw [hxe] at h7
  have hf : fitsT t x = cv m (by8 x) (fun _ => false) 0 0 := by unfold fitsT; rw [h1]
  rw [hf]
  have hik : (i : Int) < (k : Int) := by omega
  have hjn : (j : Int) < (n : Int) := by omega
  obtain ⟨N, hN⟩ : ∃ N, m.length = N := ⟨_, rfl⟩
  rw [hN] at h5
  have HM := Lib.hid (fun q : Later w => later_below (matches_any m A' N c' x q.to (h6.below q.bel) hN hxz))
  have k1 := fun q : Later w => later_cell q hB
  have k2 := fun q : Later w => later_cell q hB2
  have k3 := fun q : Later w => later_cell q hc
  have k4 := fun q : Later w => later_cell q h5
  have k5 := fun q : Later w => later_cell q h7
  clear hL hi hil hR hRc hx hxe hB hB2 hc h5 h7 h1 h6 hN hf
  generalize cv m (by8 x) (fun _ => false) 0 0 = r at HM ⊢
  go_enter Try.func53, Try.ntmps53
  go_wp2_with fail
  refine wp_region_later (by kernel_rfl) (by kernel_rfl) ?_
  repeat (go_big_quiet_step (with_reducible first | exact HM.out _))
  refine wpQuiet_nil ?_
  rintro _ ⟨q, rfl⟩
  go_wp2
  go_ret
  exact ⟨rfl, q.bel⟩

theorem over_row (f3 : Nat) (c3 : Array Value) (bey : Nat → Bool) (v : Value) (L : List ByteArray) (B : Nat) (a : Option Addr) (n cap : Nat) (names : List ByteArray) (w : World) (hp : Pt w v L) (hB : w.cell? ⟨B, 0, none⟩ = some v)
    (hB2 : w.cell? ⟨B + 1, 0, none⟩ = some (.slice a n cap)) (hR : Rs w a names) (hn : names.length = n) (hz : ∀ x ∈ names, x.size ≤ 100000)
    (hbey : ∀ (W : World) (i : Nat) (S : ByteArray → Bool), (L.map pk)[i]? = some (.one S) → Below w.heap.size w W → Calls Try.prog f3 (#[.int .i64 i] ++ c3) W fun e w' => e = .returned (.bool (bey i)) ∧ Below W.heap.size W w')
    (e3 : ∀ args w, (callFunc f3 args).run Try.prog w = .ok (.enter f3 args) w) :
    RowOn 52 53 f3 #[.pointer (some ⟨B, 0, none⟩)] #[.pointer (some ⟨B, 0, none⟩), .pointer (some ⟨B + 1, 0, none⟩)] c3 (L.map pk) names bey w where
  run W i x hx hb := by
    obtain ⟨t, ht, rfl⟩ := pk_at hx
    rw [pk_run]
    exact over1_any v L B i t W (hp.below hb) ((hb.cell (p := ⟨B, 0, none⟩) (block_lt_of_cell hB)).trans hB) ht
  fits W i k S x hx hy hb := by
    obtain ⟨t, ht, h2⟩ := pk_at hx
    rw [pk_one h2.symm]
    exact over2_any v L B (B + 1) i k t x a n cap names W (hp.below hb) ((hb.cell (p := ⟨B, 0, none⟩) (block_lt_of_cell hB)).trans hB) ht ((hb.cell (p := ⟨B + 1, 0, none⟩) (block_lt_of_cell hB2)).trans hB2) (hR.below hb) hn hy (hz x (List.mem_of_getElem? hy))
  beyond W i S hx hb := hbey W i S hx hb
  e1 := enters_go rfl rfl rfl
  e2 := enters_go rfl rfl rfl
  e3 := e3

set_option maxRecDepth 100000 in
set_option maxHeartbeats 1000000 in
theorem over_any (f3 : Nat) (c3 : Array Value) (bey : Nat → Bool) (v : Value) (L : List ByteArray) (a : Option Addr) (n cap : Nat) (names : List ByteArray) (w : World) (hp : Pt w v L) (hL : L.length ≤ 100000)
    (hR : Rs w a names) (hn : names.length = n) (hn2 : n ≤ 100000) (hz : ∀ x ∈ names, x.size ≤ 100000)
    (hbey : ∀ (W : World) (i : Nat) (S : ByteArray → Bool), (L.map pk)[i]? = some (.one S) → Below w.heap.size w W → Calls Try.prog f3 (#[.int .i64 i] ++ c3) W fun e w' => e = .returned (.bool (bey i)) ∧ Below W.heap.size W w')
    (e3 : ∀ args w, (callFunc f3 args).run Try.prog w = .ok (.enter f3 args) w) :
    Calls Try.prog 33 #[v, .slice a n cap, .func (.func f3) #[] c3] w fun e w' => e = .returned (.bool (cv (L.map pk) names bey 0 0)) ∧ Below w.heap.size w w' := by
  obtain ⟨W, hW⟩ : ∃ W, (w.alloc (.cells #[v] 30)).alloc (.cells #[.slice a n cap] 27) = W := ⟨_, rfl⟩
  have hB : Below w.heap.size w W := by rw [← hW]; exact ((Below.refl _ w).alloc (Nat.le_refl _) _).alloc (by simp) _
  have b0 : Blk W w.heap.size 30 #[v] := by rw [← hW]; exact (Blk.new w _ _).alloc _
  have b1 : Blk W (w.heap.size + 1) 27 #[.slice a n cap] := by
    have := Blk.new (w.alloc (.cells #[v] 30)) 27 #[.slice a n cap]
    rw [hW] at this
    simpa using this
  have hpW := hp.below hB
  have hRow := over_row f3 c3 bey v L w.heap.size a n cap names W hpW (b0.cell 0) (b1.cell 0) (hR.below hB) hn hz (fun W' i S h hb => hbey W' i S h (hB.trans (hb.mono hB.size))) e3
  obtain ⟨N, hN⟩ : ∃ N, L.length = N := ⟨_, rfl⟩
  have HC := Lib.hid (fun q : Later W => later_below (covers_any _ _ _ _ _ _ (L.map pk) names bey q.to ⟨fun W' i x hx hb => hRow.run W' i x hx (q.bel.trans (hb.mono q.bel.size)), fun W' i k S x hx hy hb => hRow.fits W' i k S x hx hy (q.bel.trans (hb.mono q.bel.size)), fun W' i S hx hb => hRow.beyond W' i S hx (q.bel.trans (hb.mono q.bel.size)), hRow.e1, hRow.e2, hRow.e3⟩ N n (by rw [List.length_map, hN]) hn (by omega) hn2))
  obtain ⟨g, A, k, c, rfl, hc, hk, -, -, -⟩ := hpW
  rw [hN] at hk
  subst hk
  have k0 := fun q : Later W => later_cell q (b0.cell 0)
  have k1 := fun q : Later W => later_cell q (b1.cell 0)
  have k2 := fun q : Later W => later_cell q hc
  have HW := Lib.hid hW
  have HB := Lib.hid hB
  clear hW hB b0 b1 hR hn hz hbey e3 hRow hc hN hp hL
  generalize cv (L.map pk) names bey 0 0 = r at HC ⊢
  go_enter Try.func33, Try.ntmps33
  go_wp2_with fail
  rw [HW.out]
  refine wp_region_later (by kernel_rfl) (by kernel_rfl) ?_
  repeat (go_big_quiet_step (with_reducible first | exact HC.out _))
  refine wpQuiet_nil ?_
  rintro _ ⟨q, rfl⟩
  go_wp2
  go_ret
  exact ⟨rfl, HB.out.trans (q.bel.mono HB.out.size)⟩
end Go.Proofs.Ytaielamimkigmaa
