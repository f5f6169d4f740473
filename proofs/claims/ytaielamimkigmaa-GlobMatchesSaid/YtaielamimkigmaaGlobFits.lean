/-
  A part's pieces over a name.
-/
import Derived.Test.YtaielamimkigmaaGlobCov
import Derived.Test.YtaielamimkigmaaLater
namespace Go.Proofs.Ytaielamimkigmaa
open Go.RowKit Go.ChangeShapes Globm Go.ChangeMaps

theorem enters_go {f : FuncId} {fn : Func} {c : Code} (h : Try.prog.funcs[f]? = some fn) (hn : (fn.name == "runtime.NumGoroutine") = false) (hb : fn.body = some c) :
    ∀ args w, (callFunc f args).run Try.prog w = .ok (.enter f args) w := by
  intro args w
  have : fn.name ≠ "runtime.NumGoroutine" := by simpa using hn
  simp [callFunc, h, this, hb, mark]
theorem glater_cell {w : World} (m : Later w) {p : Addr} {v : Value} (h : w.cell? p = some v) : m.to.cell? p = some v :=
  (m.bel.cell (block_lt_of_cell h)).trans h

/-- the set of a piece; a run has none -/
def ps : Mk Nat → Nat → Bool
  | .many => fun _ => false
  | .one P => P
/-- a piece's cells, from a place on -/
def PcAt (w : World) (b off : Nat) (x : Mk Nat) : Prop :=
  w.cell? ⟨b, off, none⟩ = some (.bool x.run) ∧ w.cell? ⟨b, off + 1, none⟩ = some (sw (ps x) 0) ∧ w.cell? ⟨b, off + 2, none⟩ = some (sw (ps x) 1) ∧ w.cell? ⟨b, off + 3, none⟩ = some (sw (ps x) 2) ∧ w.cell? ⟨b, off + 4, none⟩ = some (sw (ps x) 3)
/-- a row of pieces where a slice says that it is -/
def Rp (w : World) (a : Option Addr) (l : List (Mk Nat)) : Prop :=
  l.length ≤ 100000 ∧ (l = [] ∨ ∃ b off, a = some ⟨b, off, none⟩ ∧ ∀ j x, l[j]? = some x → PcAt w b (off + j * 5) x)
theorem PcAt.below {w w' : World} {b off : Nat} {x : Mk Nat} (h : PcAt w b off x) (hb : Below w.heap.size w w') : PcAt w' b off x := by
  obtain ⟨h0, h1, h2, h3, h4⟩ := h
  exact ⟨(hb.cell (p := ⟨b, off, none⟩) (block_lt_of_cell h0)).trans h0, (hb.cell (p := ⟨b, off + 1, none⟩) (block_lt_of_cell h1)).trans h1, (hb.cell (p := ⟨b, off + 2, none⟩) (block_lt_of_cell h2)).trans h2, (hb.cell (p := ⟨b, off + 3, none⟩) (block_lt_of_cell h3)).trans h3, (hb.cell (p := ⟨b, off + 4, none⟩) (block_lt_of_cell h4)).trans h4⟩
theorem Rp.below {w w' : World} {a : Option Addr} {l : List (Mk Nat)} (h : Rp w a l) (hb : Below w.heap.size w w') : Rp w' a l := by
  obtain ⟨h1, h2⟩ := h
  refine ⟨h1, ?_⟩
  rcases h2 with h2 | ⟨b, off, e, h2⟩
  · exact .inl h2
  · exact .inr ⟨b, off, e, fun j x hx => (h2 j x hx).below hb⟩
/-- a name's bytes -/
def by8 (s : ByteArray) : List Nat := s.data.toList.map (·.toNat)
theorem by8_length (s : ByteArray) : (by8 s).length = s.size := by simp [by8]

set_option maxRecDepth 100000 in
theorem matches1_any (l : List (Mk Nat)) (a : Option Addr) (n cap g i : Nat) (x : Mk Nat) (w : World) (hr : Rp w a l) (hl : l.length = n) (hx : l[i]? = some x) (hg : w.cell? ⟨g, 0, none⟩ = some (.slice a n cap)) :
    Calls Try.prog 42 #[.int .i64 i, .pointer (some ⟨g, 0, none⟩)] w fun e w' => e = .returned (.bool x.run) ∧ Below w.heap.size w w' := by
  obtain ⟨hm, h⟩ := hr
  obtain ⟨hi, -⟩ := List.getElem?_eq_some_iff.1 hx
  rcases h with rfl | ⟨b, off, rfl, h⟩
  · simp at hi
  obtain ⟨h0, -, -, -, -⟩ := h i x hx
  have hin : (i : Int) < (n : Int) := by omega
  clear h hx
  generalize x.run = r at h0 ⊢
  go_enter Try.func42, Try.ntmps42
  go_wp2
  go_ret
  exact ⟨rfl, Below.refl _ _⟩

set_option maxRecDepth 100000 in
set_option maxHeartbeats 1000000 in
theorem matches2_any (l : List (Mk Nat)) (a : Option Addr) (n cap g i k : Nat) (P : Nat → Bool) (y : Nat) (s : ByteArray) (w : World) (hr : Rp w a l) (hl : l.length = n) (hx : l[i]? = some (.one P)) (hy : (by8 s)[k]? = some y) (hg : w.cell? ⟨g, 0, none⟩ = some (.slice a n cap)) (hg1 : w.cell? ⟨g + 1, 0, none⟩ = some (.string s)) :
    Calls Try.prog 43 #[.int .i64 i, .int .i64 k, .pointer (some ⟨g, 0, none⟩), .pointer (some ⟨g + 1, 0, none⟩)] w fun e w' => e = .returned (.bool (P y)) ∧ Below w.heap.size w w' := by
  obtain ⟨hm, h⟩ := hr
  obtain ⟨hi, -⟩ := List.getElem?_eq_some_iff.1 hx
  rcases h with rfl | ⟨b, off, rfl, h⟩
  · simp at hi
  obtain ⟨-, h1, h2, h3, h4⟩ := h i _ hx
  have hin : (i : Int) < (n : Int) := by omega
  obtain ⟨hk, hy2⟩ := List.getElem?_eq_some_iff.1 hy
  rw [by8_length] at hk
  have hks : (k : Int) < (s.size : Int) := by omega
  have hyk : y = s[k].toNat := by rw [← hy2]; simp [by8]; rfl
  subst hyk
  have hlt : s[k].toNat < 256 := UInt8.toNat_lt _
  have h1 : w.cell? ⟨b, off + i * 5 + 1, none⟩ = some (sw P 0) := h1
  have h2 : w.cell? ⟨b, off + i * 5 + 2, none⟩ = some (sw P 1) := h2
  have h3 : w.cell? ⟨b, off + i * 5 + 3, none⟩ = some (sw P 2) := h3
  have h4 : w.cell? ⟨b, off + i * 5 + 4, none⟩ = some (sw P 3) := h4
  have g0 := fun m : Later w => glater_cell m hg
  have g1 := fun m : Later w => glater_cell m hg1
  have k1 := fun m : Later w => glater_cell m h1
  have k2 := fun m : Later w => glater_cell m h2
  have k3 := fun m : Later w => glater_cell m h3
  have k4 := fun m : Later w => glater_cell m h4
  have HS := Lib.hid (fun m : Later w => later_below (has_any P _ hlt m.to))
  unfold sv at HS
  clear h hx hg hg1 h1 h2 h3 h4 hy hy2 hlt
  go_enter Try.func43, Try.ntmps43
  go_wp2_with fail
  refine wp_region_later (by kernel_rfl) (by kernel_rfl) ?_
  repeat (go_big_quiet_step (with_reducible first | exact HS.out _))
  refine wpQuiet_nil ?_
  rintro _ ⟨q, rfl⟩
  go_wp2
  go_ret
  exact ⟨rfl, q.bel⟩

set_option maxRecDepth 100000 in
theorem matches_row (l : List (Mk Nat)) (a : Option Addr) (n cap g : Nat) (s : ByteArray) (w : World) (hr : Rp w a l) (hl : l.length = n) (hg : w.cell? ⟨g, 0, none⟩ = some (.slice a n cap)) (hg1 : w.cell? ⟨g + 1, 0, none⟩ = some (.string s)) :
    RowOn 42 43 34 #[.pointer (some ⟨g, 0, none⟩)] #[.pointer (some ⟨g, 0, none⟩), .pointer (some ⟨g + 1, 0, none⟩)] #[] l (by8 s) (fun _ => false) w where
  run W i x hx hb := matches1_any l a n cap g i x W (hr.below hb) hl hx ((hb.cell (p := ⟨g, 0, none⟩) (block_lt_of_cell hg)).trans hg)
  fits W i k S x hx hy hb := matches2_any l a n cap g i k S x s W (hr.below hb) hl hx hy ((hb.cell (p := ⟨g, 0, none⟩) (block_lt_of_cell hg)).trans hg) ((hb.cell (p := ⟨g + 1, 0, none⟩) (block_lt_of_cell hg1)).trans hg1)
  beyond W i _ _ _ := (nothing_any (.int .i64 i) W).mono fun e w' ⟨he, hw⟩ => ⟨he, by subst hw; exact Below.refl _ _⟩
  e1 := enters_go rfl rfl rfl
  e2 := enters_go rfl rfl rfl
  e3 := enters_go rfl rfl rfl

set_option maxRecDepth 100000 in
set_option maxHeartbeats 1000000 in
theorem matches_any (l : List (Mk Nat)) (a : Option Addr) (n cap : Nat) (s : ByteArray) (w : World) (hr : Rp w a l) (hl : l.length = n) (hs : s.size ≤ 100000) :
    Calls Try.prog 25 #[.slice a n cap, .string s] w fun e w' => e = .returned (.bool (cv l (by8 s) (fun _ => false) 0 0)) ∧ Below w.heap.size w w' := by
  obtain ⟨W, hW⟩ : ∃ W, (w.alloc (.cells #[.slice a n cap] 39)).alloc (.cells #[.string s] 9) = W := ⟨_, rfl⟩
  have hB : Below w.heap.size w W := by rw [← hW]; exact ((Below.refl _ w).alloc (Nat.le_refl _) _).alloc (by simp) _
  have b0 : Blk W w.heap.size 39 #[.slice a n cap] := by rw [← hW]; exact (Blk.new w _ _).alloc _
  have b1 : Blk W (w.heap.size + 1) 9 #[.string s] := by
    have := Blk.new (w.alloc (.cells #[.slice a n cap] 39)) 9 #[.string s]
    rw [hW] at this
    simpa using this
  have HC := Lib.hid (covers_any _ _ _ _ _ _ l (by8 s) (fun _ => false) W (matches_row l a n cap w.heap.size s W (hr.below hB) hl (b0.cell 0) (b1.cell 0)) n s.size hl (by8_length s) (by have := hr.1; omega) hs)
  have k0 : W.cell? ⟨w.heap.size, 0, none⟩ = some (.slice a n cap) := b0.cell 0
  have k1 : W.cell? ⟨w.heap.size + 1, 0, none⟩ = some (.string s) := b1.cell 0
  have HW := Lib.hid hW
  have HB := Lib.hid hB
  clear hW hB b0 b1 hr hl
  generalize cv l (by8 s) (fun _ => false) 0 0 = r at HC ⊢
  go_enter Try.func25, Try.ntmps25
  go_wp2_with fail
  rw [HW.out]
  refine HC.out.mono ?_
  rintro e w' ⟨rfl, hb⟩
  go_wp2
  go_ret
  exact ⟨rfl, HB.out.trans (hb.mono HB.out.size)⟩
end Go.Proofs.Ytaielamimkigmaa
