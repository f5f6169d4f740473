/-
  The inode of bytes: what the program's Read answers.
-/
import Derived.Test.YtolahkfjlifnoaaInoWrite
namespace Go.Proofs.Ytolahkfjlifnoaa
open Go.RowKit Crcm Tagm Inom Go.ChangeShapes

/-- the number at a place of bytes -/
def nat_ (l : List Int) (p n : Nat) : Int := nu ((l.drop p).take n)
/-- the inode of bytes -/
def rd (l : List Int) : Ind := ⟨nat_ l 0 1, nat_ l 2 2, nat_ l 4 4, nat_ l 8 2, nat_ l 10 2, nat_ l 12 2, nat_ l 14 2, nat_ l 16 2, nat_ l 18 2, nat_ l 20 2, nat_ l 22 2⟩
theorem rd_wb {i : Ind} (h : IR i) : rd (wb i) = i ∧ nat_ (wb i) 1 1 = 0 := by
  obtain ⟨⟨a0, a1⟩, ⟨b0, b1⟩, ⟨c0, c1⟩, ⟨⟨e0, e1⟩, ⟨f0, f1⟩, ⟨g0, g1⟩, ⟨h0, h1⟩, ⟨j0, j1⟩, ⟨m0, m1⟩⟩, ⟨n0, n1⟩, ⟨o0, o1⟩⟩ := h.bd
  clear h
  obtain ⟨k, l, s, d0, d1, d2, d3, d4, d5, sg, db⟩ := i
  simp only at *
  have e2 : ∀ x : Int, le 2 x = [x % 256, x / 256 % 256] := fun x => rfl
  have e4 : ∀ x : Int, le 4 x = [x % 256, x / 256 % 256, x / 256 / 256 % 256, x / 256 / 256 / 256 % 256] := fun x => rfl
  unfold rd nat_ wb dsl
  simp only [List.flatMap_cons, List.flatMap_nil, e2, e4, List.cons_append, List.nil_append, List.append_nil, List.drop_succ_cons, List.drop_zero, List.take_succ_cons, List.take_zero, nu, Ind.mk.injEq]
  refine ⟨⟨by omega, by omega, by omega, by omega, by omega, by omega, by omega, by omega, by omega, by omega, by omega⟩, by omega⟩

set_option maxRecDepth 100000 in
set_option maxHeartbeats 400000 in
theorem take_any (g b off m c n : Nat) (l : List Int) (w : World) (hc : w.cell? ⟨g, 0, none⟩ = some (.slice (some ⟨b, off, none⟩) m c)) (hf : w.frozen? ⟨g, 0, none⟩ = false)
    (hr : Rw w (some ⟨b, off, none⟩) l) (hl : l.length = m) (hn : n ≤ 4) (hnm : n ≤ m) (hmc : m ≤ c) (hm : m ≤ 100) :
    Calls Try.prog 61 #[.int .i64 n, .pointer (some ⟨g, 0, none⟩)] w fun e w' => ∃ a', e = .returned (.int .i64 (nu (l.take n))) ∧ w' = w.setCell ⟨g, 0, none⟩ (.slice a' (m - n) (c - n)) ∧ (n < c → a' = some ⟨b, off + n, none⟩) := by
  have HN := Lib.hid (inumber_any (some ⟨b, off, none⟩) n c (l.take n) w (hr.take n) (by rw [List.length_take]; omega) hn)
  clear hr
  by_cases h : n < c
  · go_enter Try.func61, Try.ntmps61
    go_wp2_with fail
    refine HN.out.mono ?_
    rintro r w' ⟨rfl, rfl⟩
    go_wp2
    go_ret
    exact ⟨_, rfl, rfl, fun _ => rfl⟩
  · obtain rfl : n = c := by omega
    obtain rfl : n = m := by omega
    go_enter Try.func61, Try.ntmps61
    go_wp2_with fail
    refine HN.out.mono ?_
    rintro r w' ⟨rfl, rfl⟩
    go_wp2
    go_ret
    exact ⟨some ⟨b, off, none⟩, rfl, by simp, fun h => absurd h (by omega)⟩

/-- what stands while an inode is read: the answer's block, what is left, the inode so far, the bytes -/
structure Rst (w W : World) (b off : Nat) (l : List Int) (k c : Nat) (cs : Array Value) : Prop where
  r : Blk W w.heap.size 24 #[.int .i64 0, .int .i64 0, .int .i64 0, .int .i64 0, .int .i64 0, .int .i64 0, .int .i64 0, .int .i64 0, .int .i64 0, .int .i64 0, .int .i64 0]
  p : ∃ a, Blk W (w.heap.size + 1) 25 #[.slice a (24 - k) (c - k)] ∧ (k < c → a = some ⟨b, off + k, none⟩)
  i : Blk W (w.heap.size + 2) 24 cs
  s : Rw w (some ⟨b, off, none⟩) l
  b : Below w.heap.size w W
theorem Rst.put {w W : World} {b off : Nat} {l : List Int} {k c : Nat} {cs : Array Value} (h : Rst w W b off l k c cs) (j : Nat) (x : Value) : Rst w (W.setCell ⟨w.heap.size + 2, j, none⟩ x) b off l k c (cs.setIfInBounds j x) := by
  obtain ⟨a, ha, hk⟩ := h.p
  exact ⟨h.r.far (by simp) x, ⟨a, ha.far (by simp) x, hk⟩, h.i.put j x, h.s, h.b.setCell (p := ⟨w.heap.size + 2, j, none⟩) (by simp) _⟩

theorem itake {w W : World} {b off : Nat} {l : List Int} {k c : Nat} {cs : Array Value} (h : Rst w W b off l k c cs) (n : Nat) (N : Int) (hN : N = n) (hl : l.length = 24) (hn : n ≤ 4) (hk : k + n ≤ 24) (h0 : k < 24) (hc : 24 ≤ c) :
    Calls Try.prog 61 #[.int .i64 N, .pointer (some ⟨w.heap.size + 1, 0, none⟩)] W fun e W' => e = .returned (.int .i64 (nat_ l k n)) ∧ Rst w W' b off l (k + n) c cs := by
  subst hN
  obtain ⟨a, ha, hq⟩ := h.p
  obtain rfl := hq (by omega)
  have hr := (h.s.below h.b).drop k (a' := some ⟨b, off + k, none⟩) (fun b' off' e _ => by injection e with e; injection e with e1 e2; subst e1 e2; rfl)
  refine (take_any (w.heap.size + 1) b (off + k) (24 - k) (c - k) n (l.drop k) W (ha.cell 0) (ha.frozen 0) hr (by rw [List.length_drop, hl]) hn (by omega) (by omega) (by omega)).mono ?_
  rintro e W' ⟨a', rfl, rfl, ha'⟩
  refine ⟨rfl, h.r.far (by simp) _, ⟨a', ?_, fun g => ?_⟩, h.i.far (by simp) _, h.s, h.b.setCell (p := ⟨w.heap.size + 1, 0, none⟩) (by simp) _⟩
  · have := ha.put 0 (.slice a' (24 - k - n) (c - k - n))
    rw [Nat.sub_sub, Nat.sub_sub] at this ⊢
    exact this
  · rw [ha' (by omega), Nat.add_assoc]

theorem iread_len (a : Option Addr) (n cap : Nat) (w : World) (h : n ≠ 24) : Calls Try.prog 20 #[.slice a n cap] w fun e w' => e = .returned (.tuple #[iv zi, .int .i64 1]) ∧ Below w.heap.size w w' := by
  have h1 : ((n : Int) == 24) = false := by simp; omega
  have h2 : ((n : Int) != 24) = true := by simp; omega
  unfold iv zi
  go_enter Try.func20, Try.ntmps20
  go_wp2
  exact bodyPost_ret (v := .tuple #[.agg #[.int .i64 0, .int .i64 0, .int .i64 0, .int .i64 0, .int .i64 0, .int .i64 0, .int .i64 0, .int .i64 0, .int .i64 0, .int .i64 0, .int .i64 0], .int .i64 1]) (by simp [results, Try.results20, go_sem]) rfl ⟨rfl, (Below.refl _ _).alloc (Nat.le_refl _) _⟩

theorem Rst.next {w W W' : World} {b off : Nat} {l : List Int} {k c : Nat} {cs : Array Value} (h : Rst w W b off l k c cs) (hb : Below W.heap.size W W') : Rst w W' b off l k c cs := by
  obtain ⟨a, ha, hk⟩ := h.p
  exact ⟨h.r.below hb h.r.lt, ⟨a, ha.below hb ha.lt, hk⟩, h.i.below hb h.i.lt, h.s, h.b.trans (hb.mono h.b.size)⟩

/-- a block of eleven numbers, written over -/
def ovI (w : World) (g : Nat) (i : Ind) : World := (((((((((((w.setCell ⟨g, 0, none⟩ (.int .i64 i.k)).setCell ⟨g, 1, none⟩ (.int .i64 i.l)).setCell ⟨g, 2, none⟩ (.int .i64 i.s)).setCell ⟨g, 3, none⟩ (.int .i64 i.d0)).setCell ⟨g, 4, none⟩ (.int .i64 i.d1)).setCell ⟨g, 5, none⟩ (.int .i64 i.d2)).setCell ⟨g, 6, none⟩ (.int .i64 i.d3)).setCell ⟨g, 7, none⟩ (.int .i64 i.d4)).setCell ⟨g, 8, none⟩ (.int .i64 i.d5)).setCell ⟨g, 9, none⟩ (.int .i64 i.sg)).setCell ⟨g, 10, none⟩ (.int .i64 i.db))
theorem ovI_blk {w : World} {g : Nat} {t : TypeId} {a0 a1 a2 a3 a4 a5 a6 a7 a8 a9 a10 : Value} {i : Ind} (h : Blk w g t #[a0, a1, a2, a3, a4, a5, a6, a7, a8, a9, a10]) : Blk (ovI w g i) g t #[.int .i64 i.k, .int .i64 i.l, .int .i64 i.s, .int .i64 i.d0, .int .i64 i.d1, .int .i64 i.d2, .int .i64 i.d3, .int .i64 i.d4, .int .i64 i.d5, .int .i64 i.sg, .int .i64 i.db] := by
  have := (((((((((((h.put 0 (.int .i64 i.k)).put 1 (.int .i64 i.l)).put 2 (.int .i64 i.s)).put 3 (.int .i64 i.d0)).put 4 (.int .i64 i.d1)).put 5 (.int .i64 i.d2)).put 6 (.int .i64 i.d3)).put 7 (.int .i64 i.d4)).put 8 (.int .i64 i.d5)).put 9 (.int .i64 i.sg)).put 10 (.int .i64 i.db))
  simpa [ovI] using this
theorem ovI_below {w0 w : World} {B g : Nat} {i : Ind} (h : Below B w0 w) (hg : B ≤ g) : Below B w0 (ovI w g i) := by
  unfold ovI
  exact (((((((((((h.setCell (p := ⟨g, 0, none⟩) hg _).setCell (p := ⟨g, 1, none⟩) hg _).setCell (p := ⟨g, 2, none⟩) hg _).setCell (p := ⟨g, 3, none⟩) hg _).setCell (p := ⟨g, 4, none⟩) hg _).setCell (p := ⟨g, 5, none⟩) hg _).setCell (p := ⟨g, 6, none⟩) hg _).setCell (p := ⟨g, 7, none⟩) hg _).setCell (p := ⟨g, 8, none⟩) hg _).setCell (p := ⟨g, 9, none⟩) hg _).setCell (p := ⟨g, 10, none⟩) hg _)

end Go.Proofs.Ytolahkfjlifnoaa
