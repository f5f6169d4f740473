/-
  How a copy is looked for: the program's alike, and the library's way from behind over a row of numbers. Nothing of one statement alone stands here.
-/
import Derived.Test.YtaohkakefdhecaaSqFind
import Derived.Test.YtaohkakefdhecaaSqIter
import Derived.Test.YtaohkakefdhecaaInts
namespace Go.Proofs.Ytaohkakefdhecaa
open Go.RowKit Go.Shelf Crcm Sqm Tagm Inom Roomm Go.ChangeShapes

attribute [local go_sem] Oper.semAt_some

theorem Rw.get {w : World} {b o : Nat} {l : List Int} (h : Rw w (some ⟨b, o, none⟩) l) {j : Nat} (hj : j < l.length) : w.cell? ⟨b, o + j, none⟩ = some (.int .u8 (l.getD j 0)) := by
  rcases h.2.2 with rfl | ⟨b', o', e, hc⟩
  · simp at hj
  · injection e with e; injection e with e1 e2; subst e1 e2
    exact hc j hj

set_option maxRecDepth 100000 in
set_option maxHeartbeats 1000000 in
theorem alike_any (b off m c p q M : Nat) (l : List Int) (w : World) (hr : Rw w (some ⟨b, off, none⟩) l) (hl : l.length = m) (hm : (m : Int) ≤ 4611686018427380000) (hp : p + M ≤ m) (hq : q + M ≤ m) :
    Calls Try.prog 34 #[.slice (some ⟨b, off, none⟩) m c, .int .i64 p, .int .i64 q, .int .i64 M] w fun e w' => e = .returned (.int .i64 (al l p q M : Nat)) ∧ Below w.heap.size w w' := by
  have HR := Lib.hid hr
  have HL := Lib.hid hl
  clear hr hl
  go_enter Try.func34, Try.ntmps34
  go_wp2_with fail
  go_loopw [9] (fun s9 wr => ∃ n : Nat, n ≤ M ∧ s9 = .int .i64 (n : Int) ∧ Hid (al l p q n = n) ∧ Hid (Below w.heap.size w wr)) (fun s9 _ => M - (intOf s9).toNat)
  case atStart => exact ⟨0, by omega, rfl, Lib.hid rfl, Lib.hid (Below.refl _ _)⟩
  case round =>
    obtain ⟨n, hn, rfl, hA, hB⟩ := hrel
    by_cases hlt : n < M
    · have g1 := (HR.out.below hB.out).get (j := p + n) (by have := HL.out; omega)
      have g2 := (HR.out.below hB.out).get (j := q + n) (by have := HL.out; omega)
      have HY : Hid (l.getD (p + n) 0 = l.getD (q + n) 0 → al l p q (n + 1) = n + 1) := Lib.hid (fun h => al_succ hA.out h)
      have HN : Hid (l.getD (p + n) 0 ≠ l.getD (q + n) 0 → al l p q M = n) := Lib.hid (fun h => al_stop' hA.out h hn)
      generalize l.getD (p + n) 0 = x at g1 HY HN
      generalize l.getD (q + n) 0 = y at g2 HY HN
      have e1 := fun mm : Later wr => latercell mm g1
      have e2 := fun mm : Later wr => latercell mm g2
      have hltI : (n : Int) < (M : Int) := by omega
      clear g1 g2
      by_cases hxy : x = y
      · have HS := Lib.hid (HY.out hxy)
        have t : ((x : Int) == y) = true := by simp [hxy]
        clear HY HN hxy
        go_wp2_with fail
        refine wp_region_later (by kernel_rfl) (by kernel_rfl) ?_
        repeat (go_big_quiet_step (fail))
        refine wpQuiet_nil ?_
        rintro _ ⟨mm, rfl⟩
        go_wp2
        go_roundw
        case rel => exact ⟨n + 1, by omega, by go_num, HS, Lib.hid (hB.out.trans (mm.bel.mono hB.out.size))⟩
        case measure => simp [intOf]; omega
      · have HS := Lib.hid (HN.out hxy)
        have t : ((x : Int) == y) = false := by simp [hxy]
        clear HY HN hxy
        go_wp2_with fail
        refine wp_region_later (by kernel_rfl) (by kernel_rfl) ?_
        repeat (go_big_quiet_step (fail))
        refine wpQuiet_nil ?_
        rintro _ ⟨mm, rfl⟩
        go_wp2
        go_ret
        exact ⟨by rw [HS.out]; rfl, hB.out.trans (mm.bel.mono hB.out.size)⟩
    · have hnM : n = M := by omega
      have HS : Hid (al l p q M = n) := Lib.hid (by rw [← hnM]; exact hA.out)
      have hltI : ¬ (n : Int) < (M : Int) := by omega
      clear hnM
      go_wp2_with fail
      refine wp_region_later (by kernel_rfl) (by kernel_rfl) ?_
      repeat (go_big_quiet_step (fail))
      refine wpQuiet_nil ?_
      rintro _ ⟨mm, rfl⟩
      go_wp2
      go_ret
      exact ⟨by rw [HS.out]; rfl, hB.out.trans (mm.bel.mono hB.out.size)⟩

theorem Ri.kb {W wr : World} {l : List Int} {a : Option Addr} {b : Nat} (h : Ri W a l) (hb : l = [] ∨ ∃ off, a = some ⟨b, off, none⟩) (hk : wr.heap[b]? = W.heap[b]?) : Ri wr a l := by
  obtain ⟨h1, h2, h3⟩ := h
  refine ⟨h1, h2, ?_⟩
  rcases h3 with h3 | ⟨b', o', e, h3⟩
  · exact .inl h3
  · rcases hb with hb | ⟨off, rfl⟩
    · exact .inl hb
    · injection e with e; injection e with e1 e2; subst e1 e2
      exact .inr ⟨b, off, rfl, fun i hi => (World.cell?_of_block (a := ⟨b, off + i, none⟩) hk).trans (h3 i hi)⟩

set_option maxRecDepth 100000 in
set_option maxHeartbeats 1000000 in
theorem backward_in (n : Nat) (_hn : 1 ≤ n) (Bn b m c : Nat) (a : Option Addr) (zs : List Int) (hl : zs.length = m) (hmc : m ≤ c) (hm : (m : Int) ≤ 4611686018427380000) (w : World)
    (hbk : Blk w Bn 58 #[.slice a m c]) (hr : Ri w a zs) (hb : zs = [] ∨ ∃ off, a = some ⟨b, off, none⟩) (_hbl : b < w.heap.size) :
    SeqAt Fence.wide n Try.prog 36 #[.pointer (some ⟨Bn, 0, none⟩)] (fun k => #[.int .i64 ((m : Int) - 1 - (k : Int)), .int .i64 (zs.getD (m - 1 - k) 0)]) (fun _ _ _ => False) 0 (fun _ => Kb2 Bn b) m w := by
  intro y J Jx W hW hJ _ hY h0
  have hbkW := hbk.below hW hbk.lt
  have hrW := hr.below hW
  clear hbk hr hW _hbl w
  have HJ := Lib.hid hJ
  have HL := Lib.hid hl
  have HR : Hid (∀ wr : World, wr.heap[b]? = W.heap[b]? → Ri wr a zs) := Lib.hid fun wr hk => hrW.kb hb hk
  have HBk : Hid (∀ wr : World, wr.heap[Bn]? = W.heap[Bn]? → wr.cell? ⟨Bn, 0, none⟩ = some (.slice a m c)) := Lib.hid fun wr hk => Blk.cell (cs := #[.slice a m c]) (hk.trans hbkW) 0
  have HY := Lib.hid hY
  have cW := hbkW.cell 0
  clear hJ hY hrW hb
  refine callsIn_of_wp Try.func36 rfl trivial ?_ rfl
  simp only [Try.ntmps36, List.size_toArray, List.length_cons, List.length_nil, Nat.reduceAdd, Nat.reduceSub, Array.replicate_succ, Array.replicate_zero, List.push_toArray, List.append_toArray, List.nil_append, List.cons_append]
  gi_wp2_with fail
  gi_loopw [3] (fun s3 wr => ∃ k : Nat, k ≤ m ∧ s3 = .int .i64 ((m : Int) - 1 - (k : Int)) ∧ Hid (J k wr) ∧ Hid (wr.heap[b]? = W.heap[b]?) ∧ Hid (wr.heap[Bn]? = W.heap[Bn]?) ∧ Hid (W.heap.size ≤ wr.heap.size)) (fun s3 _ => (intOf s3 + 1).toNat)
  case atStart => exact ⟨0, by omega, by simp, Lib.hid h0, Lib.hid rfl, Lib.hid rfl, Lib.hid (Nat.le_refl _)⟩
  case round =>
    obtain ⟨k, hk, rfl, hJk, hb, hB, hsz⟩ := hrel
    have hc := HBk.out wr hB.out
    by_cases hlt : k < m
    · obtain ⟨b2, off, rfl, hcell⟩ := (HR.out wr hb.out).at (j := m - 1 - k) (by have := HL.out; omega)
      obtain ⟨j, hj⟩ : ∃ j, m - 1 - k = j := ⟨_, rfl⟩
      have ej : (m : Int) - 1 - (k : Int) = (j : Int) := by omega
      have HYk := Lib.hid (HY.out k wr hlt hJk.out (by have := hsz.out; omega))
      rw [hj] at hcell HYk
      rw [ej] at HYk ⊢
      have HK := Lib.hid hlt
      have HEJ := Lib.hid ej
      generalize zs.getD j 0 = x at hcell HYk
      have jm : j < m := by omega
      have hj0 : (0 : Int) ≤ (j : Int) := by omega
      obtain ⟨fn, tmps, assign, body, hy, hR⟩ := HYk.out
      clear hj hlt ej HYk
      gi_wp2_with fail
      refine hR.mono ?_
      rintro e W3 (⟨rfl, hJ3, hk3⟩ | ⟨rfl, hJx3, -⟩)
      · have HJ3 := Lib.hid hJ3
        have HB3 := Lib.hid (hk3.1.trans hB.out)
        have Hb3 := Lib.hid (hk3.2.1.trans hb.out)
        have HSz := Lib.hid (Nat.le_trans hsz.out hk3.2.2)
        clear hJ3 hk3
        gi_wp2
        go_roundw
        case rel => exact ⟨k + 1, by have := HK.out; omega, by rw [show (m : Int) - 1 - ((k + 1 : Nat) : Int) = (j : Int) - 1 by have := HEJ.out; omega], HJ3, Hb3, HB3, HSz⟩
        case measure => simp [intOf]
      · have HJx := Lib.hid hJx3
        clear hJx3
        gi_wp2
        refine bodyPost_ret (results_none rfl _ _ _) rfl ?_
        exact ⟨⟨_, rfl⟩, .inr ⟨k + 1, HK.out, HJx.out⟩⟩
    · have hkm : k = m := by omega
      subst hkm
      have hj0 : ¬ (0 : Int) ≤ (k : Int) - 1 - (k : Int) := by omega
      gi_wp2
      go_end0
      exact ⟨⟨_, rfl⟩, .inl hJk.out⟩

/-- what its maker gives -/
theorem backwardOf_in (n : Nat) (a : Option Addr) (m c : Nat) (w : World) :
    CallsIn Fence.wide n Try.prog 33 #[.slice a m c] w fun e w' => e = .returned (.func (.func 36) #[] #[.pointer (some ⟨w.heap.size, 0, none⟩)]) ∧ w' = w.alloc (.cells #[.slice a m c] 58) := by
  refine callsIn_of_wp Try.func33 rfl trivial ?_ rfl
  simp only [Try.ntmps33, List.size_toArray, List.length_cons, List.length_nil, Nat.reduceAdd, Nat.reduceSub, Array.replicate_succ, Array.replicate_zero, List.push_toArray, List.append_toArray, List.nil_append, List.cons_append]
  gi_wp2
  go_ret
  exact ⟨rfl, rfl⟩
end Go.Proofs.Ytaohkakefdhecaa
