/-
  The document's manager: its blocks. Nothing of one statement alone stands here.
-/
import Derived.Test.YtjjggmopkfkpaaaGreatKX
import Derived.Test.YtjjggmopkfkpaaaGreatKL
import Derived.Deep.RegionLaw
import Derived.Deep.RegionHeld3
import Derived.Deep.CutBlock
import Derived.Deep.DeepCutAuto
namespace Go.Proofs.YtjjggmopkfkpaaaGreat
open Go.RowKit Crcm Gcm Go.ChangeShapes

set_option maxRecDepth 100000 in
set_option maxHeartbeats 4000000 in
theorem rmall_any {w : World} {X : Nat → Prop} {o : Rb} {q : Rq} {nb np sz : Nat} {dn : Bool} (h : RmAt w X o q nb np sz dn) :
    Calls Tryz.prog 57 #[.pointer (some ⟨q.d, 0, none⟩)] w fun e w' => (∃ g cap l, e = .returned (.slice (some ⟨g, 0, none⟩) nb cap) ∧ OwnB w' g l ∧ l.length = nb ∧ w.heap.size ≤ g) ∧ Below w.heap.size w w' := by
  obtain ⟨i0, hi, hz0, hz1, hz2⟩ := infoG_parts
  have hnb : nb < 129 := h.chip.good.2.1
  have hn7 : 7 < nb := h.chip.good.1
  have HH := Lib.hid h
  have HC1 : Hid (∀ W, Below w.heap.size w W → W.cell? ⟨q.d, 1, none⟩ = some (.slice (some ⟨q.s, 0, none⟩) nb q.cs)) := Lib.hid fun W hb => (h.below hb).cells.2.1
  clear h
  go_enter Tryz.func57, Tryz.ntmps57
  go_wp2_with fail
  go_loopw [3, 4] (fun s i wr => ∃ (k : Nat) (l : List Bk) (a0 : Option Addr) (b0 : Nat), k ≤ nb ∧ i = .int .i64 k ∧ s = .slice a0 k b0 ∧ Hid (l.length = k) ∧ Hid (wr.ownsRow w.heap.size 68 4 (.slice a0 k b0) k (flat l)) ∧ Hid (Below w.heap.size w wr)) (fun _ i _ => nb - (intOf i).toNat)
  case atStart => exact ⟨0, [], none, 0, by omega, rfl, rfl, Lib.hid rfl, Lib.hid (World.ownsRow_nil _ _ _ _), Lib.hid (Below.refl _ _)⟩
  case round =>
    obtain ⟨k, l, a0, b0, hk, rfl, rfl, HLn, HO, E⟩ := hrel
    have c1 := HC1.out wr E.out
    by_cases hlt : k < nb
    · have kl : (k : Int) < (nb : Int) := by omega
      obtain ⟨z, hz⟩ := HH.out.st.cell hlt
      obtain ⟨y, hy⟩ := HH.out.lv.cell hlt
      obtain ⟨x, hx⟩ := HH.out.nx.cell hlt
      obtain ⟨-, -, -, ⟨u, hu⟩⟩ := HH.out.chip.row hlt
      have HC : Hid (∀ W, Below w.heap.size w W → W.cell? ⟨q.d, 0, none⟩ = some (.pointer (some ⟨o.g, 0, none⟩)) ∧ W.cell? ⟨q.d, 1, none⟩ = some (.slice (some ⟨q.s, 0, none⟩) nb q.cs) ∧ W.cell? ⟨q.d, 2, none⟩ = some (.slice (some ⟨q.l, 0, none⟩) nb q.cl) ∧ W.cell? ⟨q.d, 3, none⟩ = some (.slice (some ⟨q.n, 0, none⟩) nb q.cn) ∧
          W.cell? ⟨o.g, 7, none⟩ = some (.slice (some ⟨o.v, 0, none⟩) nb nb) ∧ W.cell? ⟨q.s, k, none⟩ = some (.int .i64 z) ∧ W.cell? ⟨q.l, k, none⟩ = some (.int .i64 y) ∧ W.cell? ⟨o.v, k, none⟩ = some (.int .i64 u) ∧ W.cell? ⟨q.n, k, none⟩ = some (.int .i64 x)) := Lib.hid fun W hb => by
        obtain ⟨d0, d1, d2, d3⟩ := (HH.out.below hb).cells
        exact ⟨d0, d1, d2, d3, (HH.out.below hb).chip.rows.2.2.2.2, (hb.cell (p := ⟨q.s, k, none⟩) (block_lt_of_cell hz)).trans hz, (hb.cell (p := ⟨q.l, k, none⟩) (block_lt_of_cell hy)).trans hy, (hb.cell (p := ⟨o.v, k, none⟩) (block_lt_of_cell hu)).trans hu, (hb.cell (p := ⟨q.n, k, none⟩) (block_lt_of_cell hx)).trans hx⟩
      have HY' : Hid (flat (l ++ [⟨z, y, u, x⟩]) = flat l ++ flat [⟨z, y, u, x⟩]) := Lib.hid (flat_append _ _)
      have HLn2 : Hid ((l ++ [(⟨z, y, u, x⟩ : Bk)]).length = k + 1) := Lib.hid (by rw [List.length_append, HLn.out]; rfl)
      have hsw := E.out.size
      clear hz hy hx hu
      go_upto_region 5 with (fail)
      refine wp_region_held_drew (S := fun w' => Below w.heap.size w w') (by kernel_rfl) E.out.drew (fun hHeld => ?_)
      refine wpAnyH_take (i := 0) (v := .slice a0 k b0) rfl (by kernel_rfl) (by kernel_rfl) (by kernel_rfl) (fun _ _ _ h => h) (Or.inl ⟨by kernel_rfl, ?_⟩) hHeld ?_
      · intro w' hSw
        obtain ⟨d0, d1, d2, d3, d7, dz, dy, du, dx⟩ := HC.out w' hSw
        go_simp
      refine wpAnyH_take (i := 1) (v := .pointer (some ⟨q.d, 0, none⟩)) rfl (by kernel_rfl) (by kernel_rfl) (by kernel_rfl) (fun _ _ _ h => h) (Or.inl ⟨by kernel_rfl, ?_⟩) hHeld ?_
      · intro w' hSw
        obtain ⟨d0, d1, d2, d3, d7, dz, dy, du, dx⟩ := HC.out w' hSw
        go_simp
      refine wpAnyH_take (i := 2) (v := .pointer (some ⟨q.d, 0, none⟩)) rfl (by kernel_rfl) (by kernel_rfl) (by kernel_rfl) (fun _ _ _ h => h) (Or.inl ⟨by kernel_rfl, ?_⟩) hHeld ?_
      · intro w' hSw
        obtain ⟨d0, d1, d2, d3, d7, dz, dy, du, dx⟩ := HC.out w' hSw
        go_simp
      refine wpAnyH_take (i := 3) (v := .pointer (some ⟨q.d, 1, none⟩)) rfl (by kernel_rfl) (by kernel_rfl) (by kernel_rfl) (fun _ _ _ h => h) (Or.inl ⟨by kernel_rfl, ?_⟩) hHeld ?_
      · intro w' hSw
        obtain ⟨d0, d1, d2, d3, d7, dz, dy, du, dx⟩ := HC.out w' hSw
        go_simp
      refine wpAnyH_take (i := 4) (v := .slice (some ⟨q.s, 0, none⟩) nb q.cs) rfl (by kernel_rfl) (by kernel_rfl) (by kernel_rfl) (fun _ _ _ h => h) (Or.inl ⟨by kernel_rfl, ?_⟩) hHeld ?_
      · intro w' hSw
        obtain ⟨d0, d1, d2, d3, d7, dz, dy, du, dx⟩ := HC.out w' hSw
        go_simp
      refine wpAnyH_take (i := 5) (v := .int .i64 k) rfl (by kernel_rfl) (by kernel_rfl) (by kernel_rfl) (fun _ _ _ h => h) (Or.inl ⟨by kernel_rfl, ?_⟩) hHeld ?_
      · intro w' hSw
        obtain ⟨d0, d1, d2, d3, d7, dz, dy, du, dx⟩ := HC.out w' hSw
        go_simp
      refine wpAnyH_take (i := 6) (v := .pointer (some ⟨q.s, k, none⟩)) rfl (by kernel_rfl) (by kernel_rfl) (by kernel_rfl) (fun _ _ _ h => h) (Or.inl ⟨by kernel_rfl, ?_⟩) hHeld ?_
      · intro w' hSw
        obtain ⟨d0, d1, d2, d3, d7, dz, dy, du, dx⟩ := HC.out w' hSw
        go_simp
      refine wpAnyH_take (i := 7) (v := .int .i64 z) rfl (by kernel_rfl) (by kernel_rfl) (by kernel_rfl) (fun _ _ _ h => h) (Or.inl ⟨by kernel_rfl, ?_⟩) hHeld ?_
      · intro w' hSw
        obtain ⟨d0, d1, d2, d3, d7, dz, dy, du, dx⟩ := HC.out w' hSw
        go_simp
      refine wpAnyH_take (i := 8) (v := .pointer (some ⟨q.d, 0, none⟩)) rfl (by kernel_rfl) (by kernel_rfl) (by kernel_rfl) (fun _ _ _ h => h) (Or.inl ⟨by kernel_rfl, ?_⟩) hHeld ?_
      · intro w' hSw
        obtain ⟨d0, d1, d2, d3, d7, dz, dy, du, dx⟩ := HC.out w' hSw
        go_simp
      refine wpAnyH_take (i := 9) (v := .pointer (some ⟨q.d, 0, none⟩)) rfl (by kernel_rfl) (by kernel_rfl) (by kernel_rfl) (fun _ _ _ h => h) (Or.inl ⟨by kernel_rfl, ?_⟩) hHeld ?_
      · intro w' hSw
        obtain ⟨d0, d1, d2, d3, d7, dz, dy, du, dx⟩ := HC.out w' hSw
        go_simp
      refine wpAnyH_take (i := 10) (v := .pointer (some ⟨q.d, 2, none⟩)) rfl (by kernel_rfl) (by kernel_rfl) (by kernel_rfl) (fun _ _ _ h => h) (Or.inl ⟨by kernel_rfl, ?_⟩) hHeld ?_
      · intro w' hSw
        obtain ⟨d0, d1, d2, d3, d7, dz, dy, du, dx⟩ := HC.out w' hSw
        go_simp
      refine wpAnyH_take (i := 11) (v := .slice (some ⟨q.l, 0, none⟩) nb q.cl) rfl (by kernel_rfl) (by kernel_rfl) (by kernel_rfl) (fun _ _ _ h => h) (Or.inl ⟨by kernel_rfl, ?_⟩) hHeld ?_
      · intro w' hSw
        obtain ⟨d0, d1, d2, d3, d7, dz, dy, du, dx⟩ := HC.out w' hSw
        go_simp
      refine wpAnyH_take (i := 12) (v := .int .i64 k) rfl (by kernel_rfl) (by kernel_rfl) (by kernel_rfl) (fun _ _ _ h => h) (Or.inl ⟨by kernel_rfl, ?_⟩) hHeld ?_
      · intro w' hSw
        obtain ⟨d0, d1, d2, d3, d7, dz, dy, du, dx⟩ := HC.out w' hSw
        go_simp
      refine wpAnyH_take (i := 13) (v := .pointer (some ⟨q.l, k, none⟩)) rfl (by kernel_rfl) (by kernel_rfl) (by kernel_rfl) (fun _ _ _ h => h) (Or.inl ⟨by kernel_rfl, ?_⟩) hHeld ?_
      · intro w' hSw
        obtain ⟨d0, d1, d2, d3, d7, dz, dy, du, dx⟩ := HC.out w' hSw
        go_simp
      refine wpAnyH_take (i := 14) (v := .int .i64 y) rfl (by kernel_rfl) (by kernel_rfl) (by kernel_rfl) (fun _ _ _ h => h) (Or.inl ⟨by kernel_rfl, ?_⟩) hHeld ?_
      · intro w' hSw
        obtain ⟨d0, d1, d2, d3, d7, dz, dy, du, dx⟩ := HC.out w' hSw
        go_simp
      refine wpAnyH_take (i := 15) (v := .pointer (some ⟨q.d, 0, none⟩)) rfl (by kernel_rfl) (by kernel_rfl) (by kernel_rfl) (fun _ _ _ h => h) (Or.inl ⟨by kernel_rfl, ?_⟩) hHeld ?_
      · intro w' hSw
        obtain ⟨d0, d1, d2, d3, d7, dz, dy, du, dx⟩ := HC.out w' hSw
        go_simp
      refine wpAnyH_take (i := 16) (v := .pointer (some ⟨q.d, 0, none⟩)) rfl (by kernel_rfl) (by kernel_rfl) (by kernel_rfl) (fun _ _ _ h => h) (Or.inl ⟨by kernel_rfl, ?_⟩) hHeld ?_
      · intro w' hSw
        obtain ⟨d0, d1, d2, d3, d7, dz, dy, du, dx⟩ := HC.out w' hSw
        go_simp
      refine wpAnyH_take (i := 17) (v := .pointer (some ⟨q.d, 0, none⟩)) rfl (by kernel_rfl) (by kernel_rfl) (by kernel_rfl) (fun _ _ _ h => h) (Or.inl ⟨by kernel_rfl, ?_⟩) hHeld ?_
      · intro w' hSw
        obtain ⟨d0, d1, d2, d3, d7, dz, dy, du, dx⟩ := HC.out w' hSw
        go_simp
      refine wpAnyH_take (i := 18) (v := .pointer (some ⟨o.g, 0, none⟩)) rfl (by kernel_rfl) (by kernel_rfl) (by kernel_rfl) (fun _ _ _ h => h) (Or.inl ⟨by kernel_rfl, ?_⟩) hHeld ?_
      · intro w' hSw
        obtain ⟨d0, d1, d2, d3, d7, dz, dy, du, dx⟩ := HC.out w' hSw
        go_simp
      refine wpAnyH_take (i := 19) (v := .pointer (some ⟨o.g, 0, none⟩)) rfl (by kernel_rfl) (by kernel_rfl) (by kernel_rfl) (fun _ _ _ h => h) (Or.inl ⟨by kernel_rfl, ?_⟩) hHeld ?_
      · intro w' hSw
        obtain ⟨d0, d1, d2, d3, d7, dz, dy, du, dx⟩ := HC.out w' hSw
        go_simp
      refine wpAnyH_take (i := 20) (v := .pointer (some ⟨o.g, 7, none⟩)) rfl (by kernel_rfl) (by kernel_rfl) (by kernel_rfl) (fun _ _ _ h => h) (Or.inl ⟨by kernel_rfl, ?_⟩) hHeld ?_
      · intro w' hSw
        obtain ⟨d0, d1, d2, d3, d7, dz, dy, du, dx⟩ := HC.out w' hSw
        go_simp
      refine wpAnyH_take (i := 21) (v := .slice (some ⟨o.v, 0, none⟩) nb nb) rfl (by kernel_rfl) (by kernel_rfl) (by kernel_rfl) (fun _ _ _ h => h) (Or.inl ⟨by kernel_rfl, ?_⟩) hHeld ?_
      · intro w' hSw
        obtain ⟨d0, d1, d2, d3, d7, dz, dy, du, dx⟩ := HC.out w' hSw
        go_simp
      refine wpAnyH_take (i := 22) (v := .int .i64 k) rfl (by kernel_rfl) (by kernel_rfl) (by kernel_rfl) (fun _ _ _ h => h) (Or.inl ⟨by kernel_rfl, ?_⟩) hHeld ?_
      · intro w' hSw
        obtain ⟨d0, d1, d2, d3, d7, dz, dy, du, dx⟩ := HC.out w' hSw
        go_simp
      refine wpAnyH_take (i := 23) (v := .pointer (some ⟨o.v, k, none⟩)) rfl (by kernel_rfl) (by kernel_rfl) (by kernel_rfl) (fun _ _ _ h => h) (Or.inl ⟨by kernel_rfl, ?_⟩) hHeld ?_
      · intro w' hSw
        obtain ⟨d0, d1, d2, d3, d7, dz, dy, du, dx⟩ := HC.out w' hSw
        go_simp
      refine wpAnyH_take (i := 24) (v := .int .i64 u) rfl (by kernel_rfl) (by kernel_rfl) (by kernel_rfl) (fun _ _ _ h => h) (Or.inl ⟨by kernel_rfl, ?_⟩) hHeld ?_
      · intro w' hSw
        obtain ⟨d0, d1, d2, d3, d7, dz, dy, du, dx⟩ := HC.out w' hSw
        go_simp
      refine wpAnyH_take (i := 25) (v := .pointer (some ⟨q.d, 0, none⟩)) rfl (by kernel_rfl) (by kernel_rfl) (by kernel_rfl) (fun _ _ _ h => h) (Or.inl ⟨by kernel_rfl, ?_⟩) hHeld ?_
      · intro w' hSw
        obtain ⟨d0, d1, d2, d3, d7, dz, dy, du, dx⟩ := HC.out w' hSw
        go_simp
      refine wpAnyH_take (i := 26) (v := .pointer (some ⟨q.d, 0, none⟩)) rfl (by kernel_rfl) (by kernel_rfl) (by kernel_rfl) (fun _ _ _ h => h) (Or.inl ⟨by kernel_rfl, ?_⟩) hHeld ?_
      · intro w' hSw
        obtain ⟨d0, d1, d2, d3, d7, dz, dy, du, dx⟩ := HC.out w' hSw
        go_simp
      refine wpAnyH_take (i := 27) (v := .pointer (some ⟨q.d, 3, none⟩)) rfl (by kernel_rfl) (by kernel_rfl) (by kernel_rfl) (fun _ _ _ h => h) (Or.inl ⟨by kernel_rfl, ?_⟩) hHeld ?_
      · intro w' hSw
        obtain ⟨d0, d1, d2, d3, d7, dz, dy, du, dx⟩ := HC.out w' hSw
        go_simp
      refine wpAnyH_take (i := 28) (v := .slice (some ⟨q.n, 0, none⟩) nb q.cn) rfl (by kernel_rfl) (by kernel_rfl) (by kernel_rfl) (fun _ _ _ h => h) (Or.inl ⟨by kernel_rfl, ?_⟩) hHeld ?_
      · intro w' hSw
        obtain ⟨d0, d1, d2, d3, d7, dz, dy, du, dx⟩ := HC.out w' hSw
        go_simp
      refine wpAnyH_take (i := 29) (v := .int .i64 k) rfl (by kernel_rfl) (by kernel_rfl) (by kernel_rfl) (fun _ _ _ h => h) (Or.inl ⟨by kernel_rfl, ?_⟩) hHeld ?_
      · intro w' hSw
        obtain ⟨d0, d1, d2, d3, d7, dz, dy, du, dx⟩ := HC.out w' hSw
        go_simp
      refine wpAnyH_take (i := 30) (v := .pointer (some ⟨q.n, k, none⟩)) rfl (by kernel_rfl) (by kernel_rfl) (by kernel_rfl) (fun _ _ _ h => h) (Or.inl ⟨by kernel_rfl, ?_⟩) hHeld ?_
      · intro w' hSw
        obtain ⟨d0, d1, d2, d3, d7, dz, dy, du, dx⟩ := HC.out w' hSw
        go_simp
      refine wpAnyH_take (i := 31) (v := .int .i64 x) rfl (by kernel_rfl) (by kernel_rfl) (by kernel_rfl) (fun _ _ _ h => h) (Or.inl ⟨by kernel_rfl, ?_⟩) hHeld ?_
      · intro w' hSw
        obtain ⟨d0, d1, d2, d3, d7, dz, dy, du, dx⟩ := HC.out w' hSw
        go_simp
      refine wpAnyH_take (i := 32) (v := .agg #[.int .i64 z, .int .i64 y, .int .i64 u, .int .i64 x]) rfl (by kernel_rfl) (by kernel_rfl) (by kernel_rfl) (fun _ _ _ h => h) (Or.inl ⟨by kernel_rfl, ?_⟩) hHeld ?_
      · intro w' hSw
        obtain ⟨d0, d1, d2, d3, d7, dz, dy, du, dx⟩ := HC.out w' hSw
        go_simp
      try simp only [Act.put, List.setIfInBounds_toArray]
      refine wpAnyH_ready (rs := [33]) (by kernel_rfl) (by simp) ?_
      refine AllReadyH.cons rfl (fun K hK => ?_) AllReadyH.nil
      go_simp
      refine hK.out _ _ (E.out.drew.alloc E.out.size _) (fun hHeld2 => ?_)
      try simp only [Act.put, List.setIfInBounds_toArray, List.set]
      refine wpAnyH_ready (rs := [34]) (by kernel_rfl) (by simp) ?_
      refine AllReadyH.cons rfl (fun K hK => ?_) AllReadyH.nil
      refine step_append_own rfl (.tmp 14) (.tmp 47) 38 rfl w.heap.size 68 i0 _ 4 32 Tryz.underlying38 hi hz0 hz1 hz2 rfl (by decide) (.slice a0 k b0) k (flat l) (by simp [Act.eval]) (HO.out.alloc _).drew ⟨wr.heap.size, 0, none⟩ 1 1 (flat [⟨z, y, u, x⟩]) (by simp [Act.eval]) rfl (new_at _ _ _ rfl _) (flat_one _) (by unfold maxLen; omega) (by omega) (by simp; omega) ?_
      intro v' w' hown hgrow
      obtain ⟨a', c', rfl⟩ := own_form4 hown
      have hb' := (Below.refl w.heap.size _).grown hgrow (by simp; omega) (fun g hg => (HO.out.lt g hg).1)
      have R2 := Lib.hid hown
      have hS3 : Below w.heap.size w w' := (E.out.drew.alloc E.out.size _).trans hb'
      have B3 := Lib.hid hS3
      clear hown hb' hgrow
      refine hK.out _ _ hS3 (fun hHeld3 => ?_)
      try simp only [Act.put, List.setIfInBounds_toArray]
      refine wpAnyH_ready (rs := [35]) (by kernel_rfl) (by simp) ?_
      refine AllReadyH.cons rfl (fun K hK => ?_) AllReadyH.nil
      go_simp
      refine hK.out _ _ hHeld3 (fun _ => ?_)
      refine wpAnyH_done (by kernel_rfl) ?_ _
      go_wp2
      go_roundw
      case rel => exact ⟨k + 1, _, a', c', by omega, by go_num, rfl, HLn2, Lib.hid (by rw [HY'.out]; exact R2.out), B3⟩
      case measure => simp [intOf]; omega
    · have hkn : k = nb := by omega
      subst hkn
      obtain ⟨g, cr, e1, e2, e3⟩ := own_of_row HO.out (by omega)
      injection e1 with e1 e4 e5
      subst e1 e5
      have HE := Lib.hid (And.intro e2 e3)
      clear e2 e3
      go_wp2
      go_ret
      exact ⟨⟨g, ⟨_, rfl⟩, l, HE.out.2, HLn.out, HE.out.1⟩, E.out⟩
end Go.Proofs.YtjjggmopkfkpaaaGreat
