/-
  A directory's entries, slot by slot: the document's answer. Nothing of one statement alone stands here.
-/
import Derived.Test.YtbgimehbencdgaaDirEnt
import Derived.RegionTactic
namespace Go.Proofs.Ytbgimehbencdgaa
open Go.RowKit Crcm Tagm Dirm Go.ChangeShapes

/-- how long a slice is -/
def lenV : Value → Nat | .slice _ n _ => n | _ => 0
theorem topO (b off n cap x : Nat) (X : Int) (hX : X = (x : Int)) (h : x ≤ cap) (W : World) :
    (Instr.slice 24 (.slice (some ⟨b, off, none⟩) n cap) none (some (.int .i64 X)) none).run Try.prog W = .ok (.slice (some ⟨b, off, none⟩) x cap) W := by
  subst hX
  have he : Try.prog.underlying 24 = some (.slice (Try.prog.elem 24)) := by rw [elemB, Try.underlying24]
  rw [run_slice_h W _ _ _ _ he .i64 _ (by omega) (by omega), elemB, Try.sizeOf5]
  simp [Result.andThen, sliced, Addr.add]
theorem restO (b off n cap : Nat) (h : 16 ≤ n) (W : World) :
    (Instr.slice 24 (.slice (some ⟨b, off, none⟩) n cap) (some (.int .i64 16)) none none).run Try.prog W = .ok (.slice (mv (some ⟨b, off, none⟩) cap 16) (n - 16) (cap - 16)) W := by
  have he : Try.prog.underlying 24 = some (.slice (Try.prog.elem 24)) := by rw [elemB, Try.underlying24]
  rw [run_slice_l W _ _ _ _ he .i64 _ (by omega) (by omega), elemB, Try.sizeOf5]
  unfold mv
  by_cases hne : cap = 16 <;> simp [Result.andThen, sliced, hne, Go.WideShapes.add_plain]
theorem er_one (W : World) (i : Int) (s : ByteArray) : ER (W.alloc (.cells #[.int .i64 i, .string s] 23)) (some ⟨W.heap.size, 0, none⟩) [(i, s)] := by
  refine .inr ⟨_, rfl, fun j hj => ?_⟩
  obtain rfl : j = 0 := by simpa using hj
  have hb := Blk.new W 23 #[.int .i64 i, .string s]
  exact ⟨hb.cell 0, hb.cell 1⟩
theorem bool_of {P : Prop} {g : Bool} (h : g = true ↔ P) (k : Bool) (hk : k = true ↔ P) : g = k := by
  cases g <;> cases k <;> simp_all

set_option maxRecDepth 100000 in
set_option maxHeartbeats 4000000 in
theorem slots_any (l : List Int) (a : Option Addr) (c n : Nat) (w : World) (hr : Rw w a l) (hl : l.length = n) (hc : n ≤ c) (c1 : c ≤ 9223372036854775807) (n1 : n ≤ 20000) :
    Calls Try.prog 15 #[.slice a n c] w fun e w' => (∃ v, e = .returned (.tuple #[v, .bool (decide (ck l = 0))]) ∧ w'.ownsRow w.heap.size 23 2 v (n / 16) (eflat (es l (n / 16)))) ∧ Below w.heap.size w w' := by
  obtain ⟨N, hN⟩ : ∃ N, n / 16 = N := ⟨_, rfl⟩
  rw [hN]
  have nN : N ≤ 20000 := by omega
  have HEnd : Hid ((Gk l N ∧ (N = 0 ∨ 0 < eI (slotL l (N - 1)))) ↔ ck l = 0) := Lib.hid (Gk_end l N (by rw [hl, hN]))
  have HL := Lib.hid hl
  have HR := Lib.hid hr
  obtain ⟨z, hz⟩ : ∃ z, decide (ck l = 0) = z := ⟨_, rfl⟩
  have HZ : Hid (z = true ↔ ck l = 0) := Lib.hid (by rw [← hz]; exact decide_eq_true_iff)
  rw [hz]
  have HG0 : Hid ((decide ((n : Int) % 16 = 0)) = true ↔ Gk l 0) := Lib.hid (by rw [decide_eq_true_iff, Gk_zero, hl]; omega)
  have HNn : Hid (n / 16 = N) := Lib.hid hN
  clear hr hz hl hN
  go_enter Try.func15, Try.ntmps15
  go_wp2_with fail
  go_loopw [0, 4, 5] (fun b v g wr => ∃ (k m c' : Nat) (A : Option Addr) (gB : Bool), k * 16 + m = n ∧ b = .slice A m c' ∧ m ≤ c' ∧ c' ≤ 9223372036854775807 ∧ g = .bool gB ∧ Hid (Rw w A (l.drop (k * 16))) ∧ Hid (wr.ownsRow w.heap.size 23 2 v k (eflat (es l k))) ∧ Hid (gB = true ↔ Gk l k) ∧ Hid (Below w.heap.size w wr)) (fun b _ _ _ => lenV b)
  case atStart => exact ⟨0, n, c, a, _, by omega, rfl, hc, c1, rfl, Lib.hid (by simpa using HR.out), Lib.hid (World.ownsRow_nil _ _ _ _), HG0, Lib.hid (Below.refl _ _)⟩
  case round =>
    obtain ⟨k, m, c', A, gB, hkm, rfl, hmc, hc1, rfl, hRw, hO, hG, hB⟩ := hrel
    by_cases h16 : 16 ≤ m
    · have hkN : k < N := by have := HNn.out; omega
      have hdl : (l.drop (k * 16)).length = m := by rw [List.length_drop, HL.out]; omega
      obtain ⟨b1, o1, rfl⟩ := hRw.out.addr (by omega)
      have h16' : (16 : Int) ≤ (m : Int) := by omega
      have hs1 := topO b1 o1 m c' 16 16 rfl (by omega)
      have hs2 := restO b1 o1 m c' h16
      have HD := Lib.hid (rread_any (slotL l k) (some ⟨b1, o1, none⟩) c' 16 wr ((hRw.out.below hB.out).take 16) (slotL_len (by rw [HL.out]; have := HNn.out; omega)) (by omega) (by omega))
      have hE0 : rU (slotL l k) = true → rE (slotL l k) = 0 := fun h => by
        unfold rU at h
        obtain ⟨g1, g2, g3⟩ := of_decide_eq_true h
        exact (r_good g1 g2 g3).1
      have HSt : Hid (Gk l (k + 1) ↔ (Gk l k ∧ rE (slotL l k) = 0) ∧ (rU (slotL l k) = true → ∀ i, i < k → eS (slotL l i) ≠ eS (slotL l k))) := Lib.hid (Gk_succ l k)
      have HEs : Hid (es l (k + 1) = es l k ++ [(eI (slotL l k), eS (slotL l k))]) := Lib.hid (es_snoc l k)
      have HDr : Hid ((l.drop (k * 16)).drop 16 = l.drop ((k + 1) * 16)) := Lib.hid (by rw [List.drop_drop]; congr 1; omega)
      obtain ⟨i, hi⟩ : ∃ i, eI (slotL l k) = i := ⟨_, rfl⟩
      obtain ⟨s, hs⟩ : ∃ i, eS (slotL l k) = i := ⟨_, rfl⟩
      obtain ⟨u, hu⟩ : ∃ i, rU (slotL l k) = i := ⟨_, rfl⟩
      obtain ⟨e0, he⟩ : ∃ i, rE (slotL l k) = i := ⟨_, rfl⟩
      rw [hi, hs, hu, he] at HD
      rw [hs, hu, he] at HSt
      rw [hi, hs] at HEs
      rw [hu, he] at hE0
      unfold rv at HD
      clear hi hs hu he hdl
      cases gB
      · have HG' : Hid (¬ Gk l (k + 1)) := Lib.hid (fun h => by have := hG.out.2 (HSt.out.1 h).1.1; cases this)
        cases u
        · clear HSt hE0 hG
          go_wp2_with fail
          refine HD.out.mono ?_
          rintro e w1 ⟨rfl, hb1⟩
          obtain ⟨W2, hW2⟩ : ∃ W2, w1.alloc (.cells #[.int .i64 i, .string s] 23) = W2 := ⟨_, rfl⟩
          have hbw : Below wr.heap.size wr W2 := by rw [← hW2]; exact hb1.alloc hb1.size _
          have HB2 := Lib.hid (hB.out.trans (hbw.mono hB.out.size))
          have k2 : Blk W2 w1.heap.size 23 #[.int .i64 i, .string s] := by rw [← hW2]; exact Blk.new _ _ _
          have HO2 := Lib.hid (own_below hO.out hbw)
          have x0 : W2.cell? ⟨w1.heap.size, 0, none⟩ = some (.int .i64 i) := k2.cell 0
          have x1 : W2.cell? ⟨w1.heap.size, 1, none⟩ = some (.string s) := k2.cell 1
          have HR4 : Hid (Rw w (mv (some ⟨b1, o1, none⟩) c' 16) (l.drop ((k + 1) * 16))) := Lib.hid (by rw [← HDr.out]; exact hRw.out.mv 16 c' (by rw [List.length_drop, HL.out]; omega))
          clear hb1 hbw hO hRw hB HD k2
          obtain ⟨hk1, A4, c4, hv4, hc4, hm4, her4, -⟩ := own_er HO2.out
          subst hv4
          go_wp2_with fail
          go_loop [5, 9] (fun g i => g = .bool false ∧ i = .int .i64 0) (fun _ _ => 0)
          case atStart => exact ⟨rfl, rfl⟩
          case round =>
            obtain ⟨rfl, rfl⟩ := hrel
            clear her4
            go_wp2_with (at_builtin; refine append_ents rfl _ _ rfl w.heap.size _ k (es l k) rfl (HO2.out.alloc _) (some ⟨W2.heap.size, 0, none⟩) 1 1 [(i, s)] rfl rfl (er_one W2 i s) (by omega) (by simp; exact Nat.le_succ_of_le HB2.out.size) ?_)
            all_goals
              intro v' w4 hown4 hb4
              have HO4 := Lib.hid hown4
              have HB4 := Lib.hid ((HB2.out.alloc HB2.out.size (.cells #[.int .i64 i, .string s] 23)).trans hb4)
              clear hown4 hb4 x0 x1
              go_wp2
              go_roundw
              case rel => exact ⟨k + 1, m - 16, c' - 16, _, _, by omega, rfl, by omega, by omega, rfl, HR4, by rw [HEs.out]; exact HO4, Lib.hid ⟨fun h => (by cases h), fun h => absurd h HG'.out⟩, HB4⟩
              case measure => simp [lenV]; omega
        · clear HSt hE0 hG
          go_wp2_with fail
          refine HD.out.mono ?_
          rintro e w1 ⟨rfl, hb1⟩
          obtain ⟨W2, hW2⟩ : ∃ W2, w1.alloc (.cells #[.int .i64 i, .string s] 23) = W2 := ⟨_, rfl⟩
          have hbw : Below wr.heap.size wr W2 := by rw [← hW2]; exact hb1.alloc hb1.size _
          have HB2 := Lib.hid (hB.out.trans (hbw.mono hB.out.size))
          have k2 : Blk W2 w1.heap.size 23 #[.int .i64 i, .string s] := by rw [← hW2]; exact Blk.new _ _ _
          have HO2 := Lib.hid (own_below hO.out hbw)
          have x0 : W2.cell? ⟨w1.heap.size, 0, none⟩ = some (.int .i64 i) := k2.cell 0
          have x1 : W2.cell? ⟨w1.heap.size, 1, none⟩ = some (.string s) := k2.cell 1
          have HR4 : Hid (Rw w (mv (some ⟨b1, o1, none⟩) c' 16) (l.drop ((k + 1) * 16))) := Lib.hid (by rw [← HDr.out]; exact hRw.out.mv 16 c' (by rw [List.length_drop, HL.out]; omega))
          clear hb1 hbw hO hRw hB HD k2
          obtain ⟨hk1, A4, c4, hv4, hc4, hm4, her4, -⟩ := own_er HO2.out
          subst hv4
          go_wp2_with fail
          go_loopw [5, 9] (fun g i wl => g = .bool false ∧ Hid (Below W2.heap.size W2 wl) ∧ ∃ t : Nat, t ≤ k ∧ i = .int .i64 t) (fun _ i _ => k - (intOf i).toNat)
          case atStart => exact ⟨rfl, Lib.hid (Below.refl _ _), 0, Nat.zero_le _, rfl⟩
          case round =>
            obtain ⟨rfl, hbl, tt, htk, rfl⟩ := hrel
            have x0 := (hbl.out.cell (block_lt_of_cell x0)).trans x0
            have x1 := (hbl.out.cell (block_lt_of_cell x1)).trans x1
            by_cases hlt : tt < k
            · have hlt' : (tt : Int) < (k : Int) := by omega
              go_wp2_with fail
              go_region
              go_wp2
              go_roundw
              case rel => exact ⟨rfl, Lib.hid hbl.out.drew, tt + 1, by omega, by go_num⟩
              case measure => simp [intOf]; omega
            · have hlt' : ¬ (tt : Int) < (k : Int) := by omega
              have HO2 := Lib.hid (own_below HO2.out hbl.out)
              have HB2 := Lib.hid (HB2.out.trans (hbl.out.mono HB2.out.size))
              clear her4
              go_wp2_with (at_builtin; refine append_ents rfl _ _ rfl w.heap.size _ k (es l k) rfl (HO2.out.alloc _) (some ⟨wr.heap.size, 0, none⟩) 1 1 [(i, s)] rfl rfl (er_one wr i s) (by omega) (by simp; exact Nat.le_succ_of_le HB2.out.size) ?_)
              all_goals
                intro v' w4 hown4 hb4
                have HO4 := Lib.hid hown4
                have HB4 := Lib.hid ((HB2.out.alloc HB2.out.size (.cells #[.int .i64 i, .string s] 23)).trans hb4)
                clear hown4 hb4 x0 x1
                go_wp2
                go_roundw
                case rel => exact ⟨k + 1, m - 16, c' - 16, _, _, by omega, rfl, by omega, by omega, rfl, HR4, by rw [HEs.out]; exact HO4, Lib.hid ⟨fun h => (by cases h), fun h => absurd h HG'.out⟩, HB4⟩
                case measure => simp [lenV]; omega
      · have hGk : Gk l k := hG.out.1 rfl
        by_cases z : e0 = 0
        · subst z
          cases u
          · have HG' : Hid (Gk l (k + 1)) := Lib.hid (HSt.out.2 ⟨⟨hGk, rfl⟩, fun h => by cases h⟩)
            clear HSt hE0 hG hGk
            go_wp2_with fail
            refine HD.out.mono ?_
            rintro e w1 ⟨rfl, hb1⟩
            obtain ⟨W2, hW2⟩ : ∃ W2, w1.alloc (.cells #[.int .i64 i, .string s] 23) = W2 := ⟨_, rfl⟩
            have hbw : Below wr.heap.size wr W2 := by rw [← hW2]; exact hb1.alloc hb1.size _
            have HB2 := Lib.hid (hB.out.trans (hbw.mono hB.out.size))
            have k2 : Blk W2 w1.heap.size 23 #[.int .i64 i, .string s] := by rw [← hW2]; exact Blk.new _ _ _
            have HO2 := Lib.hid (own_below hO.out hbw)
            have x0 : W2.cell? ⟨w1.heap.size, 0, none⟩ = some (.int .i64 i) := k2.cell 0
            have x1 : W2.cell? ⟨w1.heap.size, 1, none⟩ = some (.string s) := k2.cell 1
            have HR4 : Hid (Rw w (mv (some ⟨b1, o1, none⟩) c' 16) (l.drop ((k + 1) * 16))) := Lib.hid (by rw [← HDr.out]; exact hRw.out.mv 16 c' (by rw [List.length_drop, HL.out]; omega))
            clear hb1 hbw hO hRw hB HD k2
            obtain ⟨hk1, A4, c4, hv4, hc4, hm4, her4, -⟩ := own_er HO2.out
            subst hv4
            go_wp2_with fail
            go_loop [5, 9] (fun g i => g = .bool true ∧ i = .int .i64 0) (fun _ _ => 0)
            case atStart => exact ⟨rfl, rfl⟩
            case round =>
              obtain ⟨rfl, rfl⟩ := hrel
              clear her4
              go_wp2_with (at_builtin; refine append_ents rfl _ _ rfl w.heap.size _ k (es l k) rfl (HO2.out.alloc _) (some ⟨W2.heap.size, 0, none⟩) 1 1 [(i, s)] rfl rfl (er_one W2 i s) (by omega) (by simp; exact Nat.le_succ_of_le HB2.out.size) ?_)
              all_goals
                intro v' w4 hown4 hb4
                have HO4 := Lib.hid hown4
                have HB4 := Lib.hid ((HB2.out.alloc HB2.out.size (.cells #[.int .i64 i, .string s] 23)).trans hb4)
                clear hown4 hb4 x0 x1
                go_wp2
                go_roundw
                case rel => exact ⟨k + 1, m - 16, c' - 16, _, _, by omega, rfl, by omega, by omega, rfl, HR4, by rw [HEs.out]; exact HO4, Lib.hid ⟨fun _ => HG'.out, fun _ => rfl⟩, HB4⟩
                case measure => simp [lenV]; omega
          · have HG' : Hid (Gk l (k + 1) ↔ ∀ i, i < k → eS (slotL l i) ≠ s) := Lib.hid (HSt.out.trans ⟨fun h => h.2 rfl, fun h => ⟨⟨hGk, rfl⟩, fun _ => h⟩⟩)
            clear HSt hE0 hG hGk
            go_wp2_with fail
            refine HD.out.mono ?_
            rintro e w1 ⟨rfl, hb1⟩
            obtain ⟨W2, hW2⟩ : ∃ W2, w1.alloc (.cells #[.int .i64 i, .string s] 23) = W2 := ⟨_, rfl⟩
            have hbw : Below wr.heap.size wr W2 := by rw [← hW2]; exact hb1.alloc hb1.size _
            have HB2 := Lib.hid (hB.out.trans (hbw.mono hB.out.size))
            have k2 : Blk W2 w1.heap.size 23 #[.int .i64 i, .string s] := by rw [← hW2]; exact Blk.new _ _ _
            have HO2 := Lib.hid (own_below hO.out hbw)
            have x0 : W2.cell? ⟨w1.heap.size, 0, none⟩ = some (.int .i64 i) := k2.cell 0
            have x1 : W2.cell? ⟨w1.heap.size, 1, none⟩ = some (.string s) := k2.cell 1
            have HR4 : Hid (Rw w (mv (some ⟨b1, o1, none⟩) c' 16) (l.drop ((k + 1) * 16))) := Lib.hid (by rw [← HDr.out]; exact hRw.out.mv 16 c' (by rw [List.length_drop, HL.out]; omega))
            clear hb1 hbw hO hRw hB HD k2
            obtain ⟨hk1, A4, c4, hv4, hc4, hm4, her4, -⟩ := own_er HO2.out
            subst hv4
            go_wp2_with fail
            go_loopw [5, 9] (fun g i wl => ∃ (t : Nat) (g2 : Bool), t ≤ k ∧ i = .int .i64 t ∧ g = .bool g2 ∧ Hid (Below W2.heap.size W2 wl) ∧ Hid (g2 = true ↔ ∀ i, i < t → eS (slotL l i) ≠ s)) (fun _ i _ => k - (intOf i).toNat)
            case atStart => exact ⟨0, true, Nat.zero_le _, rfl, rfl, Lib.hid (Below.refl _ _), Lib.hid ⟨fun _ i hi => absurd hi (Nat.not_lt_zero _), fun _ => rfl⟩⟩
            case round =>
              obtain ⟨tt, g2, htk, rfl, rfl, hbl, hg2⟩ := hrel
              have x0 := (hbl.out.cell (block_lt_of_cell x0)).trans x0
              have x1 := (hbl.out.cell (block_lt_of_cell x1)).trans x1
              by_cases hlt : tt < k
              · have hlt' : (tt : Int) < (k : Int) := by omega
                obtain ⟨g4, rfl, hE4⟩ := her4.at (j := tt) (by rw [es_len]; exact hlt)
                rw [es_at l hlt] at hE4
                obtain ⟨y0, y1⟩ := hE4
                have y1 : wr.cell? ⟨g4, tt * 2 + 1, none⟩ = some (.string (eS (slotL l tt))) := (hbl.out.cell (block_lt_of_cell y1)).trans y1
                have HT : Hid ((∀ i, i < tt + 1 → eS (slotL l i) ≠ s) ↔ (∀ i, i < tt → eS (slotL l i) ≠ s) ∧ eS (slotL l tt) ≠ s) := Lib.hid ⟨fun h => ⟨fun i hi => h i (by omega), h tt (by omega)⟩, fun h i hi => by
                  by_cases e : i = tt
                  · subst e; exact h.2
                  · exact h.1 i (by omega)⟩
                obtain ⟨nm, hnm⟩ : ∃ x, eS (slotL l tt) = x := ⟨_, rfl⟩
                rw [hnm] at y1 HT
                clear hnm y0 her4
                cases g2
                · have HN : Hid (false = true ↔ ∀ i, i < tt + 1 → eS (slotL l i) ≠ s) := Lib.hid ⟨fun h => (by cases h), fun h => hg2.out.2 (HT.out.1 h).1⟩
                  clear HT hg2
                  go_wp2_with fail
                  go_region
                  go_wp2
                  go_roundw
                  case rel => exact ⟨tt + 1, false, by omega, by go_num, rfl, Lib.hid hbl.out.drew, HN⟩
                  case measure => simp [intOf]; omega
                · by_cases hq : nm = s
                  · have u1 := str_eq hq
                    have u2 : (nm.toList != s.toList) = false := by unfold bne; rw [u1]; rfl
                    have HN : Hid (false = true ↔ ∀ i, i < tt + 1 → eS (slotL l i) ≠ s) := Lib.hid ⟨fun h => (by cases h), fun h => absurd hq (HT.out.1 h).2⟩
                    clear HT hg2 hq
                    go_wp2_with fail
                    go_region
                    go_wp2
                    go_roundw
                    case rel => exact ⟨tt + 1, false, by omega, by go_num, rfl, Lib.hid hbl.out.drew, HN⟩
                    case measure => simp [intOf]; omega
                  · have u1 := str_ne hq
                    have u2 : (nm.toList != s.toList) = true := by unfold bne; rw [u1]; rfl
                    have HN : Hid (true = true ↔ ∀ i, i < tt + 1 → eS (slotL l i) ≠ s) := Lib.hid ⟨fun _ => HT.out.2 ⟨hg2.out.1 rfl, hq⟩, fun _ => rfl⟩
                    clear HT hg2 hq
                    go_wp2_with fail
                    go_region
                    go_wp2
                    go_roundw
                    case rel => exact ⟨tt + 1, true, by omega, by go_num, rfl, Lib.hid hbl.out.drew, (by first | exact HN | exact Lib.hid ⟨fun _ => HN.out.1 trivial, fun _ => rfl⟩)⟩
                    case measure => simp [intOf]; omega
              · have hlt' : ¬ (tt : Int) < (k : Int) := by omega
                have hkt : tt = k := by omega
                have HN : Hid (g2 = true ↔ Gk l (k + 1)) := Lib.hid (by rw [hkt] at hg2; exact hg2.out.trans HG'.out.symm)
                have HO2 := Lib.hid (own_below HO2.out hbl.out)
                have HB2 := Lib.hid (HB2.out.trans (hbl.out.mono HB2.out.size))
                clear hg2 hkt
                clear her4
                go_wp2_with (at_builtin; refine append_ents rfl _ _ rfl w.heap.size _ k (es l k) rfl (HO2.out.alloc _) (some ⟨wr.heap.size, 0, none⟩) 1 1 [(i, s)] rfl rfl (er_one wr i s) (by omega) (by simp; exact Nat.le_succ_of_le HB2.out.size) ?_)
                all_goals
                  intro v' w4 hown4 hb4
                  have HO4 := Lib.hid hown4
                  have HB4 := Lib.hid ((HB2.out.alloc HB2.out.size (.cells #[.int .i64 i, .string s] 23)).trans hb4)
                  clear hown4 hb4 x0 x1
                  go_wp2
                  go_roundw
                  case rel => exact ⟨k + 1, m - 16, c' - 16, _, _, by omega, rfl, by omega, by omega, rfl, HR4, by rw [HEs.out]; exact HO4, HN, HB4⟩
                  case measure => simp [lenV]; omega
        · have HG' : Hid (¬ Gk l (k + 1)) := Lib.hid (fun h => z (HSt.out.1 h).1.2)
          have tz : (e0 == 0) = false := by simpa using z
          cases u
          · clear HSt hE0 hG hGk z
            go_wp2_with fail
            refine HD.out.mono ?_
            rintro e w1 ⟨rfl, hb1⟩
            obtain ⟨W2, hW2⟩ : ∃ W2, w1.alloc (.cells #[.int .i64 i, .string s] 23) = W2 := ⟨_, rfl⟩
            have hbw : Below wr.heap.size wr W2 := by rw [← hW2]; exact hb1.alloc hb1.size _
            have HB2 := Lib.hid (hB.out.trans (hbw.mono hB.out.size))
            have k2 : Blk W2 w1.heap.size 23 #[.int .i64 i, .string s] := by rw [← hW2]; exact Blk.new _ _ _
            have HO2 := Lib.hid (own_below hO.out hbw)
            have x0 : W2.cell? ⟨w1.heap.size, 0, none⟩ = some (.int .i64 i) := k2.cell 0
            have x1 : W2.cell? ⟨w1.heap.size, 1, none⟩ = some (.string s) := k2.cell 1
            have HR4 : Hid (Rw w (mv (some ⟨b1, o1, none⟩) c' 16) (l.drop ((k + 1) * 16))) := Lib.hid (by rw [← HDr.out]; exact hRw.out.mv 16 c' (by rw [List.length_drop, HL.out]; omega))
            clear hb1 hbw hO hRw hB HD k2
            obtain ⟨hk1, A4, c4, hv4, hc4, hm4, her4, -⟩ := own_er HO2.out
            subst hv4
            go_wp2_with fail
            go_loop [5, 9] (fun g i => g = .bool false ∧ i = .int .i64 0) (fun _ _ => 0)
            case atStart => exact ⟨rfl, rfl⟩
            case round =>
              obtain ⟨rfl, rfl⟩ := hrel
              clear her4
              go_wp2_with (at_builtin; refine append_ents rfl _ _ rfl w.heap.size _ k (es l k) rfl (HO2.out.alloc _) (some ⟨W2.heap.size, 0, none⟩) 1 1 [(i, s)] rfl rfl (er_one W2 i s) (by omega) (by simp; exact Nat.le_succ_of_le HB2.out.size) ?_)
              all_goals
                intro v' w4 hown4 hb4
                have HO4 := Lib.hid hown4
                have HB4 := Lib.hid ((HB2.out.alloc HB2.out.size (.cells #[.int .i64 i, .string s] 23)).trans hb4)
                clear hown4 hb4 x0 x1
                go_wp2
                go_roundw
                case rel => exact ⟨k + 1, m - 16, c' - 16, _, _, by omega, rfl, by omega, by omega, rfl, HR4, by rw [HEs.out]; exact HO4, Lib.hid ⟨fun h => (by cases h), fun h => absurd h HG'.out⟩, HB4⟩
                case measure => simp [lenV]; omega
          · exact absurd (hE0 rfl) z
    · have hkN : k = N := by have := HNn.out; omega
      subst hkN
      have HG' := Lib.hid hG.out
      obtain ⟨hk1, A4, c4, hv4, hc4, hm4, her4, -⟩ := own_er hO.out
      have h16' : ¬ (16 : Int) ≤ (m : Int) := by omega
      have HB := Lib.hid hB.out
      cases gB
      · have hz0 : z = false := by
          cases z
          · rfl
          · exact absurd (HG'.out.2 (HEnd.out.2 (HZ.out.1 rfl)).1) (by decide)
        subst hz0 hv4
        go_wp2_with fail
        go_region
        go_wp2
        go_ret2
        exact ⟨⟨_, rfl, own_below hO.out (Below.refl _ _).drew⟩, HB.out.drew⟩
      · rcases Nat.eq_zero_or_pos k with h0 | h0
        · have hz1 : z = true := HZ.out.2 (HEnd.out.1 ⟨HG'.out.1 rfl, .inl h0⟩)
          subst hz1 hv4 h0
          clear her4
          go_wp2_with fail
          go_region
          go_wp2
          go_ret2
          exact ⟨⟨_, rfl, own_below hO.out (Below.refl _ _).drew⟩, HB.out.drew⟩
        · obtain ⟨g4, rfl, hE4⟩ := her4.at (j := k - 1) (by rw [es_len]; omega)
          rw [es_at l (by omega : k - 1 < k)] at hE4
          have y0 : wr.cell? ⟨g4, (k - 1) * 2, none⟩ = some (.int .i64 (eI (slotL l (k - 1)))) := hE4.1
          obtain ⟨x, hx⟩ : ∃ x, eI (slotL l (k - 1)) = x := ⟨_, rfl⟩
          rw [hx] at y0 HEnd
          have hz1 : z = decide (0 < x) := bool_of (HZ.out.trans ⟨fun h => ((HEnd.out.2 h).2).resolve_left (by omega), fun h => HEnd.out.1 ⟨HG'.out.1 rfl, .inr h⟩⟩) _ decide_eq_true_iff
          obtain ⟨q, hq⟩ : ∃ q, k = q + 1 := ⟨k - 1, by omega⟩
          subst hq
          rw [Nat.add_sub_cancel] at y0
          subst hz1 hv4
          clear her4 hE4 hx
          have tq : (((q : Int) + 1) == 0) = false := by simp; omega
          go_wp2_with fail
          go_region
          go_wp2
          go_ret2
          exact ⟨⟨_, rfl, own_below hO.out (Below.refl _ _).drew⟩, HB.out.drew⟩

end Go.Proofs.Ytbgimehbencdgaa
