/-
  The statement on the sum of bytes of which one is another one now.
-/
import Derived.Test.YtgadiloflepclaaCrcJoinsW
import Derived.Test.YtgadiloflepclaaCrcThreeW
namespace Go.Proofs.Ytgadiloflepclaa
open Go.RowKit Crcm Go.ChangeShapes

/-- the sum of n bytes of which the one at k, that was old, is now -/
def pch (s : Int) (n k : Nat) (old now : Int) : Int := N (V s ^^^ it (8 * (n - 1 - k)) (it 8 (V old ^^^ V now)))

theorem pch_mo (l : List Int) (k : Nat) (now : Int) (hk : k < l.length) : pch (mo 0 l) l.length k l[k] now = mo 0 (l.set k now) := by
  have e1 : l.map V = (l.take k).map V ++ V l[k] :: (l.drop (k + 1)).map V := by
    rw [← List.map_cons, ← List.map_append, List.getElem_cons_drop, List.take_append_drop]
  have e2 : (l.set k now).map V = (l.take k).map V ++ V now :: (l.drop (k + 1)).map V := by
    rw [← List.map_cons, ← List.map_append, List.set_eq_take_append_cons_drop, if_pos hk]
  have h := set_F (~~~ V 0) ((l.take k).map V) ((l.drop (k + 1)).map V) (V l[k]) (V now)
  rw [← e1, ← e2] at h
  unfold pch mo
  rw [V_N, h]
  congr 1
  rw [List.length_map, List.length_drop, show l.length - (k + 1) = l.length - 1 - k by omega]
  generalize it (8 * (l.length - 1 - k)) (it 8 (V l[k] ^^^ V now)) = t
  generalize F (~~~ V 0) (l.map V) = p
  rw [← BitVec.xor_allOnes (x := p), ← BitVec.xor_allOnes (x := p ^^^ t), BitVec.xor_assoc, BitVec.xor_assoc, BitVec.xor_comm t]

/-- no place of n bytes -/
def Off (n k : Int) : Prop := k < 0 ∨ n ≤ k

set_option maxRecDepth 100000 in
set_option maxHeartbeats 400000 in
theorem patch_ok (s : Int) (n k : Nat) (old now : Int) (w : World) (hs : U32 s) (ho : U8 old) (hw : U8 now) (hn : n ≤ 2000) (hk : k < n) :
    Calls Try.prog 27 #[.int .u32 s, .int .i64 n, .int .i64 k, .int .u8 old, .int .u8 now] w fun e w' => e = .returned (.tuple #[.int .u32 (pch s n k old now), .int .i64 0]) ∧ Below w.heap.size w w' := by
  obtain ⟨hx, hv⟩ := xor8 ho hw
  have hP := put_any 0 (bits .xor .u8 old now) w ⟨by decide, by decide⟩ hx
  have e0 : pt 0 (bits .xor .u8 old now) = N (it 8 (V old ^^^ V now)) := by
    unfold pt
    rw [hv, show V 0 = 0#32 from by decide, BitVec.zero_xor]
  rw [e0] at hP
  have hO := over_any (N (it 8 (V old ^^^ V now))) (n - 1 - k) w (U32_N _) (by omega)
  have ec : (((n - 1 - k : Nat)) : Int) = (n : Int) - 1 - k := by omega
  rw [ec, V_N] at hO
  have HP := Lib.hid hP
  have HO := Lib.hid hO
  clear hP hO e0 hx hv ec
  go_enter Try.func27, Try.ntmps27
  go_wp2_with fail
  refine HP.out.mono ?_
  rintro e w' ⟨rfl, rfl⟩
  go_wp2_with fail
  refine HO.out.mono ?_
  rintro e w' ⟨rfl, hb⟩
  go_wp2
  go_ret2
  exact ⟨by rw [xor32 hs (U32_N _), V_N]; rfl, hb⟩

set_option maxRecDepth 100000 in
theorem patch_odd (s : Int) (n : Nat) (k : Int) (old now : Int) (w : World) (hn1 : 1 ≤ n) (hn : n ≤ 2000) (h : Off n k) :
    Calls Try.prog 27 #[.int .u32 s, .int .i64 n, .int .i64 k, .int .u8 old, .int .u8 now] w fun e w' => e = .returned (.tuple #[.int .u32 0, .int .i64 1]) ∧ w = w' := by
  by_cases h0 : k < 0
  · clear h
    go_enter Try.func27, Try.ntmps27
    go_wp2_with fail
    go_ret2
    exact ⟨rfl, rfl⟩
  · have h1 : (n : Int) ≤ k := by rcases h with h | h <;> omega
    clear h
    go_enter Try.func27, Try.ntmps27
    go_wp2_with fail
    go_ret2
    exact ⟨rfl, rfl⟩

theorem patch_told (n : Nat) (k : Int) (hn1 : 1 ≤ n) (hn : n ≤ 2000) : ∃ f x : Int, (f = 0 ∧ 0 ≤ k ∧ k < n ∨ f = 1 ∧ Off n k) ∧
    ∀ w, Calls Try.prog 27 #[.int .u32 5, .int .i64 n, .int .i64 k, .int .u8 0, .int .u8 0] w fun e w' => e = .returned (.tuple #[.int .u32 x, .int .i64 f]) ∧ Below w.heap.size w w' := by
  by_cases h : Off n k
  · exact ⟨1, 0, .inr ⟨rfl, h⟩, fun w => (patch_odd 5 n k 0 0 w hn1 hn h).mono fun e w' ⟨h1, h2⟩ => ⟨h1, by rw [← h2]; exact Below.refl _ _⟩⟩
  · unfold Off at h
    obtain ⟨j, rfl⟩ : ∃ j : Nat, k = j := ⟨k.toNat, by omega⟩
    exact ⟨0, _, .inl ⟨rfl, by omega, by omega⟩, fun w => patch_ok 5 n j 0 0 w ⟨by decide, by decide⟩ ⟨by decide, by decide⟩ ⟨by decide, by decide⟩ hn (by omega)⟩

set_option maxRecDepth 100000 in
set_option maxHeartbeats 400000 in
theorem crcPatches_long (a0 : Option Addr) (cap0 : Nat) (l : List Int) (a1 a2 : Int) (w : World) (h : 2000 < l.length ∨ l.length = 0) :
    Calls Try.prog 7 #[.slice a0 l.length cap0, .int .i64 a1, .int .u8 a2] w fun e w' => e = .returned (.bool true) ∧ Below w.heap.size w w' := by
  by_cases hl : 2000 < l.length
  · clear h
    go_enter Try.func7, Try.ntmps7
    go_wp2_with (first | (go_at_call 18; refine (long_yes _ _ _ _ hl).mono ?_; rintro e w' ⟨rfl, rfl⟩) | (go_at_call 17; refine (known_any _).mono ?_; rintro e w' ⟨rfl, hb⟩))
    go_ret
    exact ⟨rfl, hb⟩
  · have h0 : l.length = 0 := by omega
    rw [h0]
    clear h hl h0
    go_enter Try.func7, Try.ntmps7
    go_wp2_with (first | (go_at_call 18; refine (long_no _ _ _ _ (by omega)).mono ?_; rintro e w' ⟨rfl, rfl⟩) | (go_at_call 17; refine (known_any _).mono ?_; rintro e w' ⟨rfl, hb⟩))
    go_ret
    exact ⟨rfl, hb⟩

theorem patch_later {w : World} (s : Int) (n k : Nat) (old now : Int) (hs : U32 s) (ho : U8 old) (hw : U8 now) (hn : n ≤ 2000) (hk : k < n) {r : Int} (hr : pch s n k old now = r) (m : Later w) :
    Calls Try.prog 27 #[.int .u32 s, .int .i64 n, .int .i64 k, .int .u8 old, .int .u8 now] m.to fun e w'' => e = .returned (.tuple #[.int .u32 r, .int .i64 0]) ∧ ∃ q : Later w, w'' = q.to := by
  subst hr
  exact later_below (patch_ok s n k old now m.to hs ho hw hn hk)

set_option maxRecDepth 100000 in
set_option maxHeartbeats 400000 in
theorem crcPatches_short (b0 o0 : Nat) (cap0 : Nat) (l : List Int) (a1 a2 : Int) (w : World) (hl : l.length ≤ 2000) (h1 : 1 ≤ l.length) (hr : Rw w (some ⟨b0, o0, none⟩) l) (hs : Src w (some ⟨b0, o0, none⟩) cap0 l)
    (hc : ∀ i, i < l.length → w.cell? ⟨b0, o0 + i, none⟩ = some (.int .u8 (l.getD i 0))) (g0 : -9223372036854775808 ≤ a1) (g1 : a1 ≤ 9223372036854775807) (h8 : U8 a2) :
    Calls Try.prog 7 #[.slice (some ⟨b0, o0, none⟩) l.length cap0, .int .i64 a1, .int .u8 a2] w fun e w' => e = .returned (.bool true) ∧ Below w.heap.size w w' := by
  obtain ⟨k, hk, -, hcon⟩ := among_nat a1 l.length g0 g1 h1 (by omega)
  obtain ⟨f, x, hf, hpt⟩ := patch_told l.length a1 h1 hl
  have H0 := Lib.hid (fun w => long_no (some ⟨b0, o0, none⟩) l.length cap0 w hl)
  have HA := Lib.hid hcon
  have HP := Lib.hid hpt
  have HF := Lib.hid hf
  have HC := Lib.hid hc
  have hne : ((l.length : Int) == 0) = false := beq_eq_false_iff_ne.2 (by omega)
  clear hcon hpt hf hc
  go_enter Try.func7, Try.ntmps7
  go_wp2_with fail
  refine (H0.out _).mono ?_
  rintro e w' ⟨rfl, rfl⟩
  go_wp2_with fail
  refine (HA.out _).mono ?_
  rintro e w' ⟨rfl, rfl⟩
  go_wp2_with (at_builtin; refine append_bytes rfl _ _ rfl w.heap.size (.slice none 0 0) 0 [] rfl (World.ownsRow_nil _ _ _ _) _ l.length cap0 l rfl rfl hs (by omega) (Nat.le_refl _) ?_)
  intro v1 w1 hown1 hb1
  have hex : ∃ g cap, v1 = .slice (some ⟨g, 0, none⟩) l.length cap ∧ w.heap.size ≤ g := by
    rcases hown1.2 with ⟨_, h0⟩ | ⟨g, cap, cur, h, hg, _⟩
    · omega
    · exact ⟨g, cap, by simpa using h, hg⟩
  obtain ⟨g, cap, rfl, hg⟩ := hex
  have hcell := hown1.cellAt k (by omega)
  have hfr := hown1.frozenAt k
  have hst := (hown1.stored k (.int .u8 a2)).1
  obtain ⟨v0, hcell⟩ : ∃ v0, w1.cell? ⟨g, k, none⟩ = some v0 := by
    refine ⟨.int .u8 l[k], ?_⟩
    rw [hcell]; simp [hk]
  have hB : Below w.heap.size w (w1.setCell ⟨g, k, none⟩ (.int .u8 a2)) := hb1.setCell (p := ⟨g, k, none⟩) hg _
  have HST := Lib.hid hst
  have HB := Lib.hid hB
  clear hst hB hown1 hs
  go_wp2_with fail
  generalize hW : w1.setCell ⟨g, k, none⟩ (.int .u8 a2) = W at *
  have hRW := hr.below HB.out
  have hcW : ∀ m : Later W, m.to.cell? ⟨b0, o0 + k, none⟩ = some (.int .u8 l[k]) := by
    intro m
    have h0 := HC.out k hk
    have e : l.getD k 0 = l[k] := by simp [hk]
    rw [e] at h0
    have h1 := block_lt_of_cell h0
    have h2 : b0 < W.heap.size := Nat.lt_of_lt_of_le h1 HB.out.size
    rw [m.bel.cell (p := ⟨b0, o0 + k, none⟩) h2, HB.out.cell (p := ⟨b0, o0 + k, none⟩) h1]
    exact h0
  have hS := Lib.hid (fun m => sum_later (cap := cap0) hRW rfl m)
  have hPt := Lib.hid (fun (m : Later W) => patch_later (mo 0 l) l.length k l[k] a2 (U32_mo _ _) (hr.1 _ (List.getElem_mem hk)) h8 hl hk (pch_mo l k a2 hk) m)
  clear hW hcell hfr hRW
  refine wp_region_later (by kernel_rfl) (by kernel_rfl) ?_
  repeat (go_big_quiet_step (with_reducible first | exact hS.out _ | exact hPt.out _))
  refine wpQuiet_nil ?_
  rintro _ ⟨m, rfl⟩
  have hbm := HB.out.trans (m.bel.mono HB.out.size)
  obtain ⟨a4, cap4, ev, hr4, hl4⟩ := Rw.of_row (zs := l.set k a2) (w := W) (base := w.heap.size) (v := .slice (some ⟨g, 0, none⟩) l.length cap) (by rw [List.map_set]; exact HST.out) (by
    intro n hn
    rcases List.mem_or_eq_of_mem_set hn with h | rfl
    · exact hr.1 n h
    · exact h8)
  obtain ⟨rfl, -, rfl⟩ : some (⟨g, 0, none⟩ : Addr) = a4 ∧ True ∧ cap = cap4 := by
    injection ev with e1 e2 e3; exact ⟨e1, trivial, e3⟩
  have hr5 := hr4.below m.bel
  have HL := Lib.hid hl4
  clear ev hl4 hr4 hcW hS hPt hr HST
  go_wp2_with fail
  refine (HP.out _).mono ?_
  rintro e w4 ⟨rfl, hb4⟩
  have hr6 := hr5.below hb4
  have hb := hbm.trans (hb4.mono hbm.size)
  clear hr5 hb4 hbm
  go_wp2_with fail
  refine (refsum_len hr6 HL.out).mono ?_
  rintro e w' ⟨rfl, rfl⟩
  rcases HF.out with ⟨rfl, g2, g3⟩ | ⟨rfl, gg⟩
  · go_wp2_with fail
    refine (known_any _).mono ?_
    rintro e w5 ⟨rfl, hb5⟩
    go_wp2
    go_ret
    exact ⟨rfl, hb.trans (hb5.mono hb.size)⟩
  · by_cases g2 : a1 < 0
    · clear gg
      go_wp2_with fail
      refine (known_any _).mono ?_
      rintro e w5 ⟨rfl, hb5⟩
      go_wp2
      go_ret
      exact ⟨rfl, hb.trans (hb5.mono hb.size)⟩
    · have g3 : (l.length : Int) ≤ a1 := by rcases gg with h | h <;> omega
      have g4 : decide (a1 < (l.length : Int)) = false := by simp; omega
      clear gg
      go_wp2_with fail
      refine (known_any _).mono ?_
      rintro e w5 ⟨rfl, hb5⟩
      go_wp2
      go_ret
      exact ⟨rfl, hb.trans (hb5.mono hb.size)⟩

theorem crcPatches_walk (a0 : Option Addr) (len0 cap0 : Nat) (z0 : List Int) (a1 : Int) (a2 : Int) (w : World) (w0 : Row8 w a0 len0 cap0 z0) (w1 : (Lit.int .i64 a1).wf = true) (w2 : (Lit.int .u8 a2).wf = true) :
    Calls Try.prog 7 #[.slice a0 len0 cap0, .int .i64 a1, .int .u8 a2] w fun e w' => e = .returned (.bool true) ∧ Below w.heap.size w w' := by
  have s0 := w0.src
  obtain ⟨l, rfl, hcap, hr, e0⟩ := w0.rw
  rw [← e0] at s0
  obtain ⟨g0, g1⟩ := bounds_i64 w1
  by_cases h : 2000 < l.length ∨ l.length = 0
  · exact crcPatches_long a0 cap0 l a1 a2 w h
  · have hr' := hr
    obtain ⟨-, -, rfl | ⟨b, o, rfl, hc⟩⟩ := hr'
    · simp at h
    · exact crcPatches_short b o cap0 l a1 a2 w (by omega) (by omega) hr s0 hc g0 g1 (U8_wf w2)

end Go.Proofs.Ytgadiloflepclaa
