/-
  The statement on two rows of bytes that differ within four bytes that stand together.
-/
import Derived.Test.YtgadiloflepclaaCrcThreeW
import Derived.Laws.AppendOwnNone
namespace Crcm
open Go

/-- a row of which the bytes from k on are put together with the first j of x -/
def bu (l : List Int) (k : Nat) (x : List Int) : Nat → List Int
  | 0 => l
  | j + 1 => (bu l k x j).set (k + j) (bits .xor .u8 ((bu l k x j).getD (k + j) 0) (x.getD j 0))
theorem bu_length (l : List Int) (k : Nat) (x : List Int) (j : Nat) : (bu l k x j).length = l.length := by
  induction j with
  | zero => rfl
  | succ j ih => simp [bu, ih]
theorem bu_get (l : List Int) (k : Nat) (x : List Int) (j : Nat) (i : Nat) : (bu l k x j).getD i 0 = if k ≤ i ∧ i < k + j ∧ i < l.length then bits .xor .u8 (l.getD i 0) (x.getD (i - k) 0) else l.getD i 0 := by
  induction j generalizing i with
  | zero => rw [if_neg (by omega)]; rfl
  | succ j ih =>
    simp only [bu, List.getD_eq_getElem?_getD, List.getElem?_set]
    have hl := bu_length l k x j
    by_cases e : k + j = i
    · subst e
      rw [if_pos rfl]
      by_cases hlt : k + j < l.length
      · rw [if_pos (by omega), if_pos (by omega)]
        have h1 := ih (k + j)
        rw [if_neg (by omega)] at h1
        simp only [List.getD_eq_getElem?_getD] at h1
        rw [show k + j - k = j by omega]
        simp [h1]
      · rw [if_neg (by omega), if_neg (by omega), List.getElem?_eq_none (by omega)]
    · rw [if_neg e]
      have h1 := ih i
      simp only [List.getD_eq_getElem?_getD] at h1
      rw [h1]
      by_cases c : k ≤ i ∧ i < k + j ∧ i < l.length
      · rw [if_pos c, if_pos (by omega)]
      · rw [if_neg c, if_neg (by omega)]
theorem bu_U8 (l : List Int) (k : Nat) (x : List Int) (hl : ∀ n ∈ l, U8 n) (hx : ∀ n ∈ x, U8 n) (j : Nat) (hj : j ≤ x.length) : ∀ n ∈ bu l k x j, U8 n := by
  induction j with
  | zero => exact hl
  | succ j ih =>
    intro n hn
    have ih := ih (by omega)
    simp only [bu] at hn
    rcases List.mem_or_eq_of_mem_set hn with h | rfl
    · exact ih n h
    · have a : ∀ (l : List Int) (i : Nat), (∀ n ∈ l, U8 n) → U8 (l.getD i 0) := by
        intro l i h
        by_cases hi : i < l.length
        · simp [hi]; exact h _ (List.getElem_mem hi)
        · simp [List.getElem?_eq_none (by omega : l.length ≤ i)]; unfold U8; omega
      exact (xor8 (a _ _ ih) (a _ _ hx)).1
theorem bu_split (l : List Int) (k : Nat) (x : List Int) (hl : ∀ n ∈ l, U8 n) (hx : ∀ n ∈ x, U8 n) (hk : k + x.length ≤ l.length) :
    (bu l k x x.length).map V = (l.map V).take k ++ List.zipWith (· ^^^ ·) (((l.map V).drop k).take x.length) (x.map V) ++ (l.map V).drop (k + x.length) := by
  apply List.ext_getElem
  · simp [bu_length]; omega
  · intro i h1 h2
    have hi : i < l.length := by simpa [bu_length] using h1
    have hb : (bu l k x x.length)[i]'(by rw [bu_length]; exact hi) = (bu l k x x.length).getD i 0 := by simp [bu_length, hi]
    rw [List.getElem_map, hb, bu_get]
    have gl : l.getD i 0 = l[i] := by simp [hi]
    by_cases c1 : i < k
    · rw [if_neg (by omega), gl, List.getElem_append_left (by simp; omega), List.getElem_append_left (by simp; omega), List.getElem_take, List.getElem_map]
    · by_cases c2 : i < k + x.length
      · have hx' : i - k < x.length := by omega
        have gx : x.getD (i - k) 0 = x[i - k] := by simp [hx']
        rw [if_pos (by omega), gl, gx, (xor8 (hl _ (List.getElem_mem _)) (hx _ (List.getElem_mem _))).2, List.getElem_append_left (by simp; omega), List.getElem_append_right (by simp; omega)]
        simp only [List.getElem_zipWith, List.getElem_take, List.getElem_drop, List.getElem_map, List.length_take, List.length_map]
        congr 3
        · omega
        · congr 1; omega
      · rw [if_neg (by omega), gl, List.getElem_append_right (by simp; omega)]
        simp only [List.getElem_drop, List.getElem_map]
        congr 2
        simp
        omega
theorem l_split (l : List (BitVec 32)) (k n : Nat) (_hk : k + n ≤ l.length) : l = l.take k ++ (l.drop k).take n ++ l.drop (k + n) := by
  rw [List.append_assoc, ← List.drop_drop, List.take_append_drop, List.take_append_drop]

end Crcm
namespace Go.Proofs.Ytgadiloflepclaa
open Go.RowKit Crcm Go.ChangeShapes

/-- are the first j bytes 0? -/
def sm (x : List Int) (j : Nat) : Bool := (x.take j).all (· == 0)
theorem sm_succ (x : List Int) (j : Nat) (h : j < x.length) : sm x (j + 1) = (sm x j && x[j] == 0) := by
  unfold sm
  rw [List.take_succ_eq_append_getElem h, List.all_append]
  simp
theorem burst_ok (l : List Int) (k : Nat) (x : List Int) (hl : ∀ n ∈ l, U8 n) (hx : ∀ n ∈ x, U8 n) (hk : k + x.length ≤ l.length) (h4 : x.length ≤ 4) :
    (mo 0 (bu l k x x.length) == mo 0 l) = sm x x.length := by
  have hb := burst (~~~ V 0) ((l.map V).take k) ((l.map V).drop (k + x.length)) (x.map V) (((l.map V).drop k).take x.length)
    (by intro b hb; obtain ⟨n, hn, rfl⟩ := List.mem_map.1 hb; have h := hx n hn; rw [toNat_V h.u32]; obtain ⟨h0, h1⟩ := h; omega) (by simpa using h4) (by simp; omega)
  rw [← l_split (l.map V) k x.length (by simpa using hk), ← bu_split l k x hl hx hk] at hb
  have hz : (∀ b ∈ x.map V, b = 0#32) ↔ sm x x.length = true := by
    unfold sm
    rw [List.take_length, List.all_eq_true]
    constructor
    · intro h n hn
      have h1 := h _ (List.mem_map.2 ⟨n, hn, rfl⟩)
      have h2 : n = 0 := V_inj (hx n hn).u32 ⟨by decide, by decide⟩ (by rw [h1]; rfl)
      simp [h2]
    · intro h b hb
      obtain ⟨n, hn, rfl⟩ := List.mem_map.1 hb
      have h1 := h n hn
      have h2 : n = 0 := by simpa using h1
      rw [h2]; rfl
  rw [Bool.eq_iff_iff, ← hz, ← hb, beq_iff_eq]
  constructor
  · intro h; exact (mo_inj h).symm
  · intro h; unfold mo; rw [h]

theorem among_int (k : Int) (n : Nat) (N : Int) (hN : N = n) (hk0 : -9223372036854775808 ≤ k) (hk1 : k ≤ 9223372036854775807) (hn0 : 1 ≤ n) (hn1 : n ≤ 9223372036854775807) :
    ∃ j : Nat, j < n ∧ ∀ w, Calls Try.prog 26 #[.int .i64 k, .int .i64 N] w fun e w' => e = .returned (.int .i64 (j : Int)) ∧ w = w' := by
  subst hN
  obtain ⟨j, h1, _, h2⟩ := among_nat k n hk0 hk1 hn0 hn1
  exact ⟨j, h1, h2⟩

/-- the loop of the statement and what stands behind it, from the copy on -/
def Own (w wr : World) (g cap : Nat) (xs : List Int) : Prop :=
  wr.ownsRow w.heap.size 5 1 (.slice (some ⟨g, 0, none⟩) xs.length cap) xs.length (xs.map (Value.int .u8))

set_option maxHeartbeats 400000 in
theorem crcBurst_short (a0 : Option Addr) (cap0 : Nat) (l : List Int) (a1 : Int) (a2 : Option Addr) (cap2 : Nat) (x : List Int) (w : World) (hr : Rw w a0 l) (hr2 : Rw w a2 x)
    (h : 2000 < l.length ∨ 4 < x.length ∨ l.length < x.length) :
    Calls Try.prog 9 #[.slice a0 l.length cap0, .int .i64 a1, .slice a2 x.length cap2] w fun e w' => e = .returned (.bool true) ∧ Below w.heap.size w w' := by
  have m1 := hr.2.1
  have m2 := hr2.2.1
  unfold maxLen at m1 m2
  by_cases hl : 2000 < l.length
  · go_enter Try.func9, Try.ntmps9
    go_wp2_with (first | (go_at_call 18; refine (long_yes _ _ _ _ hl).mono ?_; rintro e w' ⟨rfl, rfl⟩) | (go_at_call 17; refine (known_any _).mono ?_; rintro e w' ⟨rfl, hb⟩))
    go_ret
    exact ⟨rfl, hb⟩
  · have hl' : l.length ≤ 2000 := by omega
    by_cases g : 4 < x.length
    · go_enter Try.func9, Try.ntmps9
      go_wp2_with (first | (go_at_call 18; refine (long_no _ _ _ _ hl').mono ?_; rintro e w' ⟨rfl, rfl⟩) | (go_at_call 17; refine (known_any _).mono ?_; rintro e w' ⟨rfl, hb⟩))
      go_ret
      exact ⟨rfl, hb⟩
    · have g2 : l.length < x.length := by omega
      clear h
      go_enter Try.func9, Try.ntmps9
      go_wp2_with (first | (go_at_call 18; refine (long_no _ _ _ _ hl').mono ?_; rintro e w' ⟨rfl, rfl⟩) | (go_at_call 17; refine (known_any _).mono ?_; rintro e w' ⟨rfl, hb⟩))
      go_ret
      exact ⟨rfl, hb⟩

set_option maxRecDepth 100000 in
set_option maxHeartbeats 400000 in
theorem crcBurst_long (ad : Addr) (cap0 : Nat) (l : List Int) (a1 : Int) (a2 : Option Addr) (cap2 : Nat) (x : List Int) (w : World) (hcap : l.length ≤ cap0) (hr : Rw w (some ad) l) (hr2 : Rw w a2 x)
    (hc : ∀ i, i < l.length → w.cell? (ad.add i) = some (.int .u8 (l.getD i 0))) (b0 : -9223372036854775808 ≤ a1) (b1 : a1 ≤ 9223372036854775807)
    (hl : l.length ≤ 2000) (h4 : x.length ≤ 4) (hx : x.length ≤ l.length) :
    Calls Try.prog 9 #[.slice (some ad) l.length cap0, .int .i64 a1, .slice a2 x.length cap2] w fun e w' => e = .returned (.bool true) ∧ Below w.heap.size w w' := by
  obtain ⟨i0, hi, hz0, hz1, hz2⟩ := info_parts Try.info8
  obtain ⟨k, hk, hcon⟩ := among_int a1 (l.length - x.length + 1) ((l.length : Int) - x.length + 1) (by omega) b0 b1 (by omega) (by omega)
  have HC := Lib.hid hcon
  have HL := Lib.hid hc
  have hd4 : decide ((4 : Int) < (x.length : Int)) = false := by simp; omega
  clear hcon hc
  go_enter Try.func9, Try.ntmps9
  go_wp2_with (first | (go_at_call 18; refine (long_no _ _ _ _ hl).mono ?_; rintro e w' ⟨rfl, rfl⟩) | (go_at_call 26; refine (HC.out _).mono ?_; rintro e w' ⟨rfl, rfl⟩) | (at_builtin; refine wpList_append_own _ rfl _ _ 26 rfl w.heap.size 5 i0 (.int .u8 0) 1 1 Try.underlying26 hi hz0 hz1 hz2 rfl (by decide) _ _ _ rfl (World.ownsRow_nil _ _ _ _) ad l.length cap0 (l.map (Value.int .u8)) rfl ?c0 ?c1 ?c2 ?c3 ?c4 ?c5 ?_))
  case c0 => simp
  case c1 =>
    intro j u hu
    rw [List.getElem?_map] at hu
    by_cases hj : j < l.length
    · rw [HL.out j hj]
      simpa [hj] using hu
    · simp [List.getElem?_eq_none (by omega : l.length ≤ j)] at hu
  case c2 => intro u hu; obtain ⟨n, -, rfl⟩ := List.mem_map.1 hu; rfl
  case c3 => unfold maxLen; omega
  case c4 => omega
  case c5 => exact Nat.le_refl _
  intro v' w1 hown hgrow _
  have hb1 : Below w.heap.size w w1 := (Below.refl _ _).grown hgrow (Nat.le_refl _) (fun g hg => by cases hg)
  clear hgrow
  by_cases hl0 : l.length = 0
  · have hx0 : x.length = 0 := by omega
    obtain rfl : l = [] := List.eq_nil_of_length_eq_zero hl0
    obtain rfl : x = [] := List.eq_nil_of_length_eq_zero hx0
    obtain ⟨a4, cap4, rfl, hr4, -⟩ := Rw.of_own hown hr.1
    have q0 := hr.below hb1
    clear hown hl0 hx0
    go_wp2_with fail
    refine wp_loop_rounds 1 ?_
    rw [rounds_succ]
    go_wp2_with fail
    refine (sum_len hr4 rfl).mono ?_
    rintro e w' ⟨rfl, rfl⟩
    go_wp2_with fail
    refine (sum_len q0 rfl).mono ?_
    rintro e w' ⟨rfl, rfl⟩
    go_wp2_with fail
    refine (known_any _).mono ?_
    rintro e w3 ⟨rfl, hb3⟩
    go_wp2
    go_ret
    exact ⟨rfl, hb1.trans (hb3.mono hb1.size)⟩
  · have hex : ∃ g cap, v' = .slice (some ⟨g, 0, none⟩) l.length cap ∧ w.heap.size ≤ g := by
      rcases hown.2 with ⟨_, h0⟩ | ⟨g, cap, cur, h, hg, _⟩
      · omega
      · exact ⟨g, cap, h, hg⟩
    obtain ⟨g, cap, rfl, hg⟩ := hex
    have H1 := Lib.hid hown
    clear hown
    go_wp2_with fail
    go_loopw [9, 10] (fun s i wr => ∃ j : Nat, ∃ t : Bool, j ≤ x.length ∧ i = .int .i64 j ∧ s = .bool t ∧ Hid (t = sm x j) ∧ Hid (wr.ownsRow w.heap.size 5 1 (.slice (some ⟨g, 0, none⟩) l.length cap) l.length ((bu l k x j).map (Value.int .u8))) ∧ Below w.heap.size w wr) (fun _ i _ => x.length - (intOf i).toNat)
    case atStart => exact ⟨0, true, by omega, rfl, rfl, Lib.hid rfl, H1, hb1⟩
    case round =>
      obtain ⟨j, t, hj, rfl, rfl, ht, hO, hbel⟩ := hrel
      by_cases hlt : j < x.length
      · obtain ⟨-, -, rfl | ⟨bx, ox, rfl, cx⟩⟩ := hr2.below hbel
        · simp at hlt
        have cx := cx j hlt
        have hlen := bu_length l k x j
        have hkj : k + j < l.length := by omega
        obtain ⟨d, hd, hde⟩ : ∃ d, wr.cell? ⟨g, k + j, none⟩ = some (.int .u8 d) ∧ Hid (d = (bu l k x j).getD (k + j) 0) := by
          refine ⟨_, ?_, Lib.hid rfl⟩
          rw [hO.out.cellAt (k + j) (by omega), List.getElem?_map]
          simp [bu_length, hkj]
        have hf := hO.out.frozenAt (k + j)
        clear H1 hb1
        have hst := hO.out.stored (k + j) (.int .u8 (bits .xor .u8 d (x.getD j 0)))
        have e : ((bu l k x j).map (Value.int .u8)).set (k + j) (.int .u8 (bits .xor .u8 d (x.getD j 0))) = (bu l k x (j + 1)).map (Value.int .u8) := by
          rw [hde.out, ← List.map_set]; rfl
        rw [e] at hst
        have exj : x.getD j 0 = x[j] := by simp [hlt]
        rw [exj] at hst
        have HST := Lib.hid hst.1
        clear hst e exj
        have hsm := Lib.hid (sm_succ x j hlt)
        cases t
        · go_wp2
          go_region
          go_wp2
          go_roundw
          case rel =>
            exact ⟨j + 1, false, by omega, by go_num, rfl, Lib.hid (by rw [hsm.out, ← ht.out]; rfl), HST, (hbel.setCell (p := ⟨g, k + j, none⟩) hg _).drew⟩
          case measure => simp [intOf]; omega
        · go_wp2
          go_region
          go_wp2
          go_roundw
          case rel =>
            exact ⟨j + 1, x[j] == 0, by omega, by go_num, rfl, Lib.hid (by rw [hsm.out, ← ht.out]; rfl), HST, (hbel.setCell (p := ⟨g, k + j, none⟩) hg _).drew⟩
          case measure => simp [intOf]; omega
      · have hjx : j = x.length := by omega
        subst hjx
        obtain ⟨a4, cap4, ev, hr4, hl4⟩ := Rw.of_own hO.out (bu_U8 l k x hr.1 hr2.1 _ (Nat.le_refl _))
        obtain ⟨rfl, -, rfl⟩ : some (⟨g, 0, none⟩ : Addr) = a4 ∧ True ∧ cap = cap4 := by
          injection ev with e1 e2 e3; exact ⟨e1, trivial, e3⟩
        have hok := burst_ok l k x hr.1 hr2.1 (by omega) h4
        rw [← ht.out] at hok
        have q0 := hr.below hbel
        have HL4 := Lib.hid hl4
        clear ev hl4 H1 hb1 hr hr2
        go_wp2_with fail
        refine (sum_len hr4 HL4.out).mono ?_
        rintro e w' ⟨rfl, rfl⟩
        go_wp2_with fail
        refine (sum_any _ _ _ _ q0).mono ?_
        rintro e w' ⟨rfl, rfl⟩
        cases t
        all_goals
          go_wp2_with fail
          refine (known_any _).mono ?_
          rintro e w3 ⟨rfl, hb3⟩
          go_wp2
          go_ret
          exact ⟨rfl, hbel.trans (hb3.mono hbel.size)⟩

set_option maxRecDepth 100000 in
set_option maxHeartbeats 400000 in
theorem crcBurst_nil (a1 : Int) (a2 : Option Addr) (cap2 : Nat) (w : World) (b0 : -9223372036854775808 ≤ a1) (b1 : a1 ≤ 9223372036854775807) :
    Calls Try.prog 9 #[.slice none 0 0, .int .i64 a1, .slice a2 0 cap2] w fun e w' => e = .returned (.bool true) ∧ Below w.heap.size w w' := by
  obtain ⟨i0, hi, hz0, hz1, hz2⟩ := info_parts Try.info8
  obtain ⟨k, hk, hcon⟩ := among_int a1 1 1 rfl b0 b1 (by omega) (by omega)
  have hk0 : k = 0 := by omega
  subst hk0
  have HC := Lib.hid hcon
  clear hcon hk hz0 hz1 hz2
  go_enter Try.func9, Try.ntmps9
  go_wp2_with (first | (go_at_call 18; refine (long_no _ _ _ _ (by omega)).mono ?_; rintro e w' ⟨rfl, rfl⟩) | (go_at_call 26; refine (HC.out _).mono ?_; rintro e w' ⟨rfl, rfl⟩) | (at_builtin; refine wpList_append_own_none rfl _ _ 26 rfl w.heap.size 5 i0 1 Try.underlying26 hi _ _ _ rfl (World.ownsRow_nil _ _ _ _) rfl ?_))
  go_wp2_with fail
  refine wp_loop_rounds 1 ?_
  rw [rounds_succ]
  go_wp2_with fail
  refine (sum_nil _).mono ?_
  rintro e w' ⟨rfl, rfl⟩
  go_wp2_with fail
  refine (sum_nil _).mono ?_
  rintro e w' ⟨rfl, rfl⟩
  go_wp2_with fail
  refine (known_any _).mono ?_
  rintro e w3 ⟨rfl, hb3⟩
  go_wp2
  go_ret
  exact ⟨rfl, hb3⟩

theorem Row8.cells {w : World} {ad : Addr} {len cap : Nat} {zs : List Int} (h : Row8 w (some ad) len cap zs) (i : Nat) (hi : i < (zs.take len).length) : w.cell? (ad.add i) = some (.int .u8 ((zs.take len).getD i 0)) := by
  rcases h with ⟨h, -⟩ | ⟨x, h, hl, hm, hz, hc, hw⟩
  · cases h
  · injection h with h
    subst h
    rw [List.length_take] at hi
    have hi' : i < len := by omega
    rw [hc i (by omega)]
    simp [List.getD_eq_getElem?_getD, hi']

theorem crcBurst_walk (a0 : Option Addr) (len0 cap0 : Nat) (z0 : List Int) (a1 : Int) (a2 : Option Addr) (len2 cap2 : Nat) (z2 : List Int) (w : World) (w0 : Row8 w a0 len0 cap0 z0) (w1 : (Lit.int .i64 a1).wf = true) (w2 : Row8 w a2 len2 cap2 z2) :
    Calls Try.prog 9 #[.slice a0 len0 cap0, .int .i64 a1, .slice a2 len2 cap2] w fun e w' => e = .returned (.bool true) ∧ Below w.heap.size w w' := by
  obtain ⟨l, rfl, hcap, hr, hl⟩ := w0.rw
  obtain ⟨x, rfl, hcap2, hr2, -⟩ := w2.rw
  obtain ⟨b0, b1⟩ := bounds_i64 w1
  by_cases h : 2000 < l.length ∨ 4 < x.length ∨ l.length < x.length
  · exact crcBurst_short a0 cap0 l a1 a2 cap2 x w hr hr2 h
  · rcases a0 with _ | ad
    · rcases w0 with ⟨-, e1, e2, -⟩ | ⟨y, h', -⟩
      · have hx0 : x.length = 0 := by omega
        rw [e1, e2, hx0]
        exact crcBurst_nil a1 a2 cap2 w b0 b1
      · cases h'
    · have hc := fun i hi => w0.cells i (by rw [← hl]; exact hi)
      rw [← hl] at hc
      exact crcBurst_long ad cap0 l a1 a2 cap2 x w hcap hr hr2 hc b0 b1 (by omega) (by omega) (by omega)

end Go.Proofs.Ytgadiloflepclaa
