/-
  The law GlobMatches: the document's Match, open and May, and the law itself.
-/
import Derived.Test.YtaielamimkigmaaGlobNewR
import Derived.Deep.RegionHeld3
import Derived.Test.YtaielamimkigmaaGlobMany
import Derived.Test.YtaielamimkigmaaGlobBarren
namespace Go.Proofs.Ytaielamimkigmaa
open Go.RowKit Go.ChangeShapes Globm Go.ChangeMaps

theorem mB_any_no {t : ByteArray} {L N : List ByteArray} (h : isAny t = true) (hn : ∀ i, i ≤ N.length → mB L (N.drop i) = false) : mB (t :: L) N = false := by
  rw [Bool.eq_false_iff, Ne, mB_any h]
  rintro ⟨k, h1, h2⟩
  rw [hn k h1] at h2; cases h2

set_option maxRecDepth 100000 in
set_option maxHeartbeats 4000000 in
theorem rmatch_any : ∀ (L : List ByteArray) (A : Option Addr) (k c : Nat) (N : List ByteArray) (a : Option Addr) (n cap : Nat) (w : World), Rs w A L → L.length = k → k ≤ c → k ≤ 1000 → Rs w a N → N.length = n → n ≤ cap → n ≤ 1000 → (∀ x ∈ N, x.size ≤ 1000) →
    Calls Try.prog 18 #[.slice A k c, .slice a n cap] w fun e w' => e = .returned (.bool (mB L N)) ∧ Below w.heap.size w w'
  | [], A, k, c, N, a, n, cap, w, hR, hk, hkc, hk1, hRN, hn, hnc, hn1, hz => by
    have hnI : (n : Int) ≤ 1000 := by omega
    have hk0 : k = 0 := by simpa using hk.symm
    have hm : mB [] N = ((n : Int) == 0) := by
      rw [mB_nil, Bool.eq_iff_iff, hn]; simp
    rw [hm]
    subst hk0
    clear hm hR hk hRN hn hz
    go_enter Try.func18, Try.ntmps18
    go_wp2_with fail
    go_ret
    exact ⟨rfl, Below.refl _ _⟩
  | t :: L, A, k, c, N, a, n, cap, w, hR, hk, hkc, hk1, hRN, hn, hnc, hn1, hz => by
    have hkp : 0 < k := by rw [← hk]; simp
    have hkpI : (0 : Int) < (k : Int) := by omega
    have e0 : ((k : Int) == 0) = false := by simp; omega
    have hnI : (n : Int) ≤ 1000 := by omega
    rcases hR.2.2 with h0 | ⟨b, off, rfl, hcl⟩
    · cases h0
    have c1 : w.cell? ⟨b, off, none⟩ = some (.string t) := hcl 0 (by simp)
    have hLk : L.length = k - 1 := by simp at hk; omega
    have HRt : Hid (Rs w (mS (some ⟨b, off, none⟩) c 1) L) := Lib.hid (hR.cut (c := c) (x := 1) (by omega))
    obtain ⟨A1, hA1⟩ : ∃ A1, mS (some ⟨b, off, none⟩) c 1 = A1 := ⟨_, rfl⟩
    have HS1 : ∀ W, Sem.run Try.prog (Instr.slice 27 (.slice (some ⟨b, off, none⟩) k c) (some (.int .i64 1)) none none) W = .ok (.slice A1 (k - 1) (c - 1)) W := fun W => by rw [← hA1]; exact slS (some ⟨b, off, none⟩) k c 1 (by omega) W
    rw [hA1] at HRt
    have HI := Lib.hid (fun (N' : List ByteArray) (a' : Option Addr) (n' cap' : Nat) (w' : World) (h : Rs w' A1 L) => rmatch_any L A1 (k - 1) (c - 1) N' a' n' cap' w' h hLk (by omega) (by omega))
    have tA := isAny_toList t
    have HZ := Lib.hid hz
    have HN := Lib.hid hn
    have HRN := Lib.hid hRN
    clear hR hk hRN hn hz hcl hA1 hLk
    cases hA : isAny t with
    | true =>
      rw [hA] at tA
      have HA := Lib.hid hA
      clear hA
      go_enter Try.func18, Try.ntmps18
      go_wp2_with fail
      go_loopw [5] (fun i wr => ∃ j : Nat, i = .int .i64 j ∧ j ≤ n + 1 ∧ Hid (∀ i, i < j → mB L (N.drop i) = false) ∧ Hid (Below w.heap.size w wr)) (fun i _ => n + 1 - (intOf i).toNat)
      case atStart => exact ⟨0, rfl, by omega, Lib.hid (fun i h => absurd h (Nat.not_lt_zero _)), Lib.hid (Below.refl _ _)⟩
      case round =>
        obtain ⟨j, rfl, hj, hno, hB⟩ := hrel
        by_cases hjn : j ≤ n
        · have hjI : (j : Int) ≤ (n : Int) := by omega
          obtain ⟨A2, hA2⟩ : ∃ A2, mS a cap j = A2 := ⟨_, rfl⟩
          have HS2 : ∀ W, Sem.run Try.prog (Instr.slice 27 (.slice a n cap) (some (.int .i64 j)) none none) W = .ok (.slice A2 (n - j) (cap - j)) W := fun W => by rw [← hA2]; exact slS a n cap j hjn W
          have HC := Lib.hid (fun (W : World) (hw : Below wr.heap.size wr W) => (HI.out (N.drop j) A2 (n - j) (cap - j) W ((HRt.out.below hB.out).below hw) (by rw [← hA2]; exact ((HRN.out.below hB.out).below hw).cut (by have := HN.out; omega)) (by rw [List.length_drop, HN.out]) (by omega) (by omega) (fun x hx => HZ.out x (List.mem_of_mem_drop hx))).mono (fun e w' h => (⟨h.1, gbonq hw h.2⟩ : e = .returned (.bool (mB L (N.drop j))) ∧ Below wr.heap.size wr w')))
          clear hA2
          cases hv : mB L (N.drop j) with
          | true =>
            have HV : Hid (mB (t :: L) N = true) := Lib.hid ((mB_any HA.out).2 ⟨j, by have := HN.out; omega, hv⟩)
            rw [hv] at HC
            clear hv hno HI HZ
            go_wp2_with fail
            go_region_held3 (fun w' => Below wr.heap.size wr w') ((first | assumption | exact Below.drew (by assumption) | exact (Below.refl _ wr).drew)) (first | (go_at_call 18; refine (HC.out _ ?_).mono ?_; assumption; rintro e w' ⟨rfl, hb'⟩))
            all_goals
              have HBw := Lib.hid (gbonq hB.out (show Below wr.heap.size wr w' by assumption))
              go_wp2_with fail
              rw [HV.out]
              go_ret
              exact ⟨rfl, HBw.out⟩
          | false =>
            have HNo : Hid (∀ i, i < j + 1 → mB L (N.drop i) = false) := Lib.hid (fun i hi => by
              rcases Nat.lt_succ_iff_lt_or_eq.1 hi with h | rfl
              · exact hno.out i h
              · exact hv)
            rw [hv] at HC
            clear hv hno HI HZ
            go_wp2_with fail
            go_region_held3 (fun w' => Below wr.heap.size wr w') ((first | assumption | exact Below.drew (by assumption) | exact (Below.refl _ wr).drew)) (first | (go_at_call 18; refine (HC.out _ ?_).mono ?_; assumption; rintro e w' ⟨rfl, hb'⟩))
            all_goals
              have HBw := Lib.hid (gbonq hB.out (show Below wr.heap.size wr w' by assumption))
              go_wp2_with fail
              exact ⟨⟨j + 1, by go_num, by omega, HNo, HBw⟩, by simp only [intOf]; omega⟩
        · have hjI : ¬ (j : Int) ≤ (n : Int) := by omega
          have HV : Hid (mB (t :: L) N = false) := Lib.hid (mB_any_no HA.out (fun i hi => hno.out i (by have := HN.out; omega)))
          clear hno HI HZ
          go_wp2_with fail
          rw [HV.out]
          go_ret
          exact ⟨rfl, hB.out⟩
    | false =>
      rw [hA] at tA
      rcases Nat.eq_zero_or_pos n with h0 | hpos
      · have hN0 : N = [] := List.eq_nil_of_length_eq_zero (by rw [HN.out]; exact h0)
        have HV : Hid (mB (t :: L) N = false) := Lib.hid (by rw [hN0]; exact mB_none hA)
        have t1 : ((n : Int) == 0) = true := by simp; omega
        clear hA h0 hN0 HI HZ
        go_enter Try.func18, Try.ntmps18
        go_wp2_with fail
        rw [HV.out]
        go_ret
        exact ⟨rfl, Below.refl _ _⟩
      · have t1 : ((n : Int) == 0) = false := by simp; omega
        have hposI : (0 : Int) < (n : Int) := by omega
        rcases HRN.out.2.2 with h0 | ⟨b2, off2, rfl, hcl2⟩
        · exfalso
          have := HN.out
          rw [h0] at this
          simp at this; omega
        have hNp : 0 < N.length := by have := HN.out; omega
        have c2 : w.cell? ⟨b2, off2, none⟩ = some (.string N[0]) := hcl2 0 hNp
        obtain ⟨x, hx⟩ : ∃ x, N[0] = x := ⟨_, rfl⟩
        rw [hx] at c2
        have hN1 : N = x :: N.drop 1 := by
          rw [← hx]
          have := List.drop_eq_getElem_cons (l := N) (i := 0) hNp
          rw [List.drop_zero] at this
          exact this
        have hxz : x.size ≤ 1000 := HZ.out x (by rw [hN1]; simp)
        have HV : Hid (mB (t :: L) N = (fitsT t x && mB L (N.drop 1))) := Lib.hid (by
          conv => lhs; rw [hN1]
          exact mB_one hA)
        obtain ⟨A2, hA2⟩ : ∃ A2, mS (some ⟨b2, off2, none⟩) cap 1 = A2 := ⟨_, rfl⟩
        have HS2 : ∀ W, Sem.run Try.prog (Instr.slice 27 (.slice (some ⟨b2, off2, none⟩) n cap) (some (.int .i64 1)) none none) W = .ok (.slice A2 (n - 1) (cap - 1)) W := fun W => by rw [← hA2]; exact slS (some ⟨b2, off2, none⟩) n cap 1 hpos W
        have HPt := Lib.hid (fun (W : World) (hw : Below w.heap.size w W) => (rpart_any t x W hxz).mono (fun e w' h => (⟨h.1, gbonq hw h.2⟩ : e = .returned (.tuple #[.bool (ptR t x).1, .int .i64 (ptR t x).2]) ∧ Below w.heap.size w w')))
        have HC := Lib.hid (fun (W : World) (hw : Below w.heap.size w W) => (HI.out (N.drop 1) A2 (n - 1) (cap - 1) W (HRt.out.below hw) (by rw [← hA2]; exact (HRN.out.below hw).cut (by have := HN.out; omega)) (by rw [List.length_drop, HN.out]) (by omega) (by omega) (fun x hx => HZ.out x (List.mem_of_mem_drop hx))).mono (fun e w' h => (⟨h.1, gbonq hw h.2⟩ : e = .returned (.bool (mB L (N.drop 1))) ∧ Below w.heap.size w w')))
        have hfit := fitsT_ptR (t := t) (x := x) hA
        obtain ⟨r, hr⟩ : ∃ r, ptR t x = r := ⟨_, rfl⟩
        rw [hr] at HPt hfit
        obtain ⟨ok, er⟩ := r
        have hfit2 : ok = fitsT t x := hfit
        rw [← hfit2] at HV
        clear hA hA2 hx hN1 hxz hcl2 hNp HI HZ hfit hfit2 hr
        cases ok with
        | false =>
          go_enter Try.func18, Try.ntmps18
          go_wp2_with fail
          go_region_held3 (fun w' => w'.cell? ⟨b, off, none⟩ = some (.string t) ∧ w'.cell? ⟨b2, off2, none⟩ = some (.string x) ∧ Below w.heap.size w w') ((go_split_ands; refine ⟨?_, ?_, ?_⟩ <;> first | assumption | exact Below.drew (by assumption) | exact (Below.refl _ w).drew | exact (Below.cell (by assumption) (block_lt_of_cell c1)).trans c1 | exact (Below.cell (by assumption) (block_lt_of_cell c2)).trans c2)) (first | (go_at_call 11; refine (HPt.out _ ?_).mono ?_; (go_split_ands; assumption); rintro e w' ⟨rfl, hb'⟩))
          all_goals
            go_split_ands
            have HBw := Lib.hid (show Below w.heap.size w w' by assumption)
            clear HPt
            go_wp2_with fail
            go_region
            all_goals
              go_wp2_with fail
              rw [HV.out]
              go_ret
              exact ⟨by first | rfl | simp, by first | exact HBw.out | exact HBw.out.drew⟩
        | true =>
          go_enter Try.func18, Try.ntmps18
          go_wp2_with fail
          go_region_held3 (fun w' => w'.cell? ⟨b, off, none⟩ = some (.string t) ∧ w'.cell? ⟨b2, off2, none⟩ = some (.string x) ∧ Below w.heap.size w w') ((go_split_ands; refine ⟨?_, ?_, ?_⟩ <;> first | assumption | exact Below.drew (by assumption) | exact (Below.refl _ w).drew | exact (Below.cell (by assumption) (block_lt_of_cell c1)).trans c1 | exact (Below.cell (by assumption) (block_lt_of_cell c2)).trans c2)) (first | (go_at_call 11; refine (HPt.out _ ?_).mono ?_; (go_split_ands; assumption); rintro e w' ⟨rfl, hb'⟩))
          all_goals
            go_split_ands
            have HBw := Lib.hid (show Below w.heap.size w w' by assumption)
            clear HPt
            go_wp2_with fail
            go_region_held3 (fun w' => Below w.heap.size w w') ((first | assumption | exact Below.drew (by assumption) | exact HBw.out | exact HBw.out.drew)) (first | (go_at_call 18; refine (HC.out _ ?_).mono ?_; assumption; rintro e w'' ⟨rfl, hb''⟩))
            all_goals
              have HBz := Lib.hid (show Below w.heap.size w w'' by first | assumption | exact HBw.out | exact HBw.out.drew)
              go_wp2_with fail
              rw [HV.out]
              go_ret
              exact ⟨by first | rfl | simp, HBz.out⟩
end Go.Proofs.Ytaielamimkigmaa
namespace Go.Proofs.Ytaielamimkigmaa
open Go.RowKit Go.ChangeShapes Globm Go.ChangeMaps

/-- a mark stands for something below c -/
def sm (x : Mk Nat) (c : Nat) : Bool := x.run || (List.range c).any (fun y => ps x y)
theorem sm_zero (x : Mk Nat) : sm x 0 = x.run := by simp [sm]
theorem sm_next (x : Mk Nat) (c : Nat) : sm x (c + 1) = (sm x c || ps x c) := by
  unfold sm
  rw [List.range_succ, List.any_append, Bool.or_assoc]; simp
theorem sm_all (x : Mk Nat) : sm x 256 = !bz x := by
  cases x with
  | many => rfl
  | one S =>
    rw [Bool.eq_iff_iff, Bool.not_eq_true', ← Bool.not_eq_true, bz_iff]
    show (false || (List.range 256).any (fun y => S y)) = true ↔ _
    rw [Bool.false_or, List.any_eq_true]
    constructor
    · rintro ⟨y, hy, h⟩ hn
      rw [hn y (List.mem_range.1 hy)] at h; cases h
    · intro hn
      by_cases h : ∃ y, y < 256 ∧ S y = true
      · obtain ⟨y, h1, h2⟩ := h
        exact ⟨y, List.mem_range.2 h1, h2⟩
      · exfalso
        refine hn (fun y hy => ?_)
        cases hs : S y with
        | false => rfl
        | true => exact absurd ⟨y, hy, hs⟩ h

set_option maxRecDepth 100000 in
set_option maxHeartbeats 4000000 in
theorem open_any (t : ByteArray) (w : World) :
    Calls Try.prog 38 #[.string t] w fun e w' => e = .returned (.bool (!barT t)) ∧ Below w.heap.size w w' := by
  have HM := Lib.hid (marks_any t w)
  unfold barT
  rcases hm : marks (by8 t) with _ | m
  · rw [hm] at HM
    simp only [mkV] at HM
    clear hm
    go_enter Try.func38, Try.ntmps38
    go_wp2_with fail
    refine HM.out.mono ?_
    rintro e w2 ⟨⟨v, rfl, rfl⟩, hb⟩
    have HB := Lib.hid hb
    clear hb
    go_wp2_with fail
    go_loopw [5] (fun i wr => i = .int .i64 0 ∧ wr = w2) (fun _ _ => 0)
    case atStart => exact ⟨rfl, rfl⟩
    case round =>
      obtain ⟨rfl, rfl⟩ := hrel
      go_wp2_with fail
      go_ret
      exact ⟨rfl, HB.out⟩
  · rw [hm] at HM
    simp only [mkV] at HM
    clear hm
    go_enter Try.func38, Try.ntmps38
    go_wp2_with fail
    refine HM.out.mono ?_
    rintro e w2 ⟨⟨v, rfl, A, cap, rfl, ho, hz⟩, hb⟩
    have HB := Lib.hid hb
    have HR := Lib.hid (RM.of_own ho)
    obtain ⟨n, hn⟩ : ∃ n, m.length = n := ⟨_, rfl⟩
    have HN := Lib.hid hn
    rw [hn] at hz
    rw [hn]
    have hnI : (n : Int) ≤ 64 := by omega
    clear ho hb hn
    go_wp2_with fail
    go_loopw [5] (fun i wr => ∃ j : Nat, i = .int .i64 j ∧ j ≤ n ∧ Hid (∀ y ∈ m.take j, bz y = false) ∧ Hid (Below w2.heap.size w2 wr)) (fun i _ => n - (intOf i).toNat)
    case atStart => exact ⟨0, rfl, by omega, Lib.hid (by simp), Lib.hid (Below.refl _ _)⟩
    case round =>
      obtain ⟨j, rfl, hj, hA, hB⟩ := hrel
      by_cases hlt : j < n
      · have hltI : (j : Int) < (n : Int) := by omega
        have hkl : j < m.length := by have := HN.out; omega
        obtain ⟨x, hx⟩ : ∃ x, m[j]? = some x := ⟨m[j], List.getElem?_eq_getElem hkl⟩
        have HX := Lib.hid hx
        rcases HR.out.below hB.out with h0 | ⟨b, off, rfl, hcl⟩
        · rw [h0] at hkl; simp at hkl
        have HC := Lib.hid (fun c (hc : c < 257) => hcl j x c hx hc)
        have c0 := HC.out 0 (by decide)
        rw [Nat.add_zero, show (gmk x)[0]? = some (.bool x.run) from mA_get0 _ _] at c0
        obtain ⟨W, hW⟩ : ∃ W, W = wr := ⟨_, rfl⟩
        rw [← sm_zero x] at c0
        clear hx hcl hkl
        go_wp2_with fail
        go_loopw [6, 7] (fun s c wr2 => ∃ d : Nat, s = .bool (sm x d) ∧ c = .int .i64 d ∧ d ≤ 256 ∧ wr2 = W) (fun _ c _ => 256 - (intOf c).toNat)
        case atStart => exact ⟨0, rfl, rfl, by omega, hW.symm⟩
        case round =>
          obtain ⟨d, rfl, rfl, hd, rfl⟩ := hrel
          subst hW
          by_cases hd2 : d < 256
          · have hdI : (d : Int) < 256 := by omega
            have cS := HC.out (d + 1) (by omega)
            rw [show (gmk x)[d + 1]? = some (.bool (ps x d)) from mA_get _ _ hd2, show off + j * 257 + (d + 1) = off + j * 257 + 1 + d by omega] at cS
            have hnx := sm_next x d
            cases hs : sm x d with
            | true =>
              have HNx : Hid (sm x (d + 1) = true) := Lib.hid (by rw [hnx, hs]; rfl)
              clear hnx hs
              go_wp2_with fail
              exact ⟨⟨d + 1, by rw [HNx.out], by go_num, by omega, by trivial⟩, by simp only [intOf]; omega⟩
            | false =>
              have HNx : Hid (sm x (d + 1) = ps x d) := Lib.hid (by rw [hnx, hs]; rfl)
              clear hnx hs
              go_wp2_with fail
              exact ⟨⟨d + 1, by rw [HNx.out], by go_num, by omega, by trivial⟩, by simp only [intOf]; omega⟩
          · have hde : d = 256 := by omega
            have hdI : ¬ (d : Int) < 256 := by omega
            cases hs : sm x d with
            | true =>
              have HNx : Hid (∀ y ∈ m.take (j + 1), bz y = false) := Lib.hid (by
                rw [hde, sm_all] at hs
                intro y hy
                rw [List.take_add_one, HX.out] at hy
                rcases List.mem_append.1 hy with q | q
                · exact hA.out y q
                · have : y = x := by simpa using q
                  rw [this]; simpa using hs)
              clear hde hs
              go_wp2_with fail
              exact ⟨⟨j + 1, by go_num, by omega, HNx, hB⟩, by simp only [intOf]; omega⟩
            | false =>
              have HV : Hid (m.any bz = true) := Lib.hid (by
                rw [hde, sm_all] at hs
                exact List.any_eq_true.2 ⟨x, List.mem_of_getElem? HX.out, by simpa using hs⟩)
              have HBw := Lib.hid (gbonq HB.out hB.out)
              clear hde hs
              go_wp2_with fail
              go_ret
              exact ⟨by rw [HV.out]; rfl, HBw.out⟩
      · have hltI : ¬ (j : Int) < (n : Int) := by omega
        have HV : Hid (m.any bz = false) := Lib.hid (by
          rw [List.any_eq_false]
          intro y hy
          rw [hA.out y (by rw [List.take_of_length_le (by have := HN.out; omega)]; exact hy)]; simp)
        have HBw := Lib.hid (gbonq HB.out hB.out)
        go_wp2_with fail
        go_ret
        exact ⟨by rw [HV.out]; rfl, HBw.out⟩
end Go.Proofs.Ytaielamimkigmaa
namespace Go.Proofs.Ytaielamimkigmaa
open Go.RowKit Go.ChangeShapes Globm Go.ChangeMaps

/-- the parts from i up to j all match something -/
def rst (L : List ByteArray) (i j : Nat) : Bool := !((L.drop i).take (j - i)).any barT
theorem rst_start (L : List ByteArray) (i : Nat) : rst L i i = true := by unfold rst; rw [Nat.sub_self]; rfl
theorem rst_next {L : List ByteArray} {i j : Nat} {t : ByteArray} (hij : i ≤ j) (h : L[j]? = some t) : rst L i (j + 1) = (rst L i j && !barT t) := by
  unfold rst
  rw [show j + 1 - i = (j - i) + 1 by omega, List.take_add_one, List.getElem?_drop, show i + (j - i) = j by omega, h, List.any_append, Bool.not_or]
  simp
theorem rst_end {L : List ByteArray} {i : Nat} : rst L i L.length = beyT L i := by
  unfold rst beyT
  rw [List.take_of_length_le (by rw [List.length_drop]; exact Nat.le_refl _)]

set_option maxRecDepth 100000 in
set_option maxHeartbeats 8000000 in
theorem rmay_any (L : List ByteArray) (A : Option Addr) (k c : Nat) (N : List ByteArray) (a : Option Addr) (n cap : Nat) (w : World) (hR : Rs w A L) (hk : L.length = k) (hkc : k ≤ c) (hk1 : k ≤ 1000) (hRN : Rs w a N) (hn : N.length = n) (hnc : n ≤ cap) (hn1 : n ≤ 1000) (hz : ∀ x ∈ N, x.size ≤ 1000) :
    Calls Try.prog 20 #[.slice A k c, .slice a n cap] w fun e w' => e = .returned (.bool (yB L N)) ∧ Below w.heap.size w w' := by
  have hkI : (k : Int) ≤ 1000 := by omega
  have HMt := Lib.hid (fun (i : Nat) (hi : i ≤ k) (W : World) (hw : Below w.heap.size w W) => (rmatch_any (L.take i) A i c N a n cap W ((hR.below hw).take i) (by rw [List.length_take]; omega) (by omega) (by omega) (hRN.below hw) hn hnc hn1 hz).mono (fun e w' h => (⟨h.1, gbonq hw h.2⟩ : e = .returned (.bool (mB (L.take i) N)) ∧ Below w.heap.size w w')))
  have HO := Lib.hid (fun (t : ByteArray) (W : World) (hw : Below w.heap.size w W) => (open_any t W).mono (fun e w' h => (⟨h.1, gbonq hw h.2⟩ : e = .returned (.bool (!barT t)) ∧ Below w.heap.size w w')))
  have HR := Lib.hid hR
  have HK := Lib.hid hk
  clear hR hk hRN hn hnc hn1 hz
  go_enter Try.func20, Try.ntmps20
  go_wp2_with fail
  go_loopw [5] (fun iv wr => ∃ i : Nat, iv = .int .i64 i ∧ i ≤ k + 1 ∧ Hid (∀ i', i' < i → beyT L i' = true → mB (L.take i') N = false) ∧ Hid (Below w.heap.size w wr)) (fun iv _ => k + 1 - (intOf iv).toNat)
  case atStart => exact ⟨0, rfl, by omega, Lib.hid (fun i h => absurd h (Nat.not_lt_zero _)), Lib.hid (Below.refl _ _)⟩
  case round =>
    obtain ⟨i, rfl, hi, hno, hB⟩ := hrel
    by_cases hik : i ≤ k
    · have hikI : (i : Int) ≤ (k : Int) := by omega
      go_wp2_with fail
      go_loopw [6, 7] (fun rv jv wr2 => ∃ j : Nat, rv = .bool (rst L i j) ∧ jv = .int .i64 j ∧ i ≤ j ∧ j ≤ k ∧ Hid (Below w.heap.size w wr2)) (fun _ jv _ => k - (intOf jv).toNat)
      case atStart => exact ⟨i, by rw [rst_start], rfl, Nat.le_refl _, hik, hB⟩
      case round =>
        obtain ⟨j, rfl, rfl, hij, hjk, hB2⟩ := hrel
        clear hB
        by_cases hlt : j < k
        · have hltI : (j : Int) < (k : Int) := by omega
          have hkl : j < L.length := by have := HK.out; omega
          obtain ⟨-, -, h0 | ⟨b, off, rfl, hcl⟩⟩ := HR.out.below hB2.out
          · rw [h0] at hkl; simp at hkl
          have c1 := hcl j hkl
          have hx : L[j]? = some L[j] := List.getElem?_eq_getElem hkl
          obtain ⟨x, hxe⟩ : ∃ x, L[j] = x := ⟨_, rfl⟩
          rw [hxe] at c1 hx
          have hnx := rst_next hij hx
          have tA := isAny_toList x
          have hik2 : (i : Int) ≤ (k : Int) := by omega
          cases hr : rst L i j with
          | false =>
            have HNx : Hid (rst L i (j + 1) = false) := Lib.hid (by rw [hnx, hr]; rfl)
            clear hr hnx hx hxe hcl hkl
            go_wp2_with fail
            exact ⟨⟨j + 1, by rw [HNx.out], by go_num, by omega, by omega, hB2⟩, by simp only [intOf]; omega⟩
          | true =>
            cases hA : isAny x with
            | true =>
              have HNx : Hid (rst L i (j + 1) = true) := Lib.hid (by rw [hnx, hr, any_bar hA]; rfl)
              rw [hA] at tA
              clear hr hnx hx hxe hcl hkl hA
              go_wp2_with fail
              exact ⟨⟨j + 1, by rw [HNx.out], by go_num, by omega, by omega, hB2⟩, by simp only [intOf]; omega⟩
            | false =>
              have HNx : Hid (rst L i (j + 1) = !barT x) := Lib.hid (by rw [hnx, hr]; rfl)
              have HOx := Lib.hid (HO.out x wr hB2.out)
              rw [hA] at tA
              clear hr hnx hx hxe hcl hkl hA
              go_wp2_with fail
              refine HOx.out.mono ?_
              rintro e w3 ⟨rfl, hb3⟩
              have HB3 := Lib.hid hb3
              clear hb3
              go_wp2_with fail
              exact ⟨⟨j + 1, by rw [HNx.out], by go_num, by omega, by omega, HB3⟩, by simp only [intOf]; omega⟩
        · have hltI : ¬ (j : Int) < (k : Int) := by omega
          have hjL : j = L.length := by have := HK.out; omega
          cases hr : rst L i j with
          | false =>
            have HNo : Hid (∀ i', i' < i + 1 → beyT L i' = true → mB (L.take i') N = false) := Lib.hid (fun i' h1 h2 => by
              rcases Nat.lt_succ_iff_lt_or_eq.1 h1 with h | rfl
              · exact hno.out i' h h2
              · rw [hjL, rst_end] at hr; rw [hr] at h2; cases h2)
            clear hr hjL hno
            go_wp2_with fail
            exact ⟨⟨i + 1, by go_num, by omega, HNo, hB2⟩, by simp only [intOf]; omega⟩
          | true =>
            have HBey : Hid (beyT L i = true) := Lib.hid (by rw [← rst_end, ← hjL, hr])
            have HC := Lib.hid (HMt.out i hik wr hB2.out)
            have HT := fun W => slT A k c i (by omega) W
            cases hm : mB (L.take i) N with
            | true =>
              have HV : Hid (yB L N = true) := Lib.hid (yB_step hm (by have := HK.out; omega) HBey.out)
              rw [hm] at HC
              clear hr hjL hno hm
              go_wp2_with fail
              refine HC.out.mono ?_
              rintro e w3 ⟨rfl, hb3⟩
              have HB3 := Lib.hid hb3
              clear hb3
              go_wp2_with fail
              rw [HV.out]
              go_ret
              exact ⟨rfl, HB3.out⟩
            | false =>
              rw [hm] at HC
              have HNo : Hid (∀ i', i' < i + 1 → beyT L i' = true → mB (L.take i') N = false) := Lib.hid (fun i' h1 h2 => by
                rcases Nat.lt_succ_iff_lt_or_eq.1 h1 with h | rfl
                · exact hno.out i' h h2
                · exact hm)
              by_cases hlt2 : i < k
              · have hltI2 : (i : Int) < (k : Int) := by omega
                have hkl : i < L.length := by have := HK.out; omega
                obtain ⟨-, -, h0 | ⟨b, off, rfl, hcl⟩⟩ := HR.out
                · rw [h0] at hkl; simp at hkl
                have c1 := hcl i hkl
                obtain ⟨x, hx⟩ : ∃ x, L[i] = x := ⟨_, rfl⟩
                rw [hx] at c1
                have HCx := Lib.hid (fun (W : World) (hw : Below w.heap.size w W) => (hw.cell (p := ⟨b, off + i, none⟩) (block_lt_of_cell c1)).trans c1)
                have tA := isAny_toList x
                have HMt2 := Lib.hid (HMt.out (i + 1) hlt2)
                have HT2 : ∀ W, Sem.run Try.prog (Instr.slice 27 (.slice (some ⟨b, off, none⟩) k c) none (some (.int .i64 ((i : Int) + 1))) none) W = .ok (.slice (some ⟨b, off, none⟩) (i + 1) c) W := fun W => slT (some ⟨b, off, none⟩) k c (i + 1) (by omega) W
                cases hA : isAny x with
                | false =>
                  rw [hA] at tA
                  clear hr hjL hno hm hx hkl hcl c1 hA HMt2
                  go_wp2_with fail
                  refine HC.out.mono ?_
                  rintro e w3 ⟨rfl, hb3⟩
                  have HB3 := Lib.hid hb3
                  have c3 := HCx.out _ hb3
                  clear hb3
                  go_wp2_with fail
                  exact ⟨⟨i + 1, by go_num, by omega, HNo, HB3⟩, by simp only [intOf]; omega⟩
                | true =>
                  rw [hA] at tA
                  cases hm2 : mB (L.take (i + 1)) N with
                  | true =>
                    have HV : Hid (yB L N = true) := Lib.hid (yB_step hm2 (by have := HK.out; omega) (bey_mono (Nat.le_succ i) HBey.out))
                    rw [hm2] at HMt2
                    clear hr hjL hno hm hx hkl hcl c1 hA hm2
                    go_wp2_with fail
                    refine HC.out.mono ?_
                    rintro e w3 ⟨rfl, hb3⟩
                    have HC3 := Lib.hid (HMt2.out _ hb3)
                    have c3 := HCx.out _ hb3
                    clear hb3
                    go_wp2_with fail
                    refine HC3.out.mono ?_
                    rintro e w4 ⟨rfl, hb4⟩
                    have HB4 := Lib.hid hb4
                    clear hb4
                    go_wp2_with fail
                    rw [HV.out]
                    go_ret
                    exact ⟨rfl, HB4.out⟩
                  | false =>
                    rw [hm2] at HMt2
                    clear hr hjL hno hm hx hkl hcl c1 hA hm2
                    go_wp2_with fail
                    refine HC.out.mono ?_
                    rintro e w3 ⟨rfl, hb3⟩
                    have HC3 := Lib.hid (HMt2.out _ hb3)
                    have c3 := HCx.out _ hb3
                    clear hb3
                    go_wp2_with fail
                    refine HC3.out.mono ?_
                    rintro e w4 ⟨rfl, hb4⟩
                    have HB4 := Lib.hid hb4
                    clear hb4
                    go_wp2_with fail
                    exact ⟨⟨i + 1, by go_num, by omega, HNo, HB4⟩, by simp only [intOf]; omega⟩
              · have hltI2 : ¬ (i : Int) < (k : Int) := by omega
                clear hr hjL hno hm
                go_wp2_with fail
                refine HC.out.mono ?_
                rintro e w3 ⟨rfl, hb3⟩
                have HB3 := Lib.hid hb3
                clear hb3
                go_wp2_with fail
                exact ⟨⟨i + 1, by go_num, by omega, HNo, HB3⟩, by simp only [intOf]; omega⟩
    · have hikI : ¬ (i : Int) ≤ (k : Int) := by omega
      have HV : Hid (yB L N = false) := Lib.hid (yB_none (fun i' h1 h2 => hno.out i' (by have := HK.out; omega) h2))
      clear hno
      go_wp2_with fail
      rw [HV.out]
      go_ret
      exact ⟨rfl, hB.out⟩
end Go.Proofs.Ytaielamimkigmaa
namespace Go.Proofs.Ytaielamimkigmaa
open Go.RowKit Go.ChangeShapes Globm Go.ChangeMaps

set_option maxRecDepth 100000 in
set_option maxHeartbeats 4000000 in
theorem stars_any (s : ByteArray) (w : World) (hs : s.size ≤ 1000) :
    Calls Try.prog 13 #[.string s] w fun e w' => (∃ n : Nat, e = .returned (.int .i64 n)) ∧ Below w.heap.size w w' := by
  have HP := Lib.hid (fun w => refParts_any s w (by omega))
  have HPl : Hid ((parts s).length ≤ 1001) := Lib.hid (by have := st_few s (s.size + 1); unfold parts; omega)
  generalize parts s = L at HP HPl
  go_enter Try.func13, Try.ntmps13
  go_wp2_with fail
  refine (HP.out _).mono ?_
  rintro e w2 ⟨⟨A, k, c, rfl, hR, hk, hc⟩, hb⟩
  have HR := Lib.hid hR
  have HK := Lib.hid hk
  have HB := Lib.hid hb
  have hkI : (k : Int) ≤ 1001 := by have := HPl.out; omega
  clear hR hc hb hk
  go_wp2_with fail
  go_loopw [3, 5] (fun nv i wr => ∃ (j m : Nat), nv = .int .i64 m ∧ i = .int .i64 j ∧ j ≤ k ∧ m ≤ j ∧ wr = w2) (fun _ i _ => k - (intOf i).toNat)
  case atStart => exact ⟨0, 0, rfl, rfl, by omega, by omega, rfl⟩
  case round =>
    obtain ⟨j, m, rfl, rfl, hj, hm, rfl⟩ := hrel
    by_cases hlt : j < k
    · have hkl : j < L.length := by have := HK.out; omega
      obtain ⟨-, -, h0 | ⟨b, off, rfl, hcl⟩⟩ := HR.out
      · rw [h0] at hkl; simp at hkl
      have c1 := hcl j hkl
      have hltI : (j : Int) < (k : Int) := by omega
      obtain ⟨x, hx⟩ : ∃ x, L[j] = x := ⟨_, rfl⟩
      rw [hx] at c1
      have tA := isAny_toList x
      clear hcl hkl hx
      cases hA : isAny x with
      | true =>
        rw [hA] at tA
        clear hA
        go_wp2_with fail
        exact ⟨⟨j + 1, m + 1, by go_num, by go_num, by omega, by omega, by trivial⟩, by simp only [intOf]; omega⟩
      | false =>
        rw [hA] at tA
        clear hA
        go_wp2_with fail
        exact ⟨⟨j + 1, m, rfl, by go_num, by omega, by omega, by trivial⟩, by simp only [intOf]; omega⟩
    · have hltI : ¬ (j : Int) < (k : Int) := by omega
      go_wp2_with fail
      go_ret
      exact ⟨⟨m, rfl⟩, HB.out⟩

theorem nwE_few {s : ByteArray} (h : nwE s = 0) : (parts s).length ≤ 16 := by
  unfold nwE at h
  split at h
  · cases h
  · split at h
    · cases h
    · omega

set_option maxRecDepth 100000 in
set_option maxHeartbeats 8000000 in
theorem globMatches_walk (s : ByteArray) (a : Option Addr) (len cap : Nat) (z : List ByteArray) (w : World) (_ : s.size ≤ maxLen) (hz : RowS w a len cap z) (hu : ∀ s ∈ z, s.size ≤ 140737488351232) :
    Calls Try.prog 4 #[.string s, .slice a len cap] w fun e w' => e = .returned (.bool true) ∧ Below w.heap.size w w' := by
  obtain ⟨l, hl, hc, hR, hzl⟩ := hz.rsz hu
  clear hz hu
  have HM := Lib.hid (many_any l a cap len w hR hl hzl)
  have HR := Lib.hid hR
  have HL := Lib.hid hl
  have HC := Lib.hid hc
  clear hR hl hzl hc
  by_cases h1 : 300 < s.size
  · have t1 : decide ((300 : Int) < (s.size : Int)) = true := by simp; omega
    clear h1 HM
    go_enter Try.func4, Try.ntmps4
    go_wp2_with fail
    refine (gknown_any _).mono ?_
    rintro e w2 ⟨rfl, hb⟩
    go_wp2
    go_ret
    exact ⟨rfl, hb⟩
  · have t1 : decide ((300 : Int) < (s.size : Int)) = false := by simp; omega
    have HS := Lib.hid (fun w => stars_any s w (by omega))
    have HN := Lib.hid (fun w => new_any s w (by omega))
    have HNr := Lib.hid (fun w => rnew_any s w (by omega))
    clear h1
    go_enter Try.func4, Try.ntmps4
    go_wp2_with fail
    refine HM.out.mono ?_
    rintro e w2 ⟨⟨b, rfl, hb0⟩, hb⟩
    have HB := Lib.hid hb
    cases b with
    | true =>
      clear hb0 hb
      go_wp2_with fail
      refine (gknown_any _).mono ?_
      rintro e w3 ⟨rfl, hb3⟩
      go_wp2
      go_ret
      exact ⟨rfl, gbonq HB.out hb3⟩
    | false =>
      obtain ⟨hn20, hs400⟩ := hb0.out rfl
      have H20 := Lib.hid hn20
      have H400 := Lib.hid hs400
      clear hb0 hs400 hb hn20
      go_wp2_with fail
      refine (HS.out _).mono ?_
      rintro e w3 ⟨⟨m, rfl⟩, hb3⟩
      have HB3 := Lib.hid (gbonq HB.out hb3)
      clear hb3 HB
      by_cases hm3 : 3 < m
      · have t3 : decide ((3 : Int) < (m : Int)) = true := by simp; omega
        clear hm3
        go_wp2_with fail
        refine (gknown_any _).mono ?_
        rintro e w4 ⟨rfl, hb4⟩
        go_wp2
        go_ret
        exact ⟨rfl, gbonq HB3.out hb4⟩
      · have t3 : decide ((3 : Int) < (m : Int)) = false := by simp; omega
        obtain ⟨E, hE⟩ : ∃ E, nwE s = E := ⟨_, rfl⟩
        have HF := Lib.hid (fun h => nwE_few (s := s) h)
        rw [hE] at HF HN HNr
        clear hE hm3
        generalize parts s = L at HF HN HNr
        go_wp2_with fail
        refine (HN.out _).mono ?_
        rintro e w4 ⟨⟨v, rfl, hv⟩, hb4⟩
        have HV := Lib.hid hv
        have HB4 := Lib.hid (gbonq HB3.out hb4)
        clear hb4 HB3 hv
        go_wp2_with fail
        refine (HNr.out _).mono ?_
        rintro e w5 ⟨⟨A, k, c, rfl, hr⟩, hb5⟩
        have HRr := Lib.hid hr
        have HB5 := Lib.hid (gbonq HB4.out hb5)
        by_cases hE : E = 0
        · subst hE
          obtain ⟨hr1, hr2, hr3⟩ := hr rfl
          have hpt := (HV.out.1 rfl).below hb5
          have hk16 : k ≤ 16 := by have := HF.out rfl; omega
          have hlk : (L.length : Int) = (k : Int) := by omega
          have HP := Lib.hid hpt
          have HSz := Lib.hid (psize_any v L w5 hpt)
          rw [hlk] at HSz
          have HMa := Lib.hid (match_any v L a len cap l w5 hpt (by omega) (HR.out.below HB5.out) HL.out (by have := H20.out; omega) (fun x hx => by have := H400.out x hx; omega))
          have HMr := Lib.hid (fun (W : World) (hw : Below w5.heap.size w5 W) => rmatch_any L A k c l a len cap W (hr1.below hw) hr2 hr3 (by omega) ((HR.out.below HB5.out).below hw) HL.out HC.out (by have := H20.out; omega) (fun x hx => by have := H400.out x hx; omega))
          have HYa := Lib.hid (fun (W : World) (hw : Below w5.heap.size w5 W) => may_any v L a len cap l W (hpt.below hw) (by omega) ((HR.out.below HB5.out).below hw) HL.out (by have := H20.out; omega) (fun x hx => by have := H400.out x hx; omega))
          have HYr := Lib.hid (fun (W : World) (hw : Below w5.heap.size w5 W) => rmay_any L A k c l a len cap W (hr1.below hw) hr2 hr3 (by omega) ((HR.out.below HB5.out).below hw) HL.out HC.out (by have := H20.out; omega) (fun x hx => by have := H400.out x hx; omega))
          change Hid (Calls _ _ _ _ fun e w' => e = .returned (.bool (mB L l)) ∧ _) at HMa
          change Hid (∀ W, _ → Calls _ _ _ _ fun e w' => e = .returned (.bool (yB L l)) ∧ _) at HYa
          obtain ⟨bm, hbm⟩ : ∃ b, mB L l = b := ⟨_, rfl⟩
          obtain ⟨by_, hby⟩ : ∃ b, yB L l = b := ⟨_, rfl⟩
          rw [hbm] at HMa HMr
          rw [hby] at HYa HYr
          clear hbm hby hr hr1 hr2 hr3 hpt hb5 HV HRr HF hlk hk16
          go_wp2_with fail
          refine HSz.out.mono ?_
          rintro e w6 ⟨rfl, rfl⟩
          go_wp2_with fail
          refine HMa.out.mono ?_
          rintro e w7 ⟨rfl, hb7⟩
          have HB7 := Lib.hid hb7
          clear hb7
          go_wp2_with fail
          refine (HMr.out _ HB7.out).mono ?_
          rintro e w8 ⟨rfl, hb8⟩
          have HB8 := Lib.hid (gbonq HB7.out hb8)
          clear hb8 HB7
          go_wp2_with fail
          refine (HYa.out _ HB8.out).mono ?_
          rintro e w9 ⟨rfl, hb9⟩
          have HB9 := Lib.hid (gbonq HB8.out hb9)
          clear hb9 HB8
          go_wp2_with fail
          refine (HYr.out _ HB9.out).mono ?_
          rintro e w10 ⟨rfl, hb10⟩
          have HB10 := Lib.hid (gbonq HB5.out (gbonq HB9.out hb10))
          clear hb10 HB9
          go_wp2_with fail
          refine (gknown_any _).mono ?_
          rintro e w11 ⟨rfl, hb11⟩
          go_wp2
          go_ret
          exact ⟨rfl, gbonq HB10.out hb11⟩
        · have hvn := HV.out.2 hE
          subst hvn
          have hE2 : (E == 0) = false := by simp; exact hE
          clear hr hb5
          go_wp2_with fail
          refine (gknown_any _).mono ?_
          rintro e w6 ⟨rfl, hb6⟩
          go_wp2
          go_ret
          exact ⟨rfl, gbonq HB5.out hb6⟩
end Go.Proofs.Ytaielamimkigmaa
