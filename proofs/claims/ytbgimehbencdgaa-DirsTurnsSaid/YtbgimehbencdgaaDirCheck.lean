/-
  Whether a directory's bytes are right: the program's answer. Nothing of one statement alone stands here.
-/
import Derived.Test.YtbgimehbencdgaaDirCount
import Derived.Maps.OwnSet
import Derived.Maps.AppendAt
import Derived.StringKeys
namespace Go.Proofs.Ytbgimehbencdgaa
open Go.RowKit Go.ChangeMaps Go.WideMaps Crcm Tagm Dirm Go.ChangeShapes

theorem grown_below1 {w w' : World} (h : Below w.heap.size w w') (row : Option Nat) : w.grownBy w' row := ⟨h.os, h.tape, h.output, h.size, fun k hk _ => h.block k hk⟩
theorem strKeyed : Maps.Keyed Try.prog 9 := Maps.string_keyed Try.underlying9
theorem zeroU (w : World) : (zeroValue 64).run Try.prog w = .ok (.agg #[]) w := by kernel_rfl
theorem eS_size (l : List Int) : (eS l).size ≤ 13 := by
  unfold eS
  by_cases h : rU l = true
  · rw [if_pos h]
    unfold rU at h
    have := of_decide_eq_true h
    exact this.2.2.2.2.2.1.2
  · rw [if_neg h]
    exact Nat.zero_le _
/-- a text as a key -/
def kl (s : ByteArray) : Lit := .string s.data.toList
def nms (l : List Int) : Nat → List Lit
  | 0 => []
  | k + 1 => if rU (slotL l k) = true then nms l k ++ [kl (eS (slotL l k))] else nms l k
def Sd (l : List Int) (k : Nat) : DataW Unit := Maps.setOf (.agg []) (nms l k)
theorem Sd_zero (l : List Int) : Sd l 0 = .map [] := rfl
theorem Sd_yes {l : List Int} {k : Nat} (h : rU (slotL l k) = true) : Sd l (k + 1) = (Sd l k).put (kl (eS (slotL l k))) (.agg []) := by
  unfold Sd
  rw [nms, if_pos h, Maps.setOf_snoc]
theorem Sd_no {l : List Int} {k : Nat} (h : rU (slotL l k) = false) : Sd l (k + 1) = Sd l k := by
  unfold Sd
  rw [nms, if_neg (by rw [h]; decide)]
def ckF (l : List Int) : Nat → Nat → Bool → Int
  | 0, _, en => if en = true then 0 else 50
  | f + 1, k, _ => if rE (slotL l k) ≠ 0 ∨ (rU (slotL l k) = true ∧ Maps.has (Sd l k) (kl (eS (slotL l k))) = true) then 50 else ckF l f (k + 1) (rU (slotL l k))
/-- what is told of a directory's bytes -/
def ck (l : List Int) : Int := if l.length % 16 = 0 then ckF l (l.length / 16) 0 true else 50

set_option maxHeartbeats 1000000 in
set_option maxRecDepth 100000 in
theorem check_any (l : List Int) (a : Option Addr) (c n : Nat) (w : World) (ha : Rw w a l) (hl : l.length = n) (hc : n ≤ c) (c1 : c ≤ 9223372036854775807) (n2 : n < 140737488351232) :
    Calls Try.prog 24 #[.slice a n c] w fun e w' => e = .returned (.int .i64 (ck l)) ∧ Below w.heap.size w w' := by
  by_cases hm : n % 16 = 0
  · have hmm := @run_makeMap Try.prog
    have HC := Lib.hid (fun w => count_any a c n w (by omega))
    obtain ⟨N, hN⟩ : ∃ N, n / 16 = N := ⟨_, rfl⟩
    have HR : Hid (ckF l N 0 true = ck l) := Lib.hid (by unfold ck; rw [hl, if_pos hm, hN])
    obtain ⟨r, hr⟩ : ∃ r, ck l = r := ⟨_, rfl⟩
    rw [hr] at HR ⊢
    rw [hN] at HC
    have hb : N * 16 = n := by omega
    have t0 : (((n : Int) % 16) != 0) = false := by simp; omega
    have HA := Lib.hid ha
    have HL := Lib.hid hl
    have HN := Lib.hid hN
    have hN2 : N < 140737488351232 := by omega
    clear ha hl hN hr hm
    go_enter Try.func24, Try.ntmps24
    go_wp2_with fail
    refine (HC.out _).mono ?_
    rintro e w' ⟨rfl, rfl⟩
    go_wp2_with fail
    go_loopw [4, 18] (fun en i wr => ∃ k : Nat, ∃ b : Bool, k ≤ N ∧ i = .int .i64 k ∧ en = .bool b ∧ wr.ownsMap Try.prog 9 (unitElem (H := Unit)) w.heap.size k (Sd l k) ∧ Below w.heap.size w wr ∧ Hid (ckF l (N - k) k b = r)) (fun _ i _ => N - (intOf i).toNat)
    case atStart => exact ⟨0, true, by omega, rfl, rfl, World.ownsMap_made _ _ _ _, (Below.refl _ _).alloc (Nat.le_refl _) _, HR⟩
    case round =>
      obtain ⟨k, bb, hk, rfl, rfl, hown, hbl, E⟩ := hrel
      by_cases hlt : k < N
      · have hkl : k < l.length / 16 := by have := HL.out; have := HN.out; omega
        obtain ⟨b1, o1, rfl, _⟩ := HA.out.at (j := 0) (by have := HL.out; omega)
        have kN : (k : Int) < (N : Int) := by omega
        have hks : k * 16 + 16 ≤ c := by omega
        have HS := Lib.hid (fun w => slot_any b1 o1 n c k w hks c1)
        have HD := Lib.hid (dread_any (slotL l k) (some ⟨b1, o1 + k * 16, none⟩) (c - k * 16) 16 wr ((HA.out.below hbl).slot k) (slotL_len hkl) (by omega) (by omega))
        have e1 : N - k = (N - (k + 1)) + 1 := by omega
        rw [e1] at E
        have HY : rU (slotL l k) = true → Sd l (k + 1) = (Sd l k).put (kl (eS (slotL l k))) (.agg []) := fun h => Sd_yes h
        have HNo : rU (slotL l k) = false → Sd l (k + 1) = Sd l k := fun h => Sd_no h
        have hkey : keyOf Try.prog 9 (.string (eS (slotL l k))) = some (kl (eS (slotL l k))) := keyOf_string_mk Try.underlying9 (by have := eS_size (slotL l k); unfold maxLen; omega)
        have hE : ckF l (N - (k + 1) + 1) k bb = if rE (slotL l k) ≠ 0 ∨ (rU (slotL l k) = true ∧ Maps.has (Sd l k) (kl (eS (slotL l k))) = true) then 50 else ckF l (N - (k + 1)) (k + 1) (rU (slotL l k)) := by rw [ckF]
        rw [hE] at E
        clear hE
        obtain ⟨i, hi⟩ : ∃ i, eI (slotL l k) = i := ⟨_, rfl⟩
        obtain ⟨s, hs⟩ : ∃ i, eS (slotL l k) = i := ⟨_, rfl⟩
        obtain ⟨u, hu⟩ : ∃ i, rU (slotL l k) = i := ⟨_, rfl⟩
        obtain ⟨e0, he⟩ : ∃ i, rE (slotL l k) = i := ⟨_, rfl⟩
        rw [hi, hs, hu, he] at HD
        rw [hs, hu, he] at E
        rw [hs] at hkey
        rw [hs, hu] at HY
        rw [hu] at HNo
        unfold rv at HD
        clear hi hs hu he HR e1 hkl
        obtain ⟨D, hD⟩ : ∃ D, Sd l k = D := ⟨_, rfl⟩
        rw [hD] at hown E HY HNo
        clear hD
        by_cases z : e0 = 0
        · subst z
          cases u
          · have HE := Lib.hid (HNo rfl)
            have HR2 : Hid (ckF l (N - (k + 1)) (k + 1) false = r) := Lib.hid (by have := E.out; simpa using this)
            clear E HNo HY
            go_wp2_with fail
            refine (HS.out _).mono ?_
            rintro e w' ⟨rfl, rfl⟩
            go_wp2_with fail
            refine HD.out.mono ?_
            rintro e w1 ⟨rfl, hb1⟩
            have hbl1 := hbl.trans (hb1.mono hbl.size)
            have hown1 := hown.kept (grown_below1 hb1 none) (by simp)
            go_wp2_with (first
              | (at_lookup; refine wpList_lookup_own_unit _ rfl _ _ 63 rfl 9 64 strKeyed Try.underlying63 (zeroU _) w.heap.size k _ rfl (hown1.alloc _) _ _ rfl hkey ?_)
              | (at_mapUpdate; refine wpList_mapUpdate_own _ rfl _ _ _ 63 rfl 9 64 strKeyed Try.underlying63 (unitElem (H := Unit)) w.heap.size k _ rfl ((hown1.alloc _).alloc _) (by unfold maxLen; omega) _ _ _ rfl rfl hkey _ [] unitElem_mk ?_; intro w4 hown4 hgrow4)
              | go_in)
            go_roundw
            case rel => exact ⟨k + 1, false, by omega, by go_num, rfl, by rw [HE.out]; exact ((hown1.alloc _).alloc _).mono (Nat.le_succ _), ((hbl1.alloc hbl1.size _).alloc (by simp; exact Nat.le_succ_of_le hbl1.size) _), HR2⟩
            case measure => simp [intOf]; omega
          · cases hh : Maps.has D (kl s)
            · have HE := Lib.hid (HY rfl)
              have HR2 : Hid (ckF l (N - (k + 1)) (k + 1) true = r) := Lib.hid (by have := E.out; simpa [hh] using this)
              clear E HNo HY
              go_wp2_with fail
              refine (HS.out _).mono ?_
              rintro e w' ⟨rfl, rfl⟩
              go_wp2_with fail
              refine HD.out.mono ?_
              rintro e w1 ⟨rfl, hb1⟩
              have hbl1 := hbl.trans (hb1.mono hbl.size)
              have hown1 := hown.kept (grown_below1 hb1 none) (by simp)
              go_wp2_with (first
                | (at_lookup; refine wpList_lookup_own_unit _ rfl _ _ 63 rfl 9 64 strKeyed Try.underlying63 (zeroU _) w.heap.size k _ rfl (hown1.alloc _) _ _ rfl hkey ?_)
                | (at_mapUpdate; refine wpList_mapUpdate_own _ rfl _ _ _ 63 rfl 9 64 strKeyed Try.underlying63 (unitElem (H := Unit)) w.heap.size k _ rfl ((hown1.alloc _).alloc _) (by unfold maxLen; omega) _ _ _ rfl rfl hkey _ [] unitElem_mk ?_; intro w4 hown4 hgrow4)
                | go_in)
              go_roundw
              case rel => exact ⟨k + 1, true, by omega, by go_num, rfl, by rw [HE.out]; exact hown4, (((hbl1.alloc hbl1.size _).alloc (by simp; exact Nat.le_succ_of_le hbl1.size) _).grown hgrow4 (by simp; exact Nat.le_succ_of_le (Nat.le_succ_of_le hbl1.size)) (fun j hj => by cases hj; exact Nat.le_refl _)), HR2⟩
              case measure => simp [intOf]; omega
            · have HR2 : Hid (50 = r) := Lib.hid (by have := E.out; simpa [hh] using this)
              clear E HNo HY
              go_wp2_with fail
              refine (HS.out _).mono ?_
              rintro e w' ⟨rfl, rfl⟩
              go_wp2_with fail
              refine HD.out.mono ?_
              rintro e w1 ⟨rfl, hb1⟩
              have hbl1 := hbl.trans (hb1.mono hbl.size)
              have hown1 := hown.kept (grown_below1 hb1 none) (by simp)
              go_wp2_with (first
                | (at_lookup; refine wpList_lookup_own_unit _ rfl _ _ 63 rfl 9 64 strKeyed Try.underlying63 (zeroU _) w.heap.size k _ rfl (hown1.alloc _) _ _ rfl hkey ?_)
                | (at_mapUpdate; refine wpList_mapUpdate_own _ rfl _ _ _ 63 rfl 9 64 strKeyed Try.underlying63 (unitElem (H := Unit)) w.heap.size k _ rfl ((hown1.alloc _).alloc _) (by unfold maxLen; omega) _ _ _ rfl rfl hkey _ [] unitElem_mk ?_; intro w4 hown4 hgrow4)
                | go_in)
              go_ret
              exact ⟨by rw [← HR2.out]; rfl, ((hbl1.alloc hbl1.size _).alloc (by simp; exact Nat.le_succ_of_le hbl1.size) _)⟩
        · have HR2 : Hid (50 = r) := Lib.hid (by have := E.out; simpa [z] using this)
          have t1 : (e0 != 0) = true := by simpa using z
          clear E HNo HY z
          go_wp2_with fail
          refine (HS.out _).mono ?_
          rintro e w' ⟨rfl, rfl⟩
          go_wp2_with fail
          refine HD.out.mono ?_
          rintro e w1 ⟨rfl, hb1⟩
          have hbl1 := hbl.trans (hb1.mono hbl.size)
          have hown1 := hown.kept (grown_below1 hb1 none) (by simp)
          go_wp2_with (first
            | (at_lookup; refine wpList_lookup_own_unit _ rfl _ _ 63 rfl 9 64 strKeyed Try.underlying63 (zeroU _) w.heap.size k _ rfl (hown1.alloc _) _ _ rfl hkey ?_)
            | (at_mapUpdate; refine wpList_mapUpdate_own _ rfl _ _ _ 63 rfl 9 64 strKeyed Try.underlying63 (unitElem (H := Unit)) w.heap.size k _ rfl ((hown1.alloc _).alloc _) (by unfold maxLen; omega) _ _ _ rfl rfl hkey _ [] unitElem_mk ?_; intro w4 hown4 hgrow4)
            | go_in)
          go_ret
          exact ⟨by rw [← HR2.out]; rfl, ((hbl1.alloc hbl1.size _).alloc (by simp; exact Nat.le_succ_of_le hbl1.size) _)⟩
      · have hkn : k = N := by omega
        subst hkn
        rw [Nat.sub_self] at E
        cases bb
        · have HR2 : Hid (50 = r) := Lib.hid E.out
          clear E HR
          go_wp2
          go_ret
          exact ⟨by rw [← HR2.out]; rfl, hbl⟩
        · have HR2 : Hid (0 = r) := Lib.hid E.out
          clear E HR
          go_wp2
          go_ret
          exact ⟨by rw [← HR2.out]; rfl, hbl⟩
  · have e : ck l = 50 := by unfold ck; rw [hl, if_neg hm]
    rw [e]
    have t0 : (((n : Int) % 16) != 0) = true := by simp; omega
    clear ha hl e hm
    go_enter Try.func24, Try.ntmps24
    go_wp2
    go_ret
    exact ⟨rfl, Below.refl _ _⟩

end Go.Proofs.Ytbgimehbencdgaa
