/-
  The statement on three rows of bytes that are put together.
-/
import Derived.Test.YtgadiloflepclaaCrcBig
import Derived.Laws.OwnMore
import Derived.RegionTactic
import Derived.ChangeAlike
namespace Crcm
open Go

theorem xor8 {a b : Int} (ha : U8 a) (hb : U8 b) : U8 (bits .xor .u8 a b) ∧ V (bits .xor .u8 a b) = V a ^^^ V b := by
  have e := u8_xor a b ha.1 ha.2 hb.1 hb.2
  have h8 : U8 (bits .xor .u8 a b) := by
    rw [e]
    have := Nat.xor_lt_two_pow (x := a.toNat) (y := b.toNat) (n := 8) (by obtain ⟨h0, h1⟩ := ha; omega) (by obtain ⟨h0, h1⟩ := hb; omega)
    unfold U8
    omega
  refine ⟨h8, ?_⟩
  apply BitVec.eq_of_toNat_eq
  rw [BitVec.toNat_xor, toNat_V h8.u32, toNat_V ha.u32, toNat_V hb.u32, e]
  simp
/-- three bytes put together -/
def x3 (a b c : Int) : Int := bits .xor .u8 (bits .xor .u8 a b) c
theorem x3_U8 {a b c : Int} (ha : U8 a) (hb : U8 b) (hc : U8 c) : U8 (x3 a b c) := (xor8 (xor8 ha hb).1 hc).1
theorem x3_V {a b c : Int} (ha : U8 a) (hb : U8 b) (hc : U8 c) : V (x3 a b c) = V a ^^^ V b ^^^ V c := by
  unfold x3
  rw [(xor8 (xor8 ha hb).1 hc).2, (xor8 ha hb).2]
/-- three rows put together as far as k, 0 behind -/
def t3 (l m p : List Int) (k : Nat) : List Int := (List.range l.length).map fun i => if i < k then x3 (l.getD i 0) (m.getD i 0) (p.getD i 0) else 0
theorem t3_length (l m p : List Int) (k : Nat) : (t3 l m p k).length = l.length := by simp [t3]
theorem t3_zero (l m p : List Int) : t3 l m p 0 = List.replicate l.length 0 := by
  apply List.ext_getElem
  · simp [t3]
  · intro i h1 h2; simp [t3]
theorem t3_set (l m p : List Int) (k : Nat) : (t3 l m p k).set k (x3 (l.getD k 0) (m.getD k 0) (p.getD k 0)) = t3 l m p (k + 1) := by
  apply List.ext_getElem
  · simp [t3]
  · intro i h1 h2
    rw [List.getElem_set]
    simp only [t3, List.getElem_map, List.getElem_range]
    by_cases e : k = i
    · subst e; simp
    · have e1 : (i < k + 1) ↔ (i < k) := by omega
      simp [e, e1]
theorem t3_V (l m p : List Int) (hl : ∀ n ∈ l, U8 n) (hm : ∀ n ∈ m, U8 n) (hp : ∀ n ∈ p, U8 n) (e1 : l.length = m.length) (e2 : l.length = p.length) :
    (t3 l m p l.length).map V = List.zipWith (· ^^^ ·) (List.zipWith (· ^^^ ·) (l.map V) (m.map V)) (p.map V) := by
  apply List.ext_getElem
  · simp [t3]; omega
  · intro i h1 h2
    have hi : i < l.length := by simpa [t3] using h1
    have gl : l.getD i 0 = l[i] := by simp [hi]
    have gm : m.getD i 0 = m[i] := by simp [show i < m.length by omega]
    have gp : p.getD i 0 = p[i] := by simp [show i < p.length by omega]
    simp only [t3, List.getElem_map, List.getElem_range, List.getElem_zipWith, if_pos hi, gl, gm, gp]
    exact x3_V (hl _ (List.getElem_mem _)) (hm _ (List.getElem_mem _)) (hp _ (List.getElem_mem _))
theorem t3_U8 (l m p : List Int) (hl : ∀ n ∈ l, U8 n) (hm : ∀ n ∈ m, U8 n) (hp : ∀ n ∈ p, U8 n) (e1 : l.length = m.length) (e2 : l.length = p.length) (k : Nat) : ∀ n ∈ t3 l m p k, U8 n := by
  intro n hn
  obtain ⟨i, hi, rfl⟩ := List.mem_iff_getElem.1 hn
  have hi' : i < l.length := by simpa [t3] using hi
  simp only [t3, List.getElem_map, List.getElem_range]
  split
  · have gl : l.getD i 0 = l[i] := by simp [hi']
    have gm : m.getD i 0 = m[i] := by simp [show i < m.length by omega]
    have gp : p.getD i 0 = p[i] := by simp [show i < p.length by omega]
    rw [gl, gm, gp]
    exact x3_U8 (hl _ (List.getElem_mem _)) (hm _ (List.getElem_mem _)) (hp _ (List.getElem_mem _))
  · unfold U8; omega

/-- the sums of three rows, put together, are the sum of these put together -/
theorem three_sums (a b c : BitVec 32) (l m p : List (BitVec 32)) (e1 : l.length = m.length) (e2 : l.length = p.length) :
    F (a ^^^ b ^^^ c) (List.zipWith (· ^^^ ·) (List.zipWith (· ^^^ ·) l m) p) = F a l ^^^ F b m ^^^ F c p := by
  rw [F_xor _ _ _ _ (by simp; omega), F_xor _ _ _ _ e1]

end Crcm
namespace Go.Proofs.Ytgadiloflepclaa
open Go.RowKit Crcm Go.ChangeShapes

theorem three_ok (l m p : List Int) (hl : ∀ n ∈ l, U8 n) (hm : ∀ n ∈ m, U8 n) (hp : ∀ n ∈ p, U8 n) (e1 : l.length = m.length) (e2 : l.length = p.length) :
    bits .xor .u32 (bits .xor .u32 (mo 0 l) (mo 0 m)) (mo 0 p) = mo 0 (t3 l m p l.length) := by
  rw [xor32 (U_xor (U32_mo _ _) (U32_mo _ _)) (U32_mo _ _), V_xor (U32_mo _ _) (U32_mo _ _)]
  unfold mo
  rw [V_N, V_N, V_N, t3_V l m p hl hm hp e1 e2]
  have h := three_sums (~~~ V 0) (~~~ V 0) (~~~ V 0) (l.map V) (m.map V) (p.map V) (by simp [e1]) (by simp; omega)
  rw [BitVec.xor_self, BitVec.zero_xor] at h
  rw [h]
  congr 1
  generalize F (~~~ V 0) (l.map V) = x
  generalize F (~~~ V 0) (m.map V) = y
  generalize F (~~~ V 0) (p.map V) = z
  apply BitVec.eq_of_getLsbD_eq
  intro i hi
  simp [hi]

set_option maxHeartbeats 400000 in
theorem crcThree_walk (a0 : Option Addr) (len0 cap0 : Nat) (z0 : List Int) (a1 : Option Addr) (len1 cap1 : Nat) (z1 : List Int) (a2 : Option Addr) (len2 cap2 : Nat) (z2 : List Int) (w : World) (w0 : Row8 w a0 len0 cap0 z0) (w1 : Row8 w a1 len1 cap1 z1) (w2 : Row8 w a2 len2 cap2 z2) :
    Calls Try.prog 10 #[.slice a0 len0 cap0, .slice a1 len1 cap1, .slice a2 len2 cap2] w fun e w' => e = .returned (.bool true) ∧ Below w.heap.size w w' := by
  obtain ⟨l, rfl, hcap, hr, -⟩ := w0.rw
  obtain ⟨m, rfl, hcap1, hr1, -⟩ := w1.rw
  obtain ⟨p, rfl, hcap2, hr2, -⟩ := w2.rw
  clear w0 w1 w2
  by_cases hl : 2000 < l.length
  · go_enter Try.func10, Try.ntmps10
    go_wp2_with (first | (go_at_call 18; refine (long_yes _ _ _ _ hl).mono ?_; rintro e w' ⟨rfl, rfl⟩) | (go_at_call 17; refine (known_any _).mono ?_; rintro e w' ⟨rfl, hb⟩))
    go_ret
    exact ⟨rfl, hb⟩
  · by_cases g1 : l.length = m.length
    · by_cases g2 : l.length = p.length
      · obtain ⟨i0, hi, hz0, hz1, hz2⟩ := info_parts Try.info8
        have t1 : ((l.length : Int) != (m.length : Int)) = false := by rw [g1]; simp
        have t2 : ((l.length : Int) != (p.length : Int)) = false := by rw [g2]; simp
        have G1 := Lib.hid g1
        have G2 := Lib.hid g2
        clear g1 g2
        go_enter Try.func10, Try.ntmps10
        go_wp2_with (first | (go_at_call 18; refine (long_no _ _ _ _ (by omega)).mono ?_; rintro e w' ⟨rfl, rfl⟩) | (at_make; refine wpList_make_full _ rfl _ _ 26 rfl w.heap.size 5 i0 (.int .u8 0) 1 Try.underlying26 hi hz0 hz1 _ _ _ _ l.length rfl rfl rfl rfl ?c1 ?c2 ?c3 ?_))
        case c1 => rw [hz2]; omega
        case c2 => unfold maxLen; omega
        case c3 => exact Nat.le_refl _
        intro w1 hown hgrow
        have hb1 : Below w.heap.size w w1 := (Below.refl _ _).grown hgrow (Nat.le_refl _) (fun g hg => by cases hg)
        rw [toList_madeCells_one] at hown
        have e0 : List.replicate l.length (Value.int .u8 0) = (t3 l m p 0).map (Value.int .u8) := by rw [t3_zero]; simp
        rw [e0] at hown
        have H1 := Lib.hid hown
        clear hown e0 hgrow
        go_wp2_with fail
        go_loopw [8] (fun i wr => ∃ k : Nat, k ≤ l.length ∧ i = .int .i64 k ∧ Hid (wr.ownsRow w.heap.size 5 1 (.slice (some ⟨w.heap.size, 0, none⟩) l.length l.length) l.length ((t3 l m p k).map (Value.int .u8))) ∧ Below w.heap.size w wr) (fun i _ => l.length - (intOf i).toNat)
        case atStart => exact ⟨0, by omega, rfl, H1, hb1⟩
        case round =>
          obtain ⟨k, hk, rfl, hO, hbel⟩ := hrel
          by_cases hlt : k < l.length
          · have hltm : k < m.length := by have := G1.out; omega
            have hltp : k < p.length := by have := G2.out; omega
            obtain ⟨-, -, rfl | ⟨b0, o0, rfl, c0⟩⟩ := hr.below hbel
            · simp at hlt
            obtain ⟨-, -, rfl | ⟨b1, o1, rfl, c1⟩⟩ := hr1.below hbel
            · simp at hltm
            obtain ⟨-, -, rfl | ⟨b2, o2, rfl, c2⟩⟩ := hr2.below hbel
            · simp at hltp
            have c0 := c0 k hlt
            have c1 := c1 k hltm
            have c2 := c2 k hltp
            have hd := hO.out.cellAt k (by omega)
            have hf := hO.out.frozenAt k
            rw [List.getElem?_map, List.getElem?_eq_getElem (by rw [t3_length]; exact hlt)] at hd
            obtain ⟨v0, hd⟩ : ∃ v0, wr.cell? ⟨w.heap.size, k, none⟩ = some v0 := ⟨_, hd⟩
            clear H1 hb1
            go_wp2
            go_region
            go_wp2
            go_roundw
            case rel =>
              have hs := hO.out.stored k (.int .u8 (x3 (l.getD k 0) (m.getD k 0) (p.getD k 0)))
              have e : ((t3 l m p k).map (Value.int .u8)).set k (.int .u8 (x3 (l.getD k 0) (m.getD k 0) (p.getD k 0))) = (t3 l m p (k + 1)).map (Value.int .u8) := by
                rw [← t3_set, List.map_set]
              rw [e] at hs
              have eg : l.getD k 0 = l[k] ∧ m.getD k 0 = m[k] ∧ p.getD k 0 = p[k] := by simp [hlt, hltm, hltp]
              rw [eg.1, eg.2.1, eg.2.2] at hs
              refine ⟨k + 1, by omega, by go_num, Lib.hid hs.1, ?_⟩
              exact (hbel.setCell (p := ⟨w.heap.size, k, none⟩) (Nat.le_refl _) _).drew
            case measure => simp [intOf]; omega
          · have hkn : k = l.length := by omega
            subst hkn
            obtain ⟨a4, cap4, ev, hr4, hl4⟩ := Rw.of_own hO.out (t3_U8 l m p hr.1 hr1.1 hr2.1 G1.out G2.out _)
            obtain ⟨rfl, -, rfl⟩ : some (⟨w.heap.size, 0, none⟩ : Addr) = a4 ∧ True ∧ l.length = cap4 := by
              injection ev with e1 e2 e3; exact ⟨e1, trivial, e3⟩
            have h3 : (bits .xor .u32 (bits .xor .u32 (mo 0 l) (mo 0 m)) (mo 0 p) == mo 0 (t3 l m p l.length)) = true := by
              rw [three_ok l m p hr.1 hr1.1 hr2.1 G1.out G2.out]; simp
            have q0 := hr.below hbel
            have q1 := hr1.below hbel
            have q2 := hr2.below hbel
            have HL := Lib.hid hl4
            clear ev hl4 H1 hb1 hr hr1 hr2
            go_wp2_with fail
            refine (sum_any _ _ _ _ q0).mono ?_
            rintro e w' ⟨rfl, rfl⟩
            go_wp2_with fail
            refine (sum_any _ _ _ _ q1).mono ?_
            rintro e w' ⟨rfl, rfl⟩
            go_wp2_with fail
            refine (sum_any _ _ _ _ q2).mono ?_
            rintro e w' ⟨rfl, rfl⟩
            go_wp2_with fail
            refine (sum_len hr4 HL.out).mono ?_
            rintro e w' ⟨rfl, rfl⟩
            go_wp2_with fail
            refine (known_any _).mono ?_
            rintro e w3 ⟨rfl, hb3⟩
            go_wp2
            go_ret
            exact ⟨rfl, hbel.trans (hb3.mono hbel.size)⟩
      · have t1 : ((l.length : Int) != (m.length : Int)) = false := by rw [g1]; simp
        have t2 : ((l.length : Int) != (p.length : Int)) = true := by simp; omega
        clear g1 g2
        go_enter Try.func10, Try.ntmps10
        go_wp2_with (first | (go_at_call 18; refine (long_no _ _ _ _ (by omega)).mono ?_; rintro e w' ⟨rfl, rfl⟩) | (go_at_call 17; refine (known_any _).mono ?_; rintro e w' ⟨rfl, hb⟩))
        go_ret
        exact ⟨rfl, hb⟩
    · have t1 : ((l.length : Int) != (m.length : Int)) = true := by simp; omega
      clear g1
      go_enter Try.func10, Try.ntmps10
      go_wp2_with (first | (go_at_call 18; refine (long_no _ _ _ _ (by omega)).mono ?_; rintro e w' ⟨rfl, rfl⟩) | (go_at_call 17; refine (known_any _).mono ?_; rintro e w' ⟨rfl, hb⟩))
      go_ret
      exact ⟨rfl, hb⟩

end Go.Proofs.Ytgadiloflepclaa
