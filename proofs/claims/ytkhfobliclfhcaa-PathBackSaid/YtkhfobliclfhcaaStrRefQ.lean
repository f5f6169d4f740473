/-
  A path's names: the document's call Parse. Nothing of one statement alone stands here.
-/
import Derived.Test.YtkhfobliclfhcaaStrRefP
namespace Go.Proofs.Ytkhfobliclfhcaa
open Go.RowKit Go.ChangeShapes

/-- why so many of the first texts are no names of a path (0: they are) -/
def chk (l : List ByteArray) : Nat → Int
  | 0 => 0
  | k + 1 => if chk l k = 0 then (if Nm (l.getD k ⟨#[]⟩) then (if 15 < k then 30 else 0) else 31) else chk l k
theorem chk_stays {l : List ByteArray} {k n : Nat} (h : chk l k ≠ 0) (hn : k ≤ n) : chk l n = chk l k := by
  induction n with
  | zero => rw [show k = 0 by omega]
  | succ n ih =>
    by_cases e : k = n + 1
    · rw [e]
    · have g := ih (by omega)
      simp only [chk]
      rw [g, if_neg h]
theorem chk_name {l : List ByteArray} {k : Nat} (h : chk l k = 0) (hn : Nm (l.getD k ⟨#[]⟩)) (hk : ¬ 15 < k) : chk l (k + 1) = 0 := by
  simp only [chk]; rw [if_pos h, if_pos hn, if_neg hk]
theorem chk_many {l : List ByteArray} {k : Nat} (h : chk l k = 0) (hn : Nm (l.getD k ⟨#[]⟩)) (hk : 15 < k) : chk l (k + 1) = 30 := by
  simp only [chk]; rw [if_pos h, if_pos hn, if_pos hk]
theorem chk_not {l : List ByteArray} {k : Nat} (h : chk l k = 0) (hn : ¬ Nm (l.getD k ⟨#[]⟩)) : chk l (k + 1) = 31 := by
  simp only [chk]; rw [if_pos h, if_neg hn]
/-- what is told of a path: 0, or why it is none -/
def psE (s : ByteArray) : Int := if s.size < 1 ∨ 255 < s.size ∨ slB s = false then 30 else chk (parts s) (parts s).length

/-- what a call of Parse answers -/
def PsP (s : ByteArray) (w : World) (r : Ending) (w' : World) : Prop :=
  ((psE s = 0 ∧ ∃ a k c, r = .returned (.tuple #[.slice a k c, .int .i64 0]) ∧ Rs w' a (parts s) ∧ (parts s).length = k ∧ k ≤ c) ∨
   (psE s ≠ 0 ∧ r = .returned (.tuple #[.slice none 0 0, .int .i64 (psE s)]))) ∧ Below w.heap.size w w'

theorem ps_bad {s : ByteArray} (h : s.size < 1 ∨ 255 < s.size ∨ slB s = false) : psE s = 30 := if_pos h
theorem ps_good {s : ByteArray} (h : ¬ (s.size < 1 ∨ 255 < s.size ∨ slB s = false)) : psE s = chk (parts s) (parts s).length := if_neg h
theorem slB_byte {s : ByteArray} (h : 0 < s.size) : slB s = true ↔ s[0].toNat = 47 := by
  obtain ⟨⟨l⟩⟩ := s
  match l, h with
  | b :: r, h =>
    have e : (⟨⟨b :: r⟩⟩ : ByteArray)[0] = b := rfl
    rw [e]
    unfold slB
    simp only [List.head?_cons, beq_iff_eq, Option.some.injEq]
    constructor
    · rintro rfl; rfl
    · intro g; exact UInt8.toNat_inj.1 (by rw [g]; rfl)
  | [], h => exact absurd h (by decide)

set_option maxRecDepth 100000 in
set_option maxHeartbeats 1000000 in
theorem refParse_any (s : ByteArray) (w : World) : Calls Try.prog 18 #[.string s] w (PsP s w) := by
  by_cases h1 : s.size < 1
  · have e := Lib.hid (ps_bad (s := s) (.inl h1))
    have t1 : decide ((s.size : Int) < 1) = true := by simp; omega
    go_enter Try.func18, Try.ntmps18
    go_wp2
    go_ret2
    exact ⟨.inr ⟨by rw [e.out]; decide, by rw [e.out]; rfl⟩, Below.refl _ _⟩
  have t1 : decide ((s.size : Int) < 1) = false := by simp; omega
  by_cases h2 : 255 < s.size
  · have e := Lib.hid (ps_bad (s := s) (.inr (.inl h2)))
    have t2 : decide ((255 : Int) < (s.size : Int)) = true := by simp; omega
    go_enter Try.func18, Try.ntmps18
    go_wp2
    go_ret2
    exact ⟨.inr ⟨by rw [e.out]; decide, by rw [e.out]; rfl⟩, Below.refl _ _⟩
  have t2 : decide ((255 : Int) < (s.size : Int)) = false := by simp; omega
  have hl0 : 0 < s.size := by omega
  by_cases h3 : s[0].toNat = 47
  · have e := Lib.hid (ps_good (s := s) (fun h => h.elim h1 (fun h => h.elim h2 (fun g => by rw [(slB_byte hl0).2 h3] at g; cases g))))
    have z : ((s[0].toNat : Int) != 47) = false := by simp; omega
    have HP := Lib.hid (fun W => refParts_any s W (by omega))
    have i0 : (0 : Int) < (s.size : Int) := by omega
    go_enter Try.func18, Try.ntmps18
    go_wp2_with fail
    refine (HP.out _).mono ?_
    rintro r w1 ⟨⟨a, k, c, rfl, hrs, hlen, hkc⟩, hb1⟩
    have HR := Lib.hid hrs
    have HL := Lib.hid hlen
    have HB1 := Lib.hid hb1
    have hk1 : k ≤ 9223372036854775807 := by have := hrs.2.1; unfold maxLen at this; omega
    clear hrs hlen hb1 HP
    go_wp2_with fail
    go_loop [5] (fun i => ∃ j : Nat, j ≤ k ∧ i = .int .i64 j ∧ Hid (chk (parts s) j = 0)) (fun i => k - (intOf i).toNat)
    case atStart => exact ⟨0, by omega, rfl, Lib.hid rfl⟩
    case round =>
      obtain ⟨j, hj, rfl, hC⟩ := hrel
      by_cases hlt : j < k
      · have hjl : j < (parts s).length := by rw [HL.out]; exact hlt
        rcases HR.out.2.2 with hnil | ⟨b, off, rfl, hc⟩
        · rw [hnil] at hjl; simp at hjl
        have hcj := hc j hjl
        have hgd : (parts s).getD j ⟨#[]⟩ = (parts s)[j] := by simp [List.getD_eq_getElem?_getD, hjl]
        have H1 := Lib.hid (fun hn hk => chk_name hC.out (by rw [hgd]; exact hn) hk)
        have H2 := Lib.hid (fun hn hk => chk_many hC.out (by rw [hgd]; exact hn) hk)
        have H3 := Lib.hid (fun hn => chk_not hC.out (by rw [hgd]; exact hn))
        have HSt := Lib.hid (fun (h : chk (parts s) (j + 1) ≠ 0) => chk_stays h (by rw [HL.out]; omega : j + 1 ≤ (parts s).length))
        generalize (parts s)[j] = x at hcj H1 H2 H3
        have HN := Lib.hid (fun W => refName_any x W)
        have jk : (j : Int) < (k : Int) := by omega
        have j0 : (0 : Int) ≤ (j : Int) := by omega
        clear hc hjl hgd
        by_cases hn : Nm x
        · rw [nm_yes hn] at HN
          by_cases h15 : 15 < j
          · have hb := H2.out hn h15
            have HV := Lib.hid (e.out.trans ((HSt.out (by rw [hb]; decide)).trans hb))
            have t15 : decide ((15 : Int) < (j : Int)) = true := by simp; omega
            clear H1 H2 H3 HSt hb hn
            go_wp2_with fail
            refine (HN.out _).mono ?_
            rintro _ w' ⟨rfl, rfl⟩
            go_wp2
            go_ret2
            exact ⟨.inr ⟨by rw [HV.out]; decide, by rw [HV.out]; rfl⟩, HB1.out⟩
          · have hb := Lib.hid (H1.out hn h15)
            have t15 : decide ((15 : Int) < (j : Int)) = false := by simp; omega
            clear H1 H2 H3 HSt hn
            go_wp2_with fail
            refine (HN.out _).mono ?_
            rintro _ w' ⟨rfl, rfl⟩
            go_wp2
            go_round
            case rel => exact ⟨j + 1, by omega, by go_num, hb⟩
            case measure => simp [intOf]; omega
        · rw [nm_no hn] at HN
          have hb := H3.out hn
          have HV := Lib.hid (e.out.trans ((HSt.out (by rw [hb]; decide)).trans hb))
          clear H1 H2 H3 HSt hb hn
          go_wp2_with fail
          refine (HN.out _).mono ?_
          rintro _ w' ⟨rfl, rfl⟩
          go_wp2
          go_ret2
          exact ⟨.inr ⟨by rw [HV.out]; decide, by rw [HV.out]; rfl⟩, HB1.out⟩
      · have hjk : j = k := by omega
        subst hjk
        have HV := Lib.hid (e.out.trans (show chk (parts s) (parts s).length = 0 by rw [HL.out]; exact hC.out))
        go_wp2
        go_ret2
        exact ⟨.inl ⟨HV.out, a, j, c, rfl, HR.out, HL.out, hkc⟩, HB1.out⟩
  · have e := Lib.hid (ps_bad (s := s) (.inr (.inr (Bool.eq_false_iff.2 fun g => h3 ((slB_byte hl0).1 g)))))
    have z : ((s[0].toNat : Int) != 47) = true := by simp; omega
    have i0 : (0 : Int) < (s.size : Int) := by omega
    go_enter Try.func18, Try.ntmps18
    go_wp2
    go_ret2
    exact ⟨.inr ⟨by rw [e.out]; decide, by rw [e.out]; rfl⟩, Below.refl _ _⟩
end Go.Proofs.Ytkhfobliclfhcaa
