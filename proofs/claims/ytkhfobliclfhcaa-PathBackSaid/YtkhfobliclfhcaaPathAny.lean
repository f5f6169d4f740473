/-
  A path's names: the program's call Parse at every text. Nothing of one statement alone stands here.
-/
import Derived.Test.YtkhfobliclfhcaaPathParse
import Derived.Test.YtkhfobliclfhcaaPathMath
namespace Go.Proofs.Ytkhfobliclfhcaa
open Go.RowKit Go.ChangeShapes

set_option maxRecDepth 100000 in
set_option maxHeartbeats 1000000 in
theorem parse_any (s : ByteArray) (w : World) : Calls Try.prog 16 #[.string s] w (PsP s w) := by
  by_cases h2 : 255 < s.size
  · have e := Lib.hid (ps_bad (s := s) (.inr (.inl h2)))
    have t2 : decide ((255 : Int) < (s.size : Int)) = true := by simp; omega
    go_enter Try.func16, Try.ntmps16
    go_wp2_with fail
    go_step3
    go_wp2
    rw [Exit.noGoto_ret]
    go_ret2
    exact ⟨.inr ⟨by rw [e.out]; decide, by rw [e.out]; rfl⟩, Below.refl _ _⟩
  cases hsl : slB s with
  | false =>
    have e := Lib.hid (ps_bad (s := s) (.inr (.inr hsl)))
    have t2 : decide ((255 : Int) < (s.size : Int)) = false := by simp; omega
    have HP := Lib.hid (fun w => stringsHasPrefix_any s w)
    rw [hsl] at HP
    clear hsl
    go_enter Try.func16, Try.ntmps16
    go_wp2_with fail
    go_step3
    go_wp2_with fail
    refine (HP.out _).mono ?_
    rintro _ w1 ⟨rfl, rfl⟩
    go_wp2
    rw [Exit.noGoto_ret]
    go_ret2
    exact ⟨.inr ⟨by rw [e.out]; decide, by rw [e.out]; rfl⟩, Below.refl _ _⟩
  | true =>
    have h1 : ¬ s.size < 1 := fun h => by rw [slB_none h] at hsl; cases hsl
    have e := ps_good (s := s) (fun h => h.elim h1 (fun h => h.elim h2 (fun g => by rw [hsl] at g; cases g)))
    have hg := parse_good s w (by omega) hsl
    rw [yl_parts hsl, ← e] at hg
    refine hg.mono ?_
    rintro r w' ⟨h, hb⟩
    refine ⟨?_, hb⟩
    rcases h with ⟨h0, a, k, c, rfl, hown, hlen⟩ | ⟨h0, rfl⟩
    · obtain ⟨a', c', ev, hrs, _, hkc⟩ := own_rs hown (fun x hx => by have := st_size s (s.size + 1) x hx; unfold maxLen; omega)
      injection ev with e1 _ e2
      subst e1 e2
      exact .inl ⟨h0, a, k, c, rfl, hrs, hlen, hkc⟩
    · exact .inr ⟨h0, rfl⟩
end Go.Proofs.Ytkhfobliclfhcaa
