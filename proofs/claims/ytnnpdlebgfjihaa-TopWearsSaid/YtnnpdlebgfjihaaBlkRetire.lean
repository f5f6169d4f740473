/-
  A manager's block in which nothing is needed: asked for, and retired. Nothing of one statement alone stands here.
-/
import Derived.Test.YtnnpdlebgfjihaaBlkClose
namespace Go.Proofs.Ytnnpdlebgfjihaa
open Go.RowKit Crcm Gcm Go.ChangeShapes

set_option maxRecDepth 100000 in
theorem bup_any {w : World} {X : Nat → Prop} {M : Nat} {m : Mg} {o : Own} {c : Ch} (h : MgAt w M m) (hc : ChAt w X o c) (hp : m.cp = o.p) : Calls Try.prog 35 #[.pointer (some ⟨M, 0, none⟩)] w fun e w' => e = .returned (.int .i64 (if c.up = true then 0 else 4)) ∧ w = w' := by
  cases hu : c.up with
  | true => exact bup_yes h hc hp hu
  | false =>
    obtain ⟨c0, -, -, -, -⟩ := h.cells
    rw [hp] at c0
    have HU := Lib.hid (up_any hc)
    rw [hu] at HU
    clear h hc hp hu
    unfold Own.p at *
    go_enter Try.func35, Try.ntmps35
    go_wp2_with fail
    refine HU.out.mono ?_
    rintro r w' ⟨rfl, rfl⟩
    go_wp2
    go_ret
    exact ⟨rfl, rfl⟩

/-- what is answered of a block in which nothing may be needed -/
def ndE (up : Bool) (l : List Bk) (k : Int) : Int := if up = true then (if k < 0 ∨ (l.length : Int) ≤ k ∨ l[k.toNat]!.st = 4 ∨ 0 < l[k.toNat]!.lv then 1 else 0) else 4
def ndP (g : Nat) (k x : Int) : Value := if x = 0 then .pointer (some ⟨g, k.toNat * 4, none⟩) else .pointer none

set_option maxRecDepth 100000 in
set_option maxHeartbeats 1000000 in
theorem needless_any {w : World} {X : Nat → Prop} {M : Nat} {m : Mg} {o : Own} {c : Ch} (h : MgAt w M m) (hc : ChAt w X o c) (hp : m.cp = o.p) (k : Int) : Calls Try.prog 61 #[.pointer (some ⟨M, 0, none⟩), .int .i64 k] w fun e w' => e = .returned (.tuple #[ndP m.g k (ndE c.up m.l k), .int .i64 (ndE c.up m.l k)]) ∧ w = w' := by
  have HU := Lib.hid (bup_any h hc hp)
  cases hu : c.up with
  | false =>
    rw [hu, if_neg (by simp)] at HU
    have HE : Hid (ndE false m.l k = 4) := Lib.hid (by unfold ndE; rw [if_neg (by simp)])
    clear h hc hp hu
    go_enter Try.func61, Try.ntmps61
    go_wp2_with fail
    refine HU.out.mono ?_
    rintro r w' ⟨rfl, rfl⟩
    go_wp2
    go_ret2
    exact ⟨by rw [HE.out]; rfl, rfl⟩
  | true =>
    rw [hu, if_pos rfl] at HU
    by_cases hk : k < 0 ∨ (m.l.length : Int) ≤ k
    · have HE : Hid (ndE true m.l k = 1) := Lib.hid (by unfold ndE; rw [if_pos rfl, if_pos (by rcases hk with g | g; exact .inl g; exact .inr (.inl g))])
      have HB := Lib.hid (bblock_no h k hk)
      clear h hc hp hu hk
      go_enter Try.func61, Try.ntmps61
      go_wp2_with fail
      refine HU.out.mono ?_
      rintro r w' ⟨rfl, rfl⟩
      go_wp2_with fail
      refine HB.out.mono ?_
      rintro r w' ⟨rfl, rfl⟩
      go_wp2
      go_ret2
      exact ⟨by rw [HE.out]; rfl, rfl⟩
    · obtain ⟨q, rfl⟩ : ∃ q : Nat, k = q := ⟨k.toNat, by omega⟩
      have hq : q < m.l.length := by omega
      have HB := Lib.hid (bblock_yes h q hq)
      obtain ⟨e0, e1, -, -⟩ := h.own.at q hq
      have HE : Hid (ndE true m.l (q : Int) = if m.l[q]!.st = 4 ∨ 0 < m.l[q]!.lv then 1 else 0) := Lib.hid (by
        unfold ndE
        rw [if_pos rfl, Int.toNat_natCast]
        by_cases g : m.l[q]!.st = 4 ∨ 0 < m.l[q]!.lv
        · rw [if_pos g, if_pos (.inr (.inr g))]
        · rw [if_neg g, if_neg (by rintro (g1 | g1 | g1); omega; omega; exact g g1)])
      generalize m.l[q]!.st = st at e0 HE
      generalize m.l[q]!.lv = lv at e1 HE
      clear h hc hp hu hk hq
      by_cases g0 : st = 4
      · subst g0
        rw [if_pos (.inl rfl)] at HE
        go_enter Try.func61, Try.ntmps61
        go_wp2_with fail
        refine HU.out.mono ?_
        rintro r w' ⟨rfl, rfl⟩
        go_wp2_with fail
        refine HB.out.mono ?_
        rintro r w' ⟨rfl, rfl⟩
        go_wp2
        go_ret2
        exact ⟨by rw [HE.out]; rfl, rfl⟩
      · have t0 : (st == 4) = false := by simpa using g0
        by_cases g1 : 0 < lv
        · rw [if_pos (.inr g1)] at HE
          have t1 : decide (0 < lv) = true := decide_eq_true g1
          clear g0
          go_enter Try.func61, Try.ntmps61
          go_wp2_with fail
          refine HU.out.mono ?_
          rintro r w' ⟨rfl, rfl⟩
          go_wp2_with fail
          refine HB.out.mono ?_
          rintro r w' ⟨rfl, rfl⟩
          go_wp2
          go_ret2
          exact ⟨by rw [HE.out]; rfl, rfl⟩
        · rw [if_neg (by rintro (g | g); exact g0 g; exact g1 g)] at HE
          have t1 : decide (0 < lv) = false := decide_eq_false g1
          clear g0
          go_enter Try.func61, Try.ntmps61
          go_wp2_with fail
          refine HU.out.mono ?_
          rintro r w' ⟨rfl, rfl⟩
          go_wp2_with fail
          refine HB.out.mono ?_
          rintro r w' ⟨rfl, rfl⟩
          go_wp2
          go_ret2
          exact ⟨by rw [HE.out]; rfl, rfl⟩
end Go.Proofs.Ytnnpdlebgfjihaa
