/-
  Small calls of a translation that is opened: whether each block holds something, which blocks have pages of a broken epoch. Nothing of one statement alone stands here.
-/
import Derived.Test.YtbfifppdcmimaaaGreatFtNew
namespace Ftlm
/-- whether each of the first n blocks that is not bad holds something -/
def ahF (bd : Nat → Bool) (lv : Nat → Int) : Nat → Bool
  | 0 => true
  | k + 1 => ahF bd lv k && !(lv k == 0 && !bd k)
theorem ahF_stop {bd : Nat → Bool} {lv : Nat → Int} {k : Nat} (h : ahF bd lv k = false) : ∀ n, k ≤ n → ahF bd lv n = false := by
  intro n hn
  induction n with
  | zero => have : k = 0 := by omega
            subst this; exact h
  | succ n ih =>
    by_cases e : k = n + 1
    · subst e; exact h
    · rw [ahF, ih (by omega)]; rfl
end Ftlm
namespace Go.Proofs.YtbfifppdcmimaaaGreat
open Go.RowKit Crcm Gcm Ftlm Go.ChangeShapes Go.Maps

/-- a row of ints known -/
def InR (w : World) (g nb : Nat) (f : Nat → Int) : Prop := ∃ cs, Blk w g 3 cs ∧ cs.size = nb ∧ ∀ j, j < nb → cs[j]? = some (.int .i64 (f j))
theorem InR.kp {F : Nat → Prop} {w w' : World} {g nb : Nat} {f : Nat → Int} (h : InR w g nb f) (hk : Kp F w w') (hg : ¬ F g) : InR w' g nb f := h.imp fun _ h => ⟨h.1.kp hk hg, h.2⟩
theorem InR.below {w w' : World} {g nb : Nat} {f : Nat → Int} (h : InR w g nb f) (hb : Below w.heap.size w w') : InR w' g nb f := h.kp (F := fun _ => False) (Kp.of_below hb) (fun e => e)
def upI (f : Nat → Int) (k : Nat) (x : Int) (j : Nat) : Int := if j = k then x else f j
theorem InR.put {w : World} {g nb : Nat} {f : Nat → Int} (h : InR w g nb f) (k : Nat) (hk : k < nb) (x : Int) : InR (w.setCell ⟨g, k, none⟩ (.int .i64 x)) g nb (upI f k x) := by
  obtain ⟨cs, h1, h2, h3⟩ := h
  refine ⟨_, h1.put k (.int .i64 x), by simpa using h2, fun j hj => ?_⟩
  unfold upI
  by_cases e : j = k
  · subst e
    rw [if_pos rfl]
    have : j < cs.size := by omega
    simp [this]
  · rw [if_neg e, Array.getElem?_setIfInBounds, if_neg (fun q => e q.symm)]
    exact h3 j hj

set_option maxRecDepth 100000 in
set_option maxHeartbeats 1000000 in
theorem allHold_any {w : World} {X : Nat → Prop} {o : Own} {c : Ch} (h : ChAt w X o c) {g cp : Nat} {lv : Nat → Int} (hl : InR w g c.nb lv) :
    Calls Tryz.prog 36 #[.pointer (some ⟨o.bc, 0, none⟩), .slice (some ⟨g, 0, none⟩) c.nb cp] w fun e w' => e = .returned (.bool (ahF c.bad lv c.nb)) ∧ Below w.heap.size w w' := by
  have hnb : c.nb < 129 := h.good.2.1
  have HBd := Lib.hid (fun W (hb : Below w.heap.size w W) (k : Nat) (hk : k < c.nb) => bad_any (h.below hb) k hk)
  have hop : o.p = .pointer (some ⟨o.bc, 0, none⟩) := rfl
  rw [hop] at HBd
  obtain ⟨cs, hb, -, hcs⟩ := hl
  have HC := Lib.hid (fun W (hW : Below w.heap.size w W) (j : Nat) (hj : j < c.nb) => ((hb.below hW hb.lt).cell j).trans (hcs j hj))
  generalize c.nb = nb at hnb HBd HC ⊢
  generalize c.bad = bd at HBd ⊢
  clear h hop hb hcs
  obtain ⟨R, hR⟩ : ∃ R, ahF bd lv nb = R := ⟨_, rfl⟩
  rw [hR]
  have HR := Lib.hid hR
  clear hR
  go_enter Tryz.func36, Tryz.ntmps36
  go_wp2_with fail
  go_loopw [9] (fun i wr => ∃ k : Nat, k ≤ nb ∧ i = .int .i64 k ∧ ahF bd lv k = true ∧ Below w.heap.size w wr) (fun i _ => nb - (intOf i).toNat)
  case atStart => exact ⟨0, by omega, rfl, rfl, Below.refl _ _⟩
  case round =>
    obtain ⟨k, hk, rfl, ht, hbw⟩ := hrel
    by_cases hlt : k < nb
    · have kl : (k : Int) < (nb : Int) := by omega
      have c0 := HC.out wr hbw k hlt
      have HB1 := Lib.hid (HBd.out wr hbw k hlt)
      have hs : Hid (ahF bd lv (k + 1) = !(lv k == 0 && !bd k)) := Lib.hid (by rw [ahF, ht]; rfl)
      have HBw := Lib.hid hbw
      clear hbw ht
      generalize lv k = x at c0 hs
      by_cases hx : x = 0
      · subst hx
        go_wp2_with fail
        refine HB1.out.mono ?_
        rintro e w1 ⟨rfl, rfl⟩
        cases hb : bd k with
        | true =>
          have HE : Hid (ahF bd lv (k + 1) = true) := Lib.hid (by rw [hs.out, hb]; rfl)
          go_wp2
          go_roundw
          case rel => exact ⟨k + 1, by omega, by go_num, HE.out, HBw.out⟩
          case measure => simp [intOf]; omega
        | false =>
          have HE : Hid (R = false) := Lib.hid (by rw [← HR.out]; exact ahF_stop (k := k + 1) (by rw [hs.out, hb]; rfl) nb (by omega))
          go_wp2
          rw [HE.out]
          go_ret
          exact ⟨rfl, HBw.out⟩
      · have hx2 : (x == 0) = false := beq_false_of_ne hx
        have HE : Hid (ahF bd lv (k + 1) = true) := Lib.hid (by rw [hs.out, hx2]; rfl)
        go_wp2
        go_roundw
        case rel => exact ⟨k + 1, by omega, by go_num, HE.out, HBw.out⟩
        case measure => simp [intOf]; omega
    · have kl : ¬ (k : Int) < (nb : Int) := by omega
      have e : k = nb := by omega
      subst e
      have HE : Hid (R = true) := Lib.hid (by rw [← HR.out]; exact ht)
      have HB := Lib.hid hbw
      clear hbw ht
      go_wp2
      rw [HE.out]
      go_ret
      exact ⟨rfl, HB.out⟩
end Go.Proofs.YtbfifppdcmimaaaGreat
