/-
  A pattern's parts: the document's New; rows of names, cut.
-/
import Derived.Test.YtaielamimkigmaaGlobMatM
import Derived.Test.YtaielamimkigmaaStrRefP
import Derived.Test.YtaielamimkigmaaGlobNewW
namespace Go.Proofs.Ytaielamimkigmaa
open Go.RowKit Go.ChangeShapes Globm Go.ChangeMaps

def mS (A : Option Addr) (c x : Nat) : Option Addr := if c = x then A else A.map (·.add x)
theorem elemS : Try.prog.elem 27 = 9 := by simp [Program.elem, Try.underlying27]
theorem slS (A : Option Addr) (n c x : Nat) (h1 : x ≤ n) (W : World) :
    Sem.run Try.prog (Instr.slice 27 (.slice A n c) (some (.int .i64 (x : Int))) none none) W = .ok (.slice (mS A c x) (n - x) (c - x)) W := by
  have he : Try.prog.underlying 27 = some (.slice (Try.prog.elem 27)) := by rw [elemS, Try.underlying27]
  have h := run_slice_l W 27 A n c he .i64 (x : Int) (by omega) (by omega)
  rw [elemS, Try.sizeOf9] at h
  rw [show Sem.run Try.prog (Instr.slice 27 (.slice A n c) (some (.int .i64 (x : Int))) none none) W = _ from h]
  simp [Result.andThen, sliced, mS]
theorem slT (A : Option Addr) (n c x : Nat) (h1 : x ≤ c) (W : World) :
    Sem.run Try.prog (Instr.slice 27 (.slice A n c) none (some (.int .i64 (x : Int))) none) W = .ok (.slice A x c) W := by
  have he : Try.prog.underlying 27 = some (.slice (Try.prog.elem 27)) := by rw [elemS, Try.underlying27]
  have h := run_slice_h W 27 A n c he .i64 (x : Int) (by omega) (by omega)
  rw [elemS, Try.sizeOf9] at h
  rw [show Sem.run Try.prog (Instr.slice 27 (.slice A n c) none (some (.int .i64 (x : Int))) none) W = _ from h]
  simp [Result.andThen, sliced]
  intro _
  cases A <;> simp [Addr.add]
theorem Rs.cut {w : World} {A : Option Addr} {l : List ByteArray} (h : Rs w A l) {c x : Nat} (hc : l.length ≤ c) : Rs w (mS A c x) (l.drop x) := by
  obtain ⟨h1, h2, h3⟩ := h
  refine ⟨fun s hs => h1 s (List.mem_of_mem_drop hs), by rw [List.length_drop]; omega, ?_⟩
  rcases Nat.lt_or_ge x l.length with hx | hx
  · rcases h3 with rfl | ⟨b, off, rfl, h3⟩
    · simp at hx
    · right
      refine ⟨b, off + x, ?_, fun j hj => ?_⟩
      · unfold mS
        rw [if_neg (by omega)]
        simp [Go.WideShapes.add_plain]
      · rw [List.length_drop] at hj
        rw [List.getElem_drop, ← h3 (x + j) (by omega), Nat.add_assoc]
  · left; exact List.drop_eq_nil_of_le hx

/-- what New tells of its parts -/
def NrP (E : Int) (a : Option Addr) (k c : Nat) (L : List ByteArray) (w : World) : Prop := E = 0 → Rs w a L ∧ L.length = k ∧ k ≤ c
theorem NrP.err {E : Int} {a : Option Addr} {k c : Nat} {L : List ByteArray} {w : World} (h : E ≠ 0) : NrP E a k c L w := fun h0 => absurd h0 h

set_option maxRecDepth 100000 in
set_option maxHeartbeats 4000000 in
theorem rnew_any (s : ByteArray) (w : World) (hs : s.size ≤ 1000) :
    Calls Try.prog 15 #[.string s] w fun e w' => (∃ a k c, e = .returned (.tuple #[.slice a k c, .int .i64 (nwE s)]) ∧ NrP (nwE s) a k c (parts s) w') ∧ Below w.heap.size w w' := by
  by_cases h0 : s.size = 0
  · have hE : nwE s = 30 := by
      unfold nwE
      have : slB s = false := by
        unfold slB
        rw [List.eq_nil_of_length_eq_zero (l := s.data.toList) (by simpa using h0)]; rfl
      rw [if_pos (.inr this)]
    have t1 : decide ((s.size : Int) < 1) = true := by simp; omega
    rw [hE]
    clear h0 hE
    go_enter Try.func15, Try.ntmps15
    go_wp2_with fail
    go_ret2
    exact ⟨⟨_, _, _, rfl, NrP.err (by decide)⟩, Below.refl _ _⟩
  · have t1 : decide ((s.size : Int) < 1) = false := by simp; omega
    by_cases h255 : 255 < s.size
    · have hE : nwE s = 30 := by unfold nwE; rw [if_pos (.inl h255)]
      have t2 : decide ((255 : Int) < (s.size : Int)) = true := by simp; omega
      rw [hE]
      clear h255 hE
      go_enter Try.func15, Try.ntmps15
      go_wp2_with fail
      go_ret2
      exact ⟨⟨_, _, _, rfl, NrP.err (by decide)⟩, Below.refl _ _⟩
    · have t2 : decide ((255 : Int) < (s.size : Int)) = false := by simp; omega
      have hpos : 0 < s.size := by omega
      have hposI : (0 : Int) < (s.size : Int) := by omega
      have hsl : slB s = ((s[0].toNat : Int) == 47) := by
        unfold slB
        obtain ⟨⟨l⟩⟩ := s
        match l, hpos with
        | b :: r, _ =>
          show ((some b) == some (47 : UInt8)) = ((b.toNat : Int) == 47)
          rw [Bool.eq_iff_iff]
          simp only [beq_iff_eq, Option.some.injEq]
          constructor
          · rintro rfl; rfl
          · intro h; exact UInt8.toNat_inj.1 (by have : b.toNat = 47 := by omega
                                                 rw [this]; rfl)
      cases hb : slB s with
      | false =>
        have hE : nwE s = 30 := by unfold nwE; rw [if_pos (.inr hb)]
        rw [hb] at hsl
        have e47 := hsl.symm
        rw [hE]
        clear h255 hE h0 hb hsl
        go_enter Try.func15, Try.ntmps15
        go_wp2_with fail
        go_ret2
        exact ⟨⟨_, _, _, rfl, NrP.err (by decide)⟩, Below.refl _ _⟩
      | true =>
        have hE : nwE s = if 16 < (parts s).length then 30 else if okP (parts s) then 0 else 31 := by unfold nwE; rw [if_neg (by rw [hb]; simp; omega)]
        rw [hb] at hsl
        have e47 := hsl.symm
        have HP := Lib.hid (fun w => refParts_any s w (by omega))
        obtain ⟨E, hEE⟩ : ∃ E, nwE s = E := ⟨_, rfl⟩
        rw [hEE] at hE ⊢
        have HE0 := Lib.hid hE
        clear h255 hE hEE h0 hb hsl
        generalize parts s = L at HP HE0 ⊢
        go_enter Try.func15, Try.ntmps15
        go_wp2_with fail
        refine (HP.out _).mono ?_
        rintro e w2 ⟨⟨A, k, c, rfl, hR, hk, hc⟩, hb⟩
        have HR := Lib.hid hR
        have HK := Lib.hid hk
        have HC := Lib.hid hc
        have HB := Lib.hid hb
        clear hR hc hb
        by_cases h16 : 16 < k
        · have t3 : decide ((16 : Int) < (k : Int)) = true := by simp; omega
          have HE : Hid (E = 30) := Lib.hid (by rw [HE0.out, if_pos (by omega)])
          clear hk h16
          go_wp2_with fail
          go_ret2
          exact ⟨⟨_, _, _, by rw [HE.out]; rfl, NrP.err (by rw [HE.out]; decide)⟩, HB.out⟩
        · have t3 : decide ((16 : Int) < (k : Int)) = false := by simp; omega
          have HE : Hid (E = if okP L then 0 else 31) := Lib.hid (by rw [HE0.out, if_neg (by omega)])
          clear hk
          go_wp2_with fail
          go_loopw [5] (fun i wr => ∃ j : Nat, i = .int .i64 j ∧ j ≤ k ∧ Hid (∀ x ∈ L.take j, (marks (by8 x)).isSome = true) ∧ Hid (Below w.heap.size w wr) ∧ Hid (Below w2.heap.size w2 wr)) (fun i _ => k - (intOf i).toNat)
          case atStart => exact ⟨0, rfl, by omega, Lib.hid (by simp), HB, Lib.hid (Below.refl _ _)⟩
          case round =>
            obtain ⟨j, rfl, hj, hA, hB, hB2⟩ := hrel
            by_cases hlt : j < k
            · have hkl : j < L.length := by have := HK.out; omega
              obtain ⟨-, -, h0 | ⟨b, off, rfl, hcl⟩⟩ := HR.out.below hB2.out
              · rw [h0] at hkl; simp at hkl
              have c1 := hcl j hkl
              have hx : L[j]? = some L[j] := List.getElem?_eq_getElem hkl
              obtain ⟨x, hxe⟩ : ∃ x, L[j] = x := ⟨_, rfl⟩
              rw [hxe] at c1 hx
              have HM := Lib.hid (marks_any x wr)
              have hltI : (j : Int) < (k : Int) := by omega
              rcases hm : marks (by8 x) with _ | m
              · rw [hm] at HM
                simp only [mkV] at HM
                have HN : Hid (E = 31) := Lib.hid (by
                  rw [HE.out, if_neg]
                  rw [Bool.not_eq_true]
                  unfold okP
                  rw [List.all_eq_false]
                  exact ⟨x, List.mem_of_getElem? hx, by rw [hm]; simp⟩)
                clear hm hx hxe hcl hkl
                go_wp2_with fail
                refine HM.out.mono ?_
                rintro e w3 ⟨⟨v, rfl, rfl⟩, hb3⟩
                have HB3 := Lib.hid (gbonq hB.out hb3)
                clear hb3
                go_wp2_with fail
                go_ret2
                exact ⟨⟨_, _, _, by rw [HN.out]; rfl, NrP.err (by rw [HN.out]; decide)⟩, HB3.out⟩
              · rw [hm] at HM
                simp only [mkV] at HM
                have HN : Hid (∀ y ∈ L.take (j + 1), (marks (by8 y)).isSome = true) := Lib.hid (by
                  intro y hy
                  rw [List.take_add_one, hx] at hy
                  rcases List.mem_append.1 hy with q | q
                  · exact hA.out y q
                  · have : y = x := by simpa using q
                    rw [this, hm]; rfl)
                clear hm hx hxe hcl hkl
                go_wp2_with fail
                refine HM.out.mono ?_
                rintro e w3 ⟨⟨v, rfl, A', cap', rfl, -, -⟩, hb3⟩
                have HB3 := Lib.hid (gbonq hB.out hb3)
                have HB32 := Lib.hid (gbonq hB2.out hb3)
                clear hb3
                go_wp2_with fail
                exact ⟨⟨j + 1, by go_num, by omega, HN, HB3, HB32⟩, by simp only [intOf]; omega⟩
            · have hltI : ¬ (j : Int) < (k : Int) := by omega
              have HN : Hid (E = 0) := Lib.hid (by
                rw [HE.out, if_pos]
                unfold okP
                rw [List.all_eq_true]
                intro x hx
                exact hA.out x (by rw [List.take_of_length_le (by have := HK.out; omega)]; exact hx))
              have HRw := Lib.hid (HR.out.below hB2.out)
              go_wp2_with fail
              go_ret2
              exact ⟨⟨_, _, _, by rw [HN.out]; rfl, fun _ => ⟨HRw.out, HK.out, HC.out⟩⟩, hB.out⟩
end Go.Proofs.Ytaielamimkigmaa
