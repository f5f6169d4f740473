/-
  The translation: where a page stands now. Nothing of one statement alone stands here.
-/
import Derived.Test.YtbfifppdcmimaaaGreatFtB
import Derived.Test.YtbfifppdcmimaaaGreatFtMap
namespace Go.Proofs.YtbfifppdcmimaaaGreat
open Go.RowKit Crcm Go.ChangeShapes

/-- a place of the chip, as it lies in memory -/
def pv (p : Int × Int) : Value := .agg #[.int .i64 p.1, .int .i64 p.2]
/-- places by pages, as a map in memory -/
def plM (q : Int → Option (Int × Int)) (k : Int) : Option Value := (q k).map pv
/-- a set of pages, as a map in memory -/
def drM (d : Int → Bool) (k : Int) : Option Value := if d k = true then some (.agg #[]) else none
/-- where a page stands now -/
def thP (wr se : Int → Option (Int × Int)) (d : Int → Bool) (k : Int) : Option (Int × Int) :=
  if (wr k).isSome = true then wr k else if d k = true then none else se k
theorem zeroPl (w : World) : (zeroValue 47).run Tryz.prog w = .ok (pv (0, 0)) w := by kernel_rfl
theorem zeroDr (w : World) : (zeroValue 102).run Tryz.prog w = .ok (.agg #[]) w := by kernel_rfl
theorem look_pl {w : World} {b n : Nat} {q : Int → Option (Int × Int)} (h : MpAt w b (plM q) n) {k : Int} (hk : 0 ≤ k ∧ k < 4294967296) :
    (Instr.lookup 51 (.map (some b)) (.int .u32 k) true).run Tryz.prog w = .ok (.tuple #[pv ((q k).getD (0, 0)), .bool (q k).isSome]) w := by
  have h1 := h.lookup Tryz.underlying51 zeroPl hk
  rw [h1]
  unfold lkV plM
  cases q k <;> rfl
theorem look_dr {w : World} {b n : Nat} {d : Int → Bool} (h : MpAt w b (drM d) n) {k : Int} (hk : 0 ≤ k ∧ k < 4294967296) :
    (Instr.lookup 52 (.map (some b)) (.int .u32 k) true).run Tryz.prog w = .ok (.tuple #[.agg #[], .bool (d k)]) w := by
  have h1 := h.lookup Tryz.underlying52 zeroDr hk
  rw [h1]
  unfold lkV drM
  cases d k <;> rfl

set_option maxRecDepth 100000 in
theorem fthere_any {w : World} {o : Own} {M : Value} {res bad cap : Int} {ap st : Bool} {tx : Value} {x1 x2 x3 : Nat} {seq ep : Int} {x4 x5 nb : Nat} {fl : Value} {bg : Bool} {bk : Int} {F n1 n2 n3 : Nat}
    {se wr : Int → Option (Int × Int)} {d : Int → Bool}
    (hF : Blk w F 58 (ftC o M res bad cap ap st tx x1 x2 x3 seq ep x4 x5 nb fl bg bk))
    (hM1 : MpAt w x1 (plM se) n1) (hM2 : MpAt w x2 (plM wr) n2) (hM3 : MpAt w x3 (drM d) n3) {k : Int} (hk : 0 ≤ k ∧ k < 4294967296) :
    Calls Tryz.prog 19 #[.pointer (some ⟨F, 0, none⟩), .int .u32 k] w fun e w' => e = .returned (.tuple #[pv ((thP wr se d k).getD (0, 0)), .bool (thP wr se d k).isSome]) ∧ Below w.heap.size w w' := by
  have HA : Hid (∀ W, Below w.heap.size w W → (W.cell? ⟨F, 8, none⟩ = some (.map (some x1)) ∧ W.cell? ⟨F, 9, none⟩ = some (.map (some x2)) ∧ W.cell? ⟨F, 10, none⟩ = some (.map (some x3))) ∧
      (Instr.lookup 51 (.map (some x1)) (.int .u32 k) true).run Tryz.prog W = .ok (.tuple #[.agg #[.int .i64 ((se k).getD (0, 0)).1, .int .i64 ((se k).getD (0, 0)).2], .bool (se k).isSome]) W ∧
      (Instr.lookup 51 (.map (some x2)) (.int .u32 k) true).run Tryz.prog W = .ok (.tuple #[.agg #[.int .i64 ((wr k).getD (0, 0)).1, .int .i64 ((wr k).getD (0, 0)).2], .bool (wr k).isSome]) W ∧
      (Instr.lookup 52 (.map (some x3)) (.int .u32 k) true).run Tryz.prog W = .ok (.tuple #[.agg #[], .bool (d k)]) W) := Lib.hid fun W hB => by
    have h := hF.below hB hF.lt
    exact ⟨⟨h.cell 8, h.cell 9, h.cell 10⟩, look_pl (hM1.below hB) hk, look_pl (hM2.below hB) hk, look_dr (hM3.below hB) hk⟩
  clear hM1 hM2 hM3 hF
  unfold thP
  have HL : Hid (∀ W A, Below w.heap.size w W → Below w.heap.size w (W.alloc A)) := Lib.hid fun W A h => h.alloc h.size A
  have hB1 : Below w.heap.size w (w.alloc (.cells #[.int .i64 0, .int .i64 0] 47)) := (Below.refl w.heap.size w).alloc (Nat.le_refl _) _
  have hB2 := hB1.alloc hB1.size (.cells #[.int .i64 0, .int .i64 0] 47)
  have hB3 := hB2.alloc hB2.size (.cells #[] 102)
  have hB4 := hB3.alloc hB3.size (.cells #[.int .i64 0, .int .i64 0] 47)
  obtain ⟨⟨c8, c9, c10⟩, q1, q2, q3⟩ := HA.out _ hB1
  obtain ⟨⟨d8, d9, d10⟩, r1, r2, r3⟩ := HA.out _ hB2
  obtain ⟨⟨e8, e9, e10⟩, s1, s2, s3⟩ := HA.out _ hB3
  obtain ⟨⟨f8, f9, f10⟩, u1, u2, u3⟩ := HA.out _ hB4
  clear hB1 hB2 hB3 hB4
  rcases e2 : wr k with _ | p
  · rw [e2] at q2
    cases e3 : d k
    · rw [e3] at q3 r3 s3 u3
      generalize se k = sk at q1 r1 s1 u1 ⊢
      rcases sk with _ | ⟨y1, y2⟩
      · go_enter Tryz.func19, Tryz.ntmps19
        go_wp2
        exact bodyPost_ret (v := .tuple #[pv (0, 0), .bool false]) (by simp [results, Tryz.results19, go_sem, pv]) rfl ⟨rfl, by repeat (first | exact Below.refl _ _ | refine HL.out _ _ ?_)⟩
      · go_enter Tryz.func19, Tryz.ntmps19
        go_wp2
        exact bodyPost_ret (v := .tuple #[pv (y1, y2), .bool true]) (by simp [results, Tryz.results19, go_sem, pv]) rfl ⟨rfl, by repeat (first | exact Below.refl _ _ | refine HL.out _ _ ?_)⟩
    · rw [e3] at q3 r3 s3 u3
      go_enter Tryz.func19, Tryz.ntmps19
      go_wp2
      exact bodyPost_ret (v := .tuple #[pv (0, 0), .bool false]) (by simp [results, Tryz.results19, go_sem, pv]) rfl ⟨rfl, by repeat (first | exact Below.refl _ _ | refine HL.out _ _ ?_)⟩
  · rw [e2] at q2
    go_enter Tryz.func19, Tryz.ntmps19
    go_wp2
    exact bodyPost_ret (v := .tuple #[pv p, .bool true]) (by simp [results, Tryz.results19, go_sem, pv]) rfl ⟨rfl, by repeat (first | exact Below.refl _ _ | refine HL.out _ _ ?_)⟩
end Go.Proofs.YtbfifppdcmimaaaGreat
