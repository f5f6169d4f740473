/-
  The pieces of a part: the program's reading.
-/
import Derived.Test.YtaielamimkigmaaGlobSect
namespace Go.Proofs.Ytaielamimkigmaa
open Go.RowKit Go.ChangeShapes Globm Go.ChangeMaps

/-- a piece, as a value -/
def gpc (x : Mk Nat) : Array Value := #[.bool x.run, sw (ps x) 0, sw (ps x) 1, sw (ps x) 2, sw (ps x) 3]
def zs5 : Array Value := #[.bool false, .int .u64 0, .int .u64 0, .int .u64 0, .int .u64 0]
theorem Blk.put5 {w : World} {g : Nat} {t : TypeId} {a b c d e : Value} (h : Blk w g t #[a, b, c, d, e]) (v0 v1 v2 v3 v4 : Value) :
    Blk (((((w.setCell ⟨g, 0, none⟩ v0).setCell ⟨g, 1, none⟩ v1).setCell ⟨g, 2, none⟩ v2).setCell ⟨g, 3, none⟩ v3).setCell ⟨g, 4, none⟩ v4) g t #[v0, v1, v2, v3, v4] := by
  have h0 := ((((h.put 0 v0).put 1 v1).put 2 v2).put 3 v3).put 4 v4
  simpa using h0
theorem below_put5 {n g : Nat} {w w' : World} (h : Below n w w') (hg : n ≤ g) (v0 v1 v2 v3 v4 : Value) :
    Below n w (((((w'.setCell ⟨g, 0, none⟩ v0).setCell ⟨g, 1, none⟩ v1).setCell ⟨g, 2, none⟩ v2).setCell ⟨g, 3, none⟩ v3).setCell ⟨g, 4, none⟩ v4) :=
  ((((h.setCell (p := ⟨g, 0, none⟩) hg v0).setCell (p := ⟨g, 1, none⟩) hg v1).setCell (p := ⟨g, 2, none⟩) hg v2).setCell (p := ⟨g, 3, none⟩) hg v3).setCell (p := ⟨g, 4, none⟩) hg v4
theorem cells5 {w : World} {g : Nat} {t : TypeId} {a b c d e : Value} (h : Blk w g t #[a, b, c, d, e]) :
    w.cell? ⟨g, 0, none⟩ = some a ∧ w.cell? ⟨g, 1, none⟩ = some b ∧ w.cell? ⟨g, 2, none⟩ = some c ∧ w.cell? ⟨g, 3, none⟩ = some d ∧ w.cell? ⟨g, 4, none⟩ = some e ∧
    w.frozen? ⟨g, 0, none⟩ = false ∧ w.frozen? ⟨g, 1, none⟩ = false ∧ w.frozen? ⟨g, 2, none⟩ = false ∧ w.frozen? ⟨g, 3, none⟩ = false ∧ w.frozen? ⟨g, 4, none⟩ = false :=
  ⟨h.cell 0, h.cell 1, h.cell 2, h.cell 3, h.cell 4, h.frozen 0, h.frozen 1, h.frozen 2, h.frozen 3, h.frozen 4⟩
/-- what the program hands back of a first piece -/
def frV : Option (Mk Nat × List Nat) → Value → Prop
  | none, v => v = .tuple #[.agg zs5, .string ⟨#[]⟩, .bool false]
  | some (x, r), v => ∃ t : ByteArray, by8 t = r ∧ v = .tuple #[.agg (gpc x), .string t, .bool true]
theorem ps_zero : gpc (.many : Mk Nat) = #[.bool true, .int .u64 0, .int .u64 0, .int .u64 0, .int .u64 0] := by
  obtain ⟨h0, h1, h2, h3⟩ := wj_empty.2 (fun x (_ : x < 256) => (rfl : (fun _ : Nat => false) x = false))
  simp [gpc, sw, ps, Mk.run, h0, h1, h2, h3]

set_option maxRecDepth 100000 in
set_option maxHeartbeats 4000000 in
theorem first_any (s : ByteArray) (w : World) (h1 : 1 ≤ s.size) (hs : s.size ≤ 1000) :
    Calls Try.prog 41 #[.string s] w fun e w' => (∃ v, e = .returned v ∧ frV (fst1 (by8 s)) v) ∧ Below w.heap.size w w' := by
  have ha := by8_drop (s := s) (k := 0) h1
  rw [List.drop_zero] at ha
  have hfrom := by8_from s 1
  have hm : s[0].toNat < 256 := UInt8.toNat_lt _
  have i0 : (0 : Int) < (s.size : Int) := by omega
  have i1 : (1 : Int) ≤ (s.size : Int) := by omega
  obtain ⟨t, ht⟩ : ∃ t, s.extract 1 s.size = t := ⟨_, rfl⟩
  have htz : t.size ≤ 1000 := by rw [← ht]; simp; omega
  rw [ht] at hfrom
  have HS := Lib.hid (fun W => span_any s[0].toNat s[0].toNat hm hm W)
  have HA := Lib.hid (fun W => span_any 0 255 (by decide) (by decide) W)
  have HM := Lib.hid (fun W => members_any t W htz)
  have HT := Lib.hid ht
  have i2 : 0 < s.size := h1
  rw [ha, fst1_cons, ← hfrom]
  clear ha ht hm hs htz
  by_cases h42 : s[0].toNat = 42
  · have t1 : ((s[0].toNat : Int) == 42) = true := by rw [h42]; rfl
    rw [if_pos h42]
    clear h42
    go_enter Try.func41, Try.ntmps41
    go_wp2_with fail
    go_region
    have B0 : Blk (w.alloc (.cells zs5 75)).drew w.heap.size 75 zs5 := (Blk.new w _ _).drew
    have B1 : Below w.heap.size w (w.alloc (.cells zs5 75)).drew := ((Below.refl _ w).alloc (Nat.le_refl _) _).drew
    unfold zs5 at B0 B1
    have k5 := (Blk.new w 75 #[.bool true, .int .u64 0, .int .u64 0, .int .u64 0, .int .u64 0]).drew
    have KB : Hid (Below w.heap.size w (w.alloc (.cells #[.bool true, .int .u64 0, .int .u64 0, .int .u64 0, .int .u64 0] 75)).drew) := Lib.hid ((Below.refl _ w).alloc (Nat.le_refl _) _).drew
    obtain ⟨k0, k1, k2, k3, k4, -, -, -, -, -⟩ := cells5 k5
    obtain ⟨e0, e1, e2, e3, e4, f0, f1, f2, f3, f4⟩ := cells5 B0
    have HP := Lib.hid ps_zero
    clear B0 k5 B1
    go_wp2_with fail
    exact bodyPost_ret (v := .tuple #[.agg #[.bool true, .int .u64 0, .int .u64 0, .int .u64 0, .int .u64 0], .string (s.extract 1 s.size), .bool true]) (by simp [results, Try.results41, go_sem, k0, k1, k2, k3, k4]) rfl ⟨⟨_, rfl, t, rfl, by rw [HP.out, HT.out]⟩, KB.out⟩
  · have t1 : ((s[0].toNat : Int) == 42) = false := by simp; omega
    rw [if_neg h42]
    clear h42
    by_cases h63 : s[0].toNat = 63
    · have t2 : ((s[0].toNat : Int) == 63) = true := by rw [h63]; rfl
      rw [if_pos h63]
      clear h63
      go_enter Try.func41, Try.ntmps41
      go_wp2_with fail
      go_region
      have B0 : Blk (w.alloc (.cells zs5 75)).drew w.heap.size 75 zs5 := (Blk.new w _ _).drew
      have B1 : Below w.heap.size w (w.alloc (.cells zs5 75)).drew := ((Below.refl _ w).alloc (Nat.le_refl _) _).drew
      unfold zs5 at B0 B1
      go_wp2_with fail
      refine (HA.out _).mono ?_
      rintro e w2 ⟨rfl, hb2⟩
      unfold sv sw
      have c0 := B0.below hb2 B0.lt
      have c1 := B1.trans (hb2.mono B1.size)
      obtain ⟨A0, hA0⟩ : ∃ A0, (wj (spn 0 255) 0 : Nat) = A0 := ⟨_, rfl⟩
      obtain ⟨A1, hA1⟩ : ∃ A1, (wj (spn 0 255) 1 : Nat) = A1 := ⟨_, rfl⟩
      obtain ⟨A2, hA2⟩ : ∃ A2, (wj (spn 0 255) 2 : Nat) = A2 := ⟨_, rfl⟩
      obtain ⟨A3, hA3⟩ : ∃ A3, (wj (spn 0 255) 3 : Nat) = A3 := ⟨_, rfl⟩
      have HP : Hid (gpc (.one (spn 0 255)) = #[.bool false, .int .u64 A0, .int .u64 A1, .int .u64 A2, .int .u64 A3]) := Lib.hid (by rw [← hA0, ← hA1, ← hA2, ← hA3]; rfl)
      rw [hA0, hA1, hA2, hA3]
      have b5 := c0.put5 (.bool false) (.int .u64 A0) (.int .u64 A1) (.int .u64 A2) (.int .u64 A3)
      have KB := Lib.hid (below_put5 c1 (Nat.le_refl _) (.bool false) (.int .u64 A0) (.int .u64 A1) (.int .u64 A2) (.int .u64 A3))
      obtain ⟨k0, k1, k2, k3, k4, -, -, -, -, -⟩ := cells5 b5
      obtain ⟨e0, e1, e2, e3, e4, f0, f1, f2, f3, f4⟩ := cells5 c0
      clear B0 b5 B1 c0 c1 hb2 hA0 hA1 hA2 hA3
      go_wp2_with fail
      exact bodyPost_ret (v := .tuple #[.agg #[.bool false, .int .u64 A0, .int .u64 A1, .int .u64 A2, .int .u64 A3], .string (s.extract 1 s.size), .bool true]) (by simp [results, Try.results41, go_sem, k0, k1, k2, k3, k4]) rfl ⟨⟨_, rfl, t, rfl, by rw [HT.out]; exact congrArg (fun q => Value.tuple #[.agg q, .string t, .bool true]) HP.out.symm⟩, KB.out⟩
    · have t2 : ((s[0].toNat : Int) == 63) = false := by simp; omega
      rw [if_neg h63]
      clear h63
      by_cases h91 : s[0].toNat = 91
      · have t3 : ((s[0].toNat : Int) == 91) = true := by rw [h91]; rfl
        rw [if_pos h91]
        clear h91
        go_enter Try.func41, Try.ntmps41
        go_wp2_with fail
        go_region
        have B0 : Blk (w.alloc (.cells zs5 75)).drew w.heap.size 75 zs5 := (Blk.new w _ _).drew
        have B1 : Below w.heap.size w (w.alloc (.cells zs5 75)).drew := ((Below.refl _ w).alloc (Nat.le_refl _) _).drew
        unfold zs5 at B0 B1
        go_wp2_with fail
        rw [HT.out]
        refine (HM.out _).mono ?_
        rintro e w2 ⟨⟨v, rfl, hv⟩, hb2⟩
        have c0 := B0.below hb2 B0.lt
        have c1 := B1.trans (hb2.mono B1.size)
        rcases hsec : sect (by8 t) with _ | ⟨P, r⟩
        · rw [hsec] at hv
          unfold secV zs4 at hv
          subst hv
          have HP : Hid (frV (Option.map (fun x : (Nat → Bool) × List Nat => ((.one x.1 : Mk Nat), x.2)) (sect (by8 t))) (.tuple #[.agg #[.bool false, .int .u64 0, .int .u64 0, .int .u64 0, .int .u64 0], .string ⟨#[]⟩, .bool false])) := Lib.hid (by rw [hsec]; rfl)
          have c2 := c0.alloc (.cells #[.int .u64 0, .int .u64 0, .int .u64 0, .int .u64 0] 73)
          have c3 := c1.alloc c1.size (.cells #[.int .u64 0, .int .u64 0, .int .u64 0, .int .u64 0] 73)
          have b5 := c2.put5 (.bool false) (.int .u64 0) (.int .u64 0) (.int .u64 0) (.int .u64 0)
          have KB := Lib.hid (below_put5 c3 (Nat.le_refl _) (.bool false) (.int .u64 0) (.int .u64 0) (.int .u64 0) (.int .u64 0))
          obtain ⟨k0, k1, k2, k3, k4, -, -, -, -, -⟩ := cells5 b5
          obtain ⟨e0, e1, e2, e3, e4, f0, f1, f2, f3, f4⟩ := cells5 c2
          have z := Blk.new w2 73 #[.int .u64 0, .int .u64 0, .int .u64 0, .int .u64 0]
          obtain ⟨z0, z1, z2, z3, -, -, -, -⟩ := cells4 z
          clear B0 b5 B1 c0 c1 c2 c3 hb2 z
          go_wp2_with fail
          exact bodyPost_ret (v := .tuple #[.agg #[.bool false, .int .u64 0, .int .u64 0, .int .u64 0, .int .u64 0], .string ⟨#[]⟩, .bool false]) (by simp [results, Try.results41, go_sem, k0, k1, k2, k3, k4]) rfl ⟨⟨_, rfl, HP.out⟩, KB.out⟩
        · rw [hsec] at hv
          obtain ⟨t2', ht2, rfl⟩ := hv
          unfold sv sw
          have HR := Lib.hid ht2
          clear ht2
          have HP : Hid (frV (Option.map (fun x : (Nat → Bool) × List Nat => ((.one x.1 : Mk Nat), x.2)) (sect (by8 t))) (.tuple #[.agg #[.bool false, .int .u64 (wj P 0 : Nat), .int .u64 (wj P 1 : Nat), .int .u64 (wj P 2 : Nat), .int .u64 (wj P 3 : Nat)], .string t2', .bool true])) := Lib.hid (by rw [hsec]; exact ⟨t2', HR.out, rfl⟩)
          have c2 := c0.alloc (.cells #[.int .u64 (wj P 0 : Nat), .int .u64 (wj P 1 : Nat), .int .u64 (wj P 2 : Nat), .int .u64 (wj P 3 : Nat)] 73)
          have c3 := c1.alloc c1.size (.cells #[.int .u64 (wj P 0 : Nat), .int .u64 (wj P 1 : Nat), .int .u64 (wj P 2 : Nat), .int .u64 (wj P 3 : Nat)] 73)
          have b5 := c2.put5 (.bool false) (.int .u64 (wj P 0 : Nat)) (.int .u64 (wj P 1 : Nat)) (.int .u64 (wj P 2 : Nat)) (.int .u64 (wj P 3 : Nat))
          have KB := Lib.hid (below_put5 c3 (Nat.le_refl _) (.bool false) (.int .u64 (wj P 0 : Nat)) (.int .u64 (wj P 1 : Nat)) (.int .u64 (wj P 2 : Nat)) (.int .u64 (wj P 3 : Nat)))
          obtain ⟨k0, k1, k2, k3, k4, -, -, -, -, -⟩ := cells5 b5
          obtain ⟨e0, e1, e2, e3, e4, f0, f1, f2, f3, f4⟩ := cells5 c2
          have z := Blk.new w2 73 #[.int .u64 (wj P 0 : Nat), .int .u64 (wj P 1 : Nat), .int .u64 (wj P 2 : Nat), .int .u64 (wj P 3 : Nat)]
          obtain ⟨z0, z1, z2, z3, -, -, -, -⟩ := cells4 z
          clear B0 b5 B1 c0 c1 c2 c3 hb2 z
          go_wp2_with fail
          exact bodyPost_ret (v := .tuple #[.agg #[.bool false, .int .u64 (wj P 0 : Nat), .int .u64 (wj P 1 : Nat), .int .u64 (wj P 2 : Nat), .int .u64 (wj P 3 : Nat)], .string t2', .bool true]) (by simp [results, Try.results41, go_sem, k0, k1, k2, k3, k4]) rfl ⟨⟨_, rfl, HP.out⟩, KB.out⟩
      · have t3 : ((s[0].toNat : Int) == 91) = false := by simp; omega
        rw [if_neg h91]
        clear h91
        go_enter Try.func41, Try.ntmps41
        go_wp2_with fail
        go_region
        have B0 : Blk (w.alloc (.cells zs5 75)).drew w.heap.size 75 zs5 := (Blk.new w _ _).drew
        have B1 : Below w.heap.size w (w.alloc (.cells zs5 75)).drew := ((Below.refl _ w).alloc (Nat.le_refl _) _).drew
        unfold zs5 at B0 B1
        go_wp2_with fail
        refine (HS.out _).mono ?_
        rintro e w2 ⟨rfl, hb2⟩
        unfold sv sw
        have c0 := B0.below hb2 B0.lt
        have c1 := B1.trans (hb2.mono B1.size)
        obtain ⟨A0, hA0⟩ : ∃ A0, (wj (spn s[0].toNat s[0].toNat) 0 : Nat) = A0 := ⟨_, rfl⟩
        obtain ⟨A1, hA1⟩ : ∃ A1, (wj (spn s[0].toNat s[0].toNat) 1 : Nat) = A1 := ⟨_, rfl⟩
        obtain ⟨A2, hA2⟩ : ∃ A2, (wj (spn s[0].toNat s[0].toNat) 2 : Nat) = A2 := ⟨_, rfl⟩
        obtain ⟨A3, hA3⟩ : ∃ A3, (wj (spn s[0].toNat s[0].toNat) 3 : Nat) = A3 := ⟨_, rfl⟩
        have HP : Hid (gpc (.one (spn s[0].toNat s[0].toNat)) = #[.bool false, .int .u64 A0, .int .u64 A1, .int .u64 A2, .int .u64 A3]) := Lib.hid (by rw [← hA0, ← hA1, ← hA2, ← hA3]; rfl)
        rw [hA0, hA1, hA2, hA3]
        have b5 := c0.put5 (.bool false) (.int .u64 A0) (.int .u64 A1) (.int .u64 A2) (.int .u64 A3)
        have KB := Lib.hid (below_put5 c1 (Nat.le_refl _) (.bool false) (.int .u64 A0) (.int .u64 A1) (.int .u64 A2) (.int .u64 A3))
        obtain ⟨k0, k1, k2, k3, k4, -, -, -, -, -⟩ := cells5 b5
        obtain ⟨e0, e1, e2, e3, e4, f0, f1, f2, f3, f4⟩ := cells5 c0
        clear B0 b5 B1 c0 c1 hb2 hA0 hA1 hA2 hA3
        go_wp2_with fail
        exact bodyPost_ret (v := .tuple #[.agg #[.bool false, .int .u64 A0, .int .u64 A1, .int .u64 A2, .int .u64 A3], .string (s.extract 1 s.size), .bool true]) (by simp [results, Try.results41, go_sem, k0, k1, k2, k3, k4]) rfl ⟨⟨_, rfl, t, rfl, by rw [HT.out]; exact congrArg (fun q => Value.tuple #[.agg q, .string t, .bool true]) HP.out.symm⟩, KB.out⟩
end Go.Proofs.Ytaielamimkigmaa
