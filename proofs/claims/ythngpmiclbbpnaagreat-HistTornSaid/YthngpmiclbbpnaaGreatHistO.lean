/-
  The law's own calls: operations as the program's.
-/
import Derived.Test.YthngpmiclbbpnaaGreatHistK
namespace Go.Proofs.YthngpmiclbbpnaaGreat
open Go.RowKit Crcm Tagm Go.ChangeShapes

theorem Tryz.infoHo : (Tryz.prog.info? 41).map (fun i => (i.size, i.bytes, i.zero.map (fun z => z.cells.size))) = some (7, 88, some 7) := by kernel_rfl
theorem infoHo_parts : ∃ i z, Tryz.prog.info? 41 = some i ∧ i.zero = some z ∧ i.size = 7 ∧ i.bytes = 88 ∧ z.cells.size = 7 := by
  have h := Tryz.infoHo
  cases hi : Tryz.prog.info? 41 with
  | none => rw [hi] at h; cases h
  | some i =>
    rw [hi] at h
    simp only [Option.map_some, Option.some.injEq, Prod.mk.injEq] at h
    obtain ⟨h1, h2, h3⟩ := h
    cases hz : i.zero with
    | none => rw [hz] at h3; cases h3
    | some z =>
      rw [hz] at h3
      simp only [Option.map_some, Option.some.injEq] at h3
      exact ⟨i, z, rfl, hz, h1, h2, h3⟩
/-- an operation's cells as a row -/
def h7 (o : Ho) (A : Option Addr) (c : Nat) : List Value := [.int .i64 o.kind, .string o.path, .string o.to, .int .i64 o.handle, .int .i64 o.n, .int .i64 o.off, .slice A o.b.length c]
/-- so many operations' cells -/
def HL (w : World) (xs : List Value) (L : List Ho) (k : Nat) : Prop := xs.length = k * 7 ∧ ∀ j, j < k → ∃ A c, (∀ i, i < 7 → xs[j * 7 + i]? = (h7 L[j]! A c)[i]?) ∧ L[j]!.b.length ≤ c ∧ Rw w A L[j]!.b
theorem HL.next {w : World} {xs : List Value} {L : List Ho} {k : Nat} (h : HL w xs L k) {A : Option Addr} {c : Nat} (hc : L[k]!.b.length ≤ c) (hr : Rw w A L[k]!.b) : HL w (xs ++ h7 L[k]! A c) L (k + 1) := by
  obtain ⟨h1, h2⟩ := h
  refine ⟨by rw [List.length_append, h1]; simp [h7]; omega, fun j hj => ?_⟩
  by_cases e : j = k
  · subst e
    exact ⟨A, c, fun i hi => by rw [List.getElem?_append_right (by omega)]; congr 1; omega, hc, hr⟩
  · obtain ⟨A', c', g1, g2, g3⟩ := h2 j (by omega)
    exact ⟨A', c', fun i hi => by rw [List.getElem?_append_left (by omega)]; exact g1 i hi, g2, g3⟩
theorem HL.hr {w w' : World} {g n cap base : Nat} {xs : List Value} {L : List Ho} (h : HL w xs L n) (ho : w'.ownsRow base 41 7 (.slice (some ⟨g, 0, none⟩) n cap) n xs) (hb : Below w.heap.size w w') (hn : L.length = n) : HR w' (some ⟨g, 0, none⟩) L := by
  refine .inr ⟨g, 0, rfl, fun j hj => ?_⟩
  obtain ⟨A, c, g1, g2, g3⟩ := h.2 j (by omega)
  have hc : ∀ i, i < 7 → w'.cell? ⟨g, 0 + j * 7 + i, none⟩ = (h7 L[j]! A c)[i]? := fun i hi => by
    rw [Nat.zero_add, ho.cellAt (j * 7 + i) (by omega)]
    exact g1 i hi
  exact ⟨hc 0 (by omega), hc 1 (by omega), hc 2 (by omega), hc 3 (by omega), hc 4 (by omega), hc 5 (by omega), A, c, hc 6 (by omega), g2, g3.below hb⟩

theorem own_belowH {w w' : World} {base k e sz : Nat} {v : Value} {xs : List Value} (h : w.ownsRow base e sz v k xs) (hb : Below w.heap.size w w') : w'.ownsRow base e sz v k xs :=
  h.kept (row := none) ⟨hb.os, hb.tape, hb.output, hb.size, fun k hk _ => hb.block k hk⟩ (by cases v.ownBlock <;> simp)

set_option maxRecDepth 100000 in
set_option maxHeartbeats 2000000 in
theorem owns_any (a : Option Addr) (n c : Nat) (L : List Ho) (w : World) (h : HR w a L) (hn : L.length = n) (hn2 : n ≤ 1000000) :
    Calls Tryz.prog 7 #[.slice a n c] w fun e w' => (∃ a' cap, e = .returned (.slice a' n cap) ∧ HR w' a' L) ∧ Below w.heap.size w w' := by
  obtain ⟨i0, z0, hi, hz0, hz1, hz2, hz3⟩ := infoHo_parts
  have HH := Lib.hid h
  have HN := Lib.hid hn
  have n9 : n ≤ 9223372036854775807 := by omega
  clear h hn
  go_enter Tryz.func7, Tryz.ntmps7
  go_wp2_with fail
  go_loopw [3, 4] (fun v i wr => ∃ k : Nat, k ≤ n ∧ i = .int .i64 k ∧ Hid (∃ xs, wr.ownsRow w.heap.size 41 7 v k xs ∧ HL w xs L k) ∧ Hid (Below w.heap.size w wr)) (fun _ i _ => n - (intOf i).toNat)
  case atStart => exact ⟨0, Nat.zero_le _, rfl, Lib.hid ⟨[], World.ownsRow_nil .., rfl, fun j hj => absurd hj (Nat.not_lt_zero _)⟩, Lib.hid (Below.refl _ _)⟩
  case round =>
    obtain ⟨k, hkn, rfl, hO, hB⟩ := hrel
    by_cases hlt : k < n
    · have kl : (k : Int) < (n : Int) := by omega
      have k0 : (0 : Int) ≤ (k : Int) := by omega
      have hkl : k < L.length := by rw [HN.out]; exact hlt
      obtain ⟨b, off, A, cc, rfl, ⟨h0, h1, h2, h3, h4, h5, h6⟩, hc6, hr6⟩ := HH.out.both hB.out hkl
      obtain ⟨xs, ho, hl⟩ := hO.out
      have HNx := Lib.hid (hl.next hc6 hr6)
      have HO := Lib.hid ho
      generalize L[k]! = o at h0 h1 h2 h3 h4 h5 h6 HNx
      have HOn := Lib.hid (fun W => own_any o A cc o.b.length W)
      clear hr6 hkl hc6 ho hl hO
      go_wp2_with fail
      refine (HOn.out _).mono ?_
      rintro e w2 ⟨rfl, hb2⟩
      have HB2 := Lib.hid (hB.out.trans (hb2.mono hB.out.size))
      have HO2 := Lib.hid (own_belowH HO.out hb2)
      clear hb2 HO hB h0 h1 h2 h3 h4 h5 h6
      go_wp2_with (at_builtin; refine wpList_append_own_at _ rfl _ _ 29 rfl w.heap.size 41 i0 z0 7 88 Tryz.underlying29 hi hz0 hz1 hz2 hz3 (by omega) _ _ _ rfl (HO2.out.alloc _) ⟨w2.heap.size, 0, none⟩ 1 1 (h7 o A cc) rfl rfl ?c1 ?c2 ?c3 ?c4 ?c5 ?_)
      case c1 =>
        intro j u hu
        rw [Addr.add_lit, Nat.zero_add]
        have := (Blk.new w2 41 (h7 o A cc).toArray).cell j
        rw [List.getElem?_toArray, hu] at this
        exact this
      case c2 =>
        intro u hu
        simp only [h7, List.mem_cons, List.not_mem_nil, or_false] at hu
        rcases hu with rfl | rfl | rfl | rfl | rfl | rfl | rfl <;> rfl
      case c3 => unfold maxLen; omega
      case c4 => omega
      case c5 => rw [World.size_alloc]; have := HB2.out.size; omega
      intro v3 w3 ho3 hg3 _ _
      have HB3 : Hid (Below w.heap.size w w3) := Lib.hid ((HB2.out.alloc HB2.out.size _).grown hg3 (by rw [World.size_alloc]; have := HB2.out.size; omega) (fun b e => (HO2.out.lt b e).1))
      have HO3 : Hid (∃ xs, w3.ownsRow w.heap.size 41 7 v3 (k + 1) xs ∧ HL w xs L (k + 1)) := Lib.hid ⟨_, ho3, HNx.out⟩
      clear ho3 hg3 HO2 HB2 HNx
      go_wp2
      go_roundw
      case rel => exact ⟨k + 1, by omega, by go_num, HO3, HB3⟩
      case measure => simp [intOf]; omega
    · have kl : ¬ (k : Int) < (n : Int) := by omega
      have hkn2 : k = n := by omega
      subst hkn2
      obtain ⟨xs, ho, hl⟩ := hO.out
      have HEnd : Hid (∃ a' cap, u3 = .slice a' k cap ∧ HR wr a' L) := Lib.hid (by
        rcases ho.2 with ⟨h0, h1⟩ | ⟨g, cap, cur, h0, -⟩
        · exact ⟨none, 0, by rw [h0, h1], .inl (List.eq_nil_of_length_eq_zero (by rw [HN.out]; exact h1))⟩
        · refine ⟨_, cap, h0, ?_⟩
          rw [h0] at ho
          exact hl.hr ho hB.out HN.out)
      clear hO ho hl
      obtain ⟨a', cap, rfl, hr⟩ := HEnd.out
      have HR' := Lib.hid hr
      clear hr
      go_wp2
      go_ret
      exact ⟨⟨a', ⟨cap, rfl⟩, HR'.out⟩, hB.out⟩

end Go.Proofs.YthngpmiclbbpnaaGreat
