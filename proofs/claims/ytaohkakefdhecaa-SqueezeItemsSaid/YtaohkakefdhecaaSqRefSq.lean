/-
  Runs of bytes, and bytes squeezed: the document's runs and Squeeze. Nothing of one statement alone stands here.
-/
import Derived.Test.YtaohkakefdhecaaSqRefBest
import Derived.Test.YtaohkakefdhecaaSqRuns
import Derived.Deep.RegionLaw
namespace Go.Proofs.Ytaohkakefdhecaa
open Go.RowKit Crcm Sqm Tagm Inom Roomm Go.ChangeShapes

/-- an append of bytes onto a row of the call's own, as one step of a region that draws -/
theorem step8 {ops : Array Oper} {o : Oper} {a : Act} {w : World} {K : Act → World → Prop} {Q : Exit → Act → World → Prop} {E : Prop}
    (hg : o.guard = none) (s x : Operand) (ho : o.op = Op.call { callee := Callee.builtin Builtin.append, args := #[s, x], argTypes := #[22, 22] })
    (base : Nat) (v : Value) (n : Nat) (xs : List Int) (hs : a.eval s = v) (hown : w.ownsRow base 5 1 v n (xs.map (Value.int .u8)))
    (ad : Addr) (m c : Nat) (l : List Int) (hx : a.eval x = .slice (some ad) m c) (hl : l.length = m) (hsrc : Src w (some ad) l) (h63 : n + m ≤ 4000000) (hbase : base ≤ w.heap.size)
    (hK : ∀ v' w', w'.ownsRow base 5 1 v' (n + m) ((xs ++ l).map (Value.int .u8)) → Below base w w' → K (a.put o.dst v') w') :
    if Region.wanted o (yielded ops a.tmps) = true then Oper.wp Try.prog o a w K Q else E := by
  have hw : Region.wanted o (yielded ops a.tmps) = true := by simp [Region.wanted, hg]
  rw [if_pos hw]
  obtain ⟨i0, hi, hz0, hz1, hz2⟩ := info_parts Try.info8
  rcases hsrc with ⟨h, _⟩ | ⟨ad', e, hc⟩
  · cases h
  injection e with e
  subst e
  refine wp_append_own w s x 22 ho base 5 i0 (.int .u8 0) 1 1 Try.underlying22 hi hz0 hz1 hz2 rfl (by decide) v n _ hs hown ad m c (l.map (Value.int .u8)) hx (by simp [hl]) ?_ ?_ (by unfold maxLen; omega) (by omega) hbase ?_
  · intro j u hu
    rw [List.getElem?_map] at hu
    by_cases hj : j < l.length
    · rw [hc j hj]
      simpa [hj] using hu
    · simp [List.getElem?_eq_none (by omega : l.length ≤ j)] at hu
  · intro u hu; obtain ⟨n, -, rfl⟩ := List.mem_map.1 hu; rfl
  · intro v' w' h1 h2 _
    rw [← List.map_append] at h1
    exact hK v' w' h1 ((Below.refl _ _).grown h2 hbase (fun g hg => (hown.lt g hg).1))

set_option maxRecDepth 100000 in
set_option maxHeartbeats 4000000 in
theorem rruns_any (m c : Nat) (a : Option Addr) (l : List Int) (w : World) (hr : Rw w a l) (hl : l.length = m) (hmc : m ≤ c) (hm : m ≤ 65536) :
    Calls Try.prog 22 #[.slice a m c] w fun e w' => (∃ A n cp, e = .returned (.slice A n cp) ∧ w'.ownsRow w.heap.size 5 1 (.slice A n cp) n ((runs l).map (Value.int .u8))) ∧ Below w.heap.size w w' := by
  have HM := Lib.hid hm
  have HL := Lib.hid hl
  have HR := Lib.hid hr
  have HMC := Lib.hid hmc
  have hmI : (m : Int) ≤ 4611686018427380000 := by omega
  clear hm hl hr hmc
  go_enter Try.func22, Try.ntmps22
  go_wp2_with fail
  go_loopw [0, 3] (fun s0 s3 wr => ∃ k M C n : Nat, ∃ A B cp, s0 = .slice A M C ∧ s3 = .slice B n cp ∧ M ≤ C ∧ Hid (M = m - k * 128 ∧ k ≤ nbk m 128) ∧ Hid (Rw w A (l.drop (k * 128))) ∧ Hid (wr.ownsRow w.heap.size 5 1 (.slice B n cp) n ((rn l k).map (Value.int .u8))) ∧ Hid (Below w.heap.size w wr)) (fun s0 _ _ => slen (some s0))
  case atStart => exact ⟨0, m, c, 0, a, none, 0, rfl, rfl, HMC.out, Lib.hid ⟨by omega, Nat.zero_le _⟩, Lib.hid (by simpa using HR.out), Lib.hid (World.ownsRow_nil _ _ _ _), Lib.hid (Below.refl _ _)⟩
  case round =>
    obtain ⟨k, M, C, n, A, B, cp, rfl, rfl, hMC, hMk, hRw, hO, hB⟩ := hrel
    by_cases hM0 : 0 < M
    · have hkn : k < nbk m 128 := (nbk_lt (by omega)).2 (by have := hMk.out.1; omega)
      have hdl : (l.drop (k * 128)).length = M := by rw [List.length_drop, HL.out]; exact hMk.out.1.symm
      obtain ⟨b, off, rfl⟩ := hRw.out.addr (by omega)
      obtain ⟨q, hq⟩ : ∃ q, bln m 128 k = q := ⟨_, rfl⟩
      have hq1 : q = if M < 128 then M else 128 := by rw [← hq]; unfold bln; rw [← hMk.out.1]
      have hqM : q ≤ M := by rw [hq1]; split <;> omega
      have hq128 : q ≤ 128 := by rw [hq1]; split <;> omega
      have hq0 : 1 ≤ q := by rw [hq1]; split <;> omega
      have HRn : Hid (rn l (k + 1) = rn l k ++ [(q : Int) - 1] ++ ck l 128 k) := Lib.hid (by
        rw [rn, HL.out, hq, show ((q - 1 : Nat) : Int) = (q : Int) - 1 by omega]; simp)
      have HCk : Hid ((ck l 128 k).length = q) := Lib.hid (by rw [ck_length HL.out, hq])
      have HSrc : Hid (∀ X, Below w.heap.size w X → Src X (some ⟨b, off, none⟩) (ck l 128 k)) := Lib.hid fun X hX => ((hRw.out.below hX).take 128).src
      have hnn : n = (rn l k).length := by have := hO.out.1; simpa using this.symm
      have hrl := (rn_len (l := l) k (by rw [HL.out]; omega)).1
      have hNb : nbk m 128 ≤ m := by
        unfold nbk
        rw [Nat.div_le_iff_le_mul_add_pred (by omega)]
        omega
      have h4 : n + 129 ≤ 4000000 := by have := HM.out; have := HL.out; omega
      have HNx : Hid (Rw w (if C = q then some ⟨b, off, none⟩ else some ⟨b, off + q, none⟩) (l.drop ((k + 1) * 128))) := Lib.hid (by
        rw [show (k + 1) * 128 = k * 128 + 128 by omega, ← List.drop_drop]
        by_cases h : M ≤ 128
        · rw [List.drop_of_length_le (by omega)]; exact Rw.nil
        · have : q = 128 := by rw [hq1, if_neg (by omega)]
          rw [if_neg (by omega), this]
          exact hRw.out.drop 128 (fun b' o' e _ => by injection e with e; injection e with e1 e2; subst e1 e2; rfl))
      have HMk : Hid (M - q = m - (k + 1) * 128 ∧ k + 1 ≤ nbk m 128) := Lib.hid ⟨by
        have := hMk.out.1
        rw [hq1]
        split <;> omega, hkn⟩
      have hu8 : U8 ((q : Int) - 1) := by unfold U8; omega
      have hMI : (M : Int) ≤ 4611686018427380000 := by have := hMk.out.1; omega
      have hM0I : (0 : Int) < (M : Int) := by omega
      clear hkn hdl hq hnn hrl hNb
      by_cases hbig : (128 : Int) < (M : Int)
      · have hq2 : q = 128 := by rw [hq1, if_neg (by omega)]
        subst hq2
        clear hq1
        have hC1 : (128 : Int) ≤ (C : Int) := by omega
        rw [show (((128 : Nat) : Int) - 1) = 127 by rfl] at HRn hu8
        have ho1 : (wr.alloc (.cells #[.int .u8 (127)] 5)).drew.ownsRow w.heap.size 5 1 (.slice B n cp) n ((rn l k).map (Value.int .u8)) := own_below (hO.out.alloc _) ((Below.refl _ _).drew)
        have hs1 : Src (wr.alloc (.cells #[.int .u8 (127)] 5)).drew (some ⟨wr.heap.size, 0, none⟩) [127] := ((rw_one wr (127) hu8).below ((Below.refl _ _).drew)).src
        have hbw : Below w.heap.size w (wr.alloc (.cells #[.int .u8 (127)] 5)).drew := (hB.out.alloc hB.out.size _).drew
        have HO1 := Lib.hid ho1
        have HS1 := Lib.hid hs1
        have HBW := Lib.hid hbw
        clear ho1 hs1 hbw
        go_wp2_with fail
        go_region_law (first
          | (refine step8 rfl (.tmp 12) (.tmp 16) rfl w.heap.size (.slice B n cp) n (rn l k) (by simp [Act.eval]) HO1.out ⟨wr.heap.size, 0, none⟩ 1 1 [127] (by simp [Act.eval]) rfl HS1.out (by omega) HBW.out.size ?_; intro v2 w2 hown2 hbel2)
          | (refine step8 rfl (.tmp 17) (.tmp 20) rfl w.heap.size v2 (n + 1) (rn l k ++ [127]) (by simp [Act.eval]) (by simpa using hown2) ⟨b, off, none⟩ (128) C (ck l 128 k) (by simp [Act.eval]) HCk.out (HSrc.out _ (HBW.out.trans hbel2)) (by omega) (HBW.out.trans hbel2).size ?_; intro v3 w3 hown3 hbel3))
        all_goals
          obtain ⟨A3, c3, rfl⟩ := own_slice hown3
          have HO3 : Hid (w3.ownsRow w.heap.size 5 1 (.slice A3 (n + 1 + 128) c3) (n + 1 + 128) ((rn l (k + 1)).map (Value.int .u8))) := Lib.hid (by rw [HRn.out]; exact hown3)
          have HB3 := Lib.hid ((HBW.out.trans hbel2).trans hbel3)
          clear hown2 hown3 hbel2 hbel3
          go_wp2
          go_roundw
          case rel => exact ⟨k + 1, M - 128, C - 128, n + 1 + 128, some ⟨b, off + 128, none⟩, A3, c3, rfl, rfl, by omega, HMk, by have h := HNx.out; rw [if_neg (by omega)] at h; exact Lib.hid h, HO3, HB3⟩
          case measure => simp [slen]; omega
      · have hq2 : q = M := by rw [hq1]; split <;> omega
        subst hq2
        clear hq1
        obtain ⟨z, hz⟩ : ∃ z : Nat, (q : Int) - 1 = (z : Int) := ⟨q - 1, by omega⟩
        rw [hz] at HRn hu8
        have ez1 : IntKind.i64.wrap ((q : Int) - 1) = (z : Int) := by rw [IntKind.wrap_i64]; omega
        have ez2 : IntKind.u8.wrap (z : Int) = (z : Int) := by unfold U8 at hu8; rw [IntKind.wrap_u8']; omega
        have hC1 : (q : Int) ≤ (C : Int) := by omega
        clear hz
        have ho1 : (wr.alloc (.cells #[.int .u8 ((z : Int))] 5)).drew.ownsRow w.heap.size 5 1 (.slice B n cp) n ((rn l k).map (Value.int .u8)) := own_below (hO.out.alloc _) ((Below.refl _ _).drew)
        have hs1 : Src (wr.alloc (.cells #[.int .u8 ((z : Int))] 5)).drew (some ⟨wr.heap.size, 0, none⟩) [(z : Int)] := ((rw_one wr ((z : Int)) hu8).below ((Below.refl _ _).drew)).src
        have hbw : Below w.heap.size w (wr.alloc (.cells #[.int .u8 ((z : Int))] 5)).drew := (hB.out.alloc hB.out.size _).drew
        have HO1 := Lib.hid ho1
        have HS1 := Lib.hid hs1
        have HBW := Lib.hid hbw
        clear ho1 hs1 hbw
        go_wp2_with fail
        go_region_law (first
          | (refine step8 rfl (.tmp 12) (.tmp 16) rfl w.heap.size (.slice B n cp) n (rn l k) (by simp [Act.eval]) HO1.out ⟨wr.heap.size, 0, none⟩ 1 1 [(z : Int)] (by simp [Act.eval]) rfl HS1.out (by omega) HBW.out.size ?_; intro v2 w2 hown2 hbel2)
          | (refine step8 rfl (.tmp 17) (.tmp 20) rfl w.heap.size v2 (n + 1) (rn l k ++ [(z : Int)]) (by simp [Act.eval]) (by simpa using hown2) ⟨b, off, none⟩ (q) C (ck l 128 k) (by simp [Act.eval]) HCk.out (HSrc.out _ (HBW.out.trans hbel2)) (by omega) (HBW.out.trans hbel2).size ?_; intro v3 w3 hown3 hbel3))
        all_goals
          obtain ⟨A3, c3, rfl⟩ := own_slice hown3
          have HO3 : Hid (w3.ownsRow w.heap.size 5 1 (.slice A3 (n + 1 + q) c3) (n + 1 + q) ((rn l (k + 1)).map (Value.int .u8))) := Lib.hid (by rw [HRn.out]; exact hown3)
          have HB3 := Lib.hid ((HBW.out.trans hbel2).trans hbel3)
          clear hown2 hown3 hbel2 hbel3
          go_wp2
          go_roundw
          case rel => exact ⟨k + 1, 0, C - q, n + 1 + q, (if C = q then some ⟨b, off, none⟩ else some ⟨b, off + q, none⟩), A3, c3, rfl, rfl, by omega, Lib.hid (by simpa using HMk.out), HNx, HO3, HB3⟩
          case measure => simp [slen]; omega
    · have hM0' : M = 0 := by omega
      subst hM0'
      have HE : Hid (runs l = rn l k) := Lib.hid (by
        unfold runs
        have h1 : ¬ k < nbk l.length 128 := fun h => by
          have := (nbk_lt (L := l.length) (n := 128) (i := k) (by omega)).1 h
          have := hMk.out.1
          have := HL.out
          omega
        have h2 := hMk.out.2
        rw [HL.out] at h1 ⊢
        rw [show nbk m 128 = k by omega])
      go_wp2
      go_ret
      exact ⟨⟨B, n, cp, rfl, by rw [HE.out]; exact hO.out⟩, hB.out⟩
end Go.Proofs.Ytaohkakefdhecaa
