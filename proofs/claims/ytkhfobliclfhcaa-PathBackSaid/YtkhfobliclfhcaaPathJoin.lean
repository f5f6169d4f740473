/-
  Names joined: the program's call Join and the document's. Nothing of one statement alone stands here.
-/
import Derived.Test.YtkhfobliclfhcaaPathJoinM
import Derived.Test.YtkhfobliclfhcaaShelfJoin
import Derived.Test.YtkhfobliclfhcaaPathSize
import Derived.Laws.Concat
namespace Go.Proofs.Ytkhfobliclfhcaa
open Go.RowKit Go.ChangeShapes

theorem all_take {l : List ByteArray} (h : ∀ j (hj : j < l.length), j < l.length → Nm l[j]) : ∀ x ∈ l, Nm x := fun x hx => by
  obtain ⟨j, hj, rfl⟩ := List.mem_iff_getElem.1 hx
  exact h j hj hj

set_option maxRecDepth 100000 in
set_option maxHeartbeats 1000000 in
theorem join_any (l : List ByteArray) (a : Option Addr) (c n : Nat) (w : World) (ha : Rs w a l) (hl : l.length = n) (hc : n ≤ c) :
    Calls Try.prog 11 #[.slice a n c] w fun e w' => e = .returned (.tuple #[.string (joinS l), .int .i64 (joinE l)]) ∧ Below w.heap.size w w' := by
  have hm1 := ha.2.1
  unfold maxLen at hm1
  have n1 : n ≤ 9223372036854775807 := by omega
  have HA := Lib.hid ha.2.2
  have HL := Lib.hid hl
  have HC := Lib.hid hc
  clear ha hl hm1 hc
  go_enter Try.func11, Try.ntmps11
  go_wp2_with fail
  go_loop [5, 8] (fun _ i => ∃ k : Nat, k ≤ n ∧ i = .int .i64 k ∧ Hid (∀ j (hj : j < l.length), j < k → Nm l[j])) (fun _ i => n - (intOf i).toNat)
  case atStart => exact ⟨0, by omega, rfl, Lib.hid fun j _ g => absurd g (Nat.not_lt_zero _)⟩
  case round =>
    obtain ⟨k, hk, rfl, hN⟩ := hrel
    by_cases hlt : k < n
    · have hkl : k < l.length := by have := HL.out; omega
      rcases HA.out with rfl | ⟨b1, o1, rfl, h1⟩
      · simp at hkl
      have c1 := h1 k hkl
      have HY : Hid (Nm l[k] → ∀ j (hj : j < l.length), j < k + 1 → Nm l[j]) := Lib.hid fun g j hj h => by
        by_cases e : j = k
        · subst e; exact g
        · exact hN.out j hj (by omega)
      have HX : Hid (¬ Nm l[k] → joinE l = 31) := Lib.hid fun g => joinE_not fun h => g (h _ (List.getElem_mem hkl))
      generalize l[k] = x at c1 HY HX
      have HNm := Lib.hid (fun W => name_any x W)
      have kl : (k : Int) < (n : Int) := by omega
      clear h1 hkl
      by_cases hn : Nm x
      · rw [nm_yes hn] at HNm
        have HY' := Lib.hid (HY.out hn)
        clear HY HX hn
        go_wp2_with fail
        refine (HNm.out _).mono ?_
        rintro _ w' ⟨rfl, rfl⟩
        go_wp2
        go_round
        case rel => exact ⟨k + 1, by omega, by go_num, HY'⟩
        case measure => simp [intOf]; omega
      · rw [nm_no hn] at HNm
        have HX' := Lib.hid (HX.out hn)
        clear HY HX hn
        go_wp2_with fail
        refine (HNm.out _).mono ?_
        rintro _ w' ⟨rfl, rfl⟩
        go_wp2
        go_ret2
        exact ⟨by rw [joinS_not (by rw [HX'.out]; decide), HX'.out]; rfl, Below.refl _ _⟩
    · have hkn : k = n := by omega
      subst hkn
      have hall : ∀ x ∈ l, Nm x := all_take fun j hj h => hN.out j hj (by have := HL.out; omega)
      by_cases h16 : 16 < k
      · have HX' := Lib.hid (joinE_many hall (by have := HL.out; omega))
        have t16 : decide ((16 : Int) < (k : Int)) = true := by simp; omega
        clear hall
        go_wp2
        go_ret2
        exact ⟨by rw [joinS_not (by rw [HX'.out]; decide), HX'.out]; rfl, Below.refl _ _⟩
      · have HX' := Lib.hid (joinE_yes hall (by have := HL.out; omega))
        have t16 : decide ((16 : Int) < (k : Int)) = false := by simp; omega
        by_cases h0 : l = []
        · have k0 : k = 0 := by have := HL.out; rw [h0] at this; simpa using this.symm
          subst k0
          have HS := Lib.hid (joinS_none h0)
          have HJ := Lib.hid (fun W => Try.strings_Join_none a c ⟨#[47]⟩ W)
          have hadd := fun W => run_string_add_sum (P := Try.prog) W ⟨#[47]⟩ ⟨#[]⟩ (by decide)
          clear hall h0
          go_wp2_with fail
          refine (HJ.out _).mono ?_
          rintro _ w' ⟨rfl, rfl⟩
          go_wp2
          go_ret2
          exact ⟨by rw [HS.out, HX'.out]; rfl, Below.refl _ _⟩
        · rcases HA.out with h | ⟨b1, o1, rfl, h1⟩
          · exact absurd h h0
          have hlen : (jl l).length ≤ 14 * l.length := jl_len fun x hx => (hall x hx).1.2
          have HS := Lib.hid (joinS_some HX'.out h0)
          obtain ⟨x, r, hxr⟩ : ∃ x r, l = x :: r := by
            cases l with
            | nil => exact absurd rfl h0
            | cons x r => exact ⟨x, r, rfl⟩
          have hjl : (Lib.join (l.map (·.data.toList)) [47]).length + 1 = (jl l).length := by rw [hxr, ← join_jl, List.length_cons]
          have HJn : Hid ((⟨#[47]⟩ : ByteArray) ++ ⟨(Lib.join (l.map (·.data.toList)) [47]).toArray⟩ = jn l) := Lib.hid (by rw [hxr]; exact jn_join x r)
          have hl16 : l.length ≤ 16 := by have := HL.out; omega
          have hb1 : b1 < w.heap.size := by
            have hpos : 0 < l.length := by rw [hxr]; simp
            have := block_lt_of_cell (h1 0 hpos)
            exact this
          have HJ := Lib.hid (Try.strings_Join b1 o1 c l ⟨#[47]⟩ w (fun j x hx => by
            obtain ⟨hj, e⟩ := List.getElem?_eq_some_iff.1 hx
            rw [← e]; exact h1 j hj) hb1 (by omega) (by have := HC.out; have := HL.out; omega) (by show (Lib.join (l.map (·.data.toList)) [47]).length ≤ _; omega))
          rw [HL.out] at HJ
          have hadd := fun W => run_string_add_sum (P := Try.prog) W ⟨#[47]⟩ ⟨(Lib.join (l.map (·.data.toList)) [47]).toArray⟩ (by
            have e1 : (⟨(Lib.join (l.map (·.data.toList)) [47]).toArray⟩ : ByteArray).size = (Lib.join (l.map (·.data.toList)) [47]).length := by simp [ByteArray.size]
            rw [e1]; show 1 + _ ≤ _; omega)
          rw [HJn.out] at hadd
          clear hall h0 h1 hlen hjl hxr HA hb1
          go_wp2_with fail
          refine (HJ.out).mono ?_
          rintro _ w' ⟨rfl, hb⟩
          have HB := Lib.hid hb
          clear hb
          go_wp2
          go_ret2
          exact ⟨by rw [HS.out, HX'.out]; rfl, HB.out⟩

set_option maxRecDepth 100000 in
set_option maxHeartbeats 1000000 in
theorem refJoin_any (l : List ByteArray) (a : Option Addr) (c n : Nat) (w : World) (ha : Rs w a l) (hl : l.length = n) (hf : Few l) :
    Calls Try.prog 12 #[.slice a n c] w fun e w' => e = .returned (.tuple #[.string (joinS l), .int .i64 (joinE l)]) ∧ w = w' := by
  have hm1 := ha.2.1
  unfold maxLen at hm1
  have n1 : n ≤ 9223372036854775807 := by omega
  have HA := Lib.hid ha.2.2
  have HL := Lib.hid hl
  have HF := Lib.hid hf
  clear ha hl hm1 hf
  go_enter Try.func12, Try.ntmps12
  go_wp2_with fail
  go_loop [4, 5] (fun o i => ∃ k : Nat, k ≤ n ∧ o = .string (jn (l.take k)) ∧ i = .int .i64 k ∧ Hid (∀ j (hj : j < l.length), j < k → Nm l[j])) (fun _ i => n - (intOf i).toNat)
  case atStart => exact ⟨0, by omega, rfl, rfl, Lib.hid fun j _ g => absurd g (Nat.not_lt_zero _)⟩
  case round =>
    obtain ⟨k, hk, rfl, rfl, hN⟩ := hrel
    by_cases hlt : k < n
    · have hkl : k < l.length := by have := HL.out; omega
      rcases HA.out with rfl | ⟨b1, o1, rfl, h1⟩
      · simp at hkl
      have c1 := h1 k hkl
      have HY : Hid (Nm l[k] → ∀ j (hj : j < l.length), j < k + 1 → Nm l[j]) := Lib.hid fun g j hj h => by
        by_cases e : j = k
        · subst e; exact g
        · exact hN.out j hj (by omega)
      have HX : Hid (¬ Nm l[k] → joinE l = 31) := Lib.hid fun g => joinE_not fun h => g (h _ (List.getElem_mem hkl))
      have hts : l.take (k + 1) = l.take k ++ [l[k]] := by rw [List.take_add_one, List.getElem?_eq_getElem hkl]; rfl
      have hz : (jl (l.take k)).length ≤ 14 * (l.take k).length := jl_len fun x hx => by
        obtain ⟨j, hj, rfl⟩ := List.mem_iff_getElem.1 hx
        rw [List.length_take] at hj
        rw [List.getElem_take]
        exact (hN.out j (by omega) (by omega)).1.2
      rw [List.length_take] at hz
      have hk9 : k ≤ 901 := HF.out k (by omega) fun j hj g => (hN.out j hj g).1.2
      have HM := Lib.hid (jn_more (l.take k) l[k])
      rw [← hts] at HM
      have HT := Lib.hid hts
      generalize l[k] = x at c1 HY HX HM
      have HNm := Lib.hid (fun W => name_any x W)
      have HNr := Lib.hid (fun W => refName_any x W)
      have kl : (k : Int) < (n : Int) := by omega
      have k0 : (0 : Int) ≤ (k : Int) := by omega
      clear h1 hts HT
      by_cases hn : Nm x
      · have hx13 := hn.1.2
        rw [nm_yes hn] at HNr
        have HY' := Lib.hid (HY.out hn)
        have hA1 := fun W => run_string_add_sum (P := Try.prog) W (jn (l.take k)) ⟨#[47]⟩ (by rw [jn_size]; show _ + 1 ≤ _; omega)
        have hA2 := fun W => run_string_add_sum (P := Try.prog) W (jn (l.take k) ++ ⟨#[47]⟩) x (by rw [ByteArray.size_append, jn_size]; show _ + 1 + _ ≤ _; omega)
        rw [HM.out] at hA2
        clear HY HX hn hz hkl
        go_wp2_with fail
        refine (HNr.out _).mono ?_
        rintro _ w' ⟨rfl, rfl⟩
        go_wp2
        go_round
        case rel => exact ⟨k + 1, by omega, rfl, by go_num, HY'⟩
        case measure => simp [intOf]; omega
      · rw [nm_no hn] at HNr
        have HX' := Lib.hid (HX.out hn)
        clear HY HX hn hz hkl
        go_wp2_with fail
        refine (HNr.out _).mono ?_
        rintro _ w' ⟨rfl, rfl⟩
        go_wp2
        go_ret2
        exact ⟨by rw [joinS_not (by rw [HX'.out]; decide), HX'.out]; rfl, rfl⟩
    · have hkn : k = n := by omega
      subst hkn
      have hall : ∀ x ∈ l, Nm x := all_take fun j hj h => hN.out j hj (by have := HL.out; omega)
      by_cases h16 : 16 < k
      · have HX' := Lib.hid (joinE_many hall (by have := HL.out; omega))
        have t16 : decide ((16 : Int) < (k : Int)) = true := by simp; omega
        clear hall
        go_wp2
        go_ret2
        exact ⟨by rw [joinS_not (by rw [HX'.out]; decide), HX'.out]; rfl, rfl⟩
      · have HX' := Lib.hid (joinE_yes hall (by have := HL.out; omega))
        have t16 : decide ((16 : Int) < (k : Int)) = false := by simp; omega
        by_cases h0 : l = []
        · have k0 : k = 0 := by have := HL.out; rw [h0] at this; simpa using this.symm
          subst k0
          have HS := Lib.hid (joinS_none h0)
          clear hall h0
          go_wp2
          go_ret2
          exact ⟨by rw [HS.out, HX'.out]; rfl, rfl⟩
        · have k0 : ((k : Int) == 0) = false := beq_eq_false_iff_ne.2 fun e => h0 (List.eq_nil_of_length_eq_zero (by have := HL.out; omega))
          have HS := Lib.hid (joinS_some HX'.out h0)
          have HT : Hid (l.take k = l) := Lib.hid (List.take_of_length_le (by have := HL.out; omega))
          clear hall h0
          go_wp2
          go_ret2
          exact ⟨by rw [HS.out, HX'.out, HT.out]; rfl, rfl⟩
end Go.Proofs.Ytkhfobliclfhcaa
