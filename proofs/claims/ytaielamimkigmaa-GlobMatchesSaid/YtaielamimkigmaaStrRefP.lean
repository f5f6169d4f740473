/-
  A text's parts: the document's call Parts. Nothing of one statement alone stands here.
-/
import Derived.Test.YtaielamimkigmaaStrParts
namespace Go.Proofs.Ytaielamimkigmaa
open Go.RowKit Go.ChangeShapes

theorem st_yes {s : ByteArray} {k : Nat} (h : k = s.size ∨ s.data.toList[k]? = some 47) (g : (st s k).2 < k) : st s (k + 1) = ((st s k).1 ++ [s.extract (st s k).2 k], k + 1) := by
  simp only [st]
  rw [if_pos h, if_pos g]
theorem st_on {s : ByteArray} {k : Nat} (h : k = s.size ∨ s.data.toList[k]? = some 47) (g : ¬ (st s k).2 < k) : st s (k + 1) = ((st s k).1, k + 1) := by
  simp only [st]
  rw [if_pos h, if_neg g]
theorem st_no {s : ByteArray} {k : Nat} (h : ¬ (k = s.size ∨ s.data.toList[k]? = some 47)) : st s (k + 1) = st s k := by
  simp only [st]
  rw [if_neg h]
theorem new_cellS {w : World} {cs : Array Value} {t : TypeId} {j : Nat} {v : Value} (h : cs[j]? = some v) : (w.alloc (.cells cs t)).cell? ⟨w.heap.size, j, none⟩ = some v := by
  rw [cell_of_row _ w.heap.size j cs t (0, 0) (heap_alloc_new w _)]
  exact h
theorem byte_at {s : ByteArray} {k : Nat} (hl : k < s.size) (h : s.data.toList[k]? = some 47) : s[k].toNat = 47 := by
  have := (List.getElem?_eq_some_iff.1 h).2
  have e : s[k] = s.data.toList[k]'(by rw [Array.length_toList]; exact hl) := rfl
  rw [e, this]
  rfl
theorem byte_not {s : ByteArray} {k : Nat} (hl : k < s.size) (h : ¬ s.data.toList[k]? = some 47) : ¬ s[k].toNat = 47 := fun g => h (by
  have hl' : k < s.data.toList.length := by rw [Array.length_toList]; exact hl
  rw [List.getElem?_eq_getElem hl']
  have e : s[k] = s.data.toList[k] := rfl
  rw [e] at g
  exact congrArg some (UInt8.toNat_inj.1 (by rw [g]; rfl)))
theorem extract_size (s : ByteArray) (a b : Nat) : (s.extract a b).size ≤ s.size := by
  rw [ByteArray.size_extract]
  omega
theorem st_size (s : ByteArray) (i : Nat) : ∀ x ∈ (st s i).1, x.size ≤ s.size := by
  induction i with
  | zero => intro x hx; cases hx
  | succ i ih =>
    simp only [st]
    split
    · split
      · intro x hx
        rcases List.mem_append.1 hx with g | g
        · exact ih x g
        · rw [List.mem_singleton] at g; subst g; exact extract_size _ _ _
      · exact ih
    · exact ih

set_option maxRecDepth 100000 in
set_option maxHeartbeats 1000000 in
theorem refParts_any (s : ByteArray) (w : World) (hs : s.size ≤ 2000) :
    Calls Try.prog 29 #[.string s] w fun e w' => (∃ a k c, e = .returned (.slice a k c) ∧ Rs w' a (parts s) ∧ (parts s).length = k ∧ k ≤ c) ∧ Below w.heap.size w w' := by
  go_enter Try.func29, Try.ntmps29
  go_wp2_with fail
  go_loopw [3, 4, 5] (fun s3 s4 s5 wr => ∃ k : Nat, k ≤ s.size + 1 ∧ s5 = .int .i64 k ∧ s4 = .int .i64 ((st s k).2 : Nat) ∧ Hid (wr.ownsRow w.heap.size 9 1 s3 (st s k).1.length ((st s k).1.map Value.string)) ∧ Hid (Below w.heap.size w wr)) (fun _ _ s5 _ => s.size + 1 - (intOf s5).toNat)
  case atStart => exact ⟨0, by omega, rfl, rfl, Lib.hid (World.ownsRow_nil _ _ _ _), Lib.hid (Below.refl _ _)⟩
  case round =>
    obtain ⟨k, hk, rfl, rfl, hO, hB⟩ := hrel
    have hfl := st_le s k
    have hfew := st_few s k
    by_cases hlt : k ≤ s.size
    · have tl : decide ((k : Int) ≤ (s.size : Int)) = true := by simp; omega
      have HY := Lib.hid (fun h g => st_yes (s := s) (k := k) h g)
      have HO' := Lib.hid (fun h g => st_on (s := s) (k := k) h g)
      have HNo := Lib.hid (fun h => st_no (s := s) (k := k) h)
      generalize hst : st s k = q at hO hfl hfew HY HO' HNo
      obtain ⟨out, f⟩ := q
      dsimp only at hO hfl hfew HY HO'
      by_cases hsep : k = s.size ∨ s.data.toList[k]? = some 47
      · have hbr : Hid ((k = s.size) ∨ (k < s.size ∧ s.data.toList[k]? = some 47)) := Lib.hid (by
          rcases hsep with h | h
          · exact .inl h
          · by_cases e : k = s.size
            · exact .inl e
            · exact .inr ⟨by omega, h⟩)
        by_cases hf : f < k
        · have HS := Lib.hid (HY.out hsep hf)
          have hbx : Below wr.heap.size wr (wr.alloc (.cells #[.string (s.extract f k)] 9)) := (Below.refl _ _).alloc (Nat.le_refl _) _
          have HBX := Lib.hid (hB.out.trans (hbx.mono hB.out.size))
          have HOX := Lib.hid (own_belowS hO.out hbx)
          have f0 : (0 : Int) ≤ (f : Int) := by omega
          have f1 : (f : Int) ≤ (k : Int) := by omega
          have f2 : (f : Int) < (k : Int) := by omega
          have k1 : (k : Int) ≤ (s.size : Int) := by omega
          clear hbx hsep hst HY HO' HNo
          rcases hbr.out with e | ⟨hl, hb⟩
          · subst e
            go_wp2_with (at_builtin; refine append_text rfl _ _ rfl w.heap.size _ out.length out rfl HOX.out wr.heap.size 1 (s.extract f s.size) rfl (by omega) (new_cellS rfl) HBX.out.size ?_)
            intro v' w2 hown2 hb2
            have HO2 := Lib.hid hown2
            have HB2 := Lib.hid (HBX.out.trans hb2)
            clear hown2 hb2 HOX HBX
            go_wp2
            go_roundw
            case rel => exact ⟨s.size + 1, by omega, by go_num, by rw [HS.out]; rfl, by rw [HS.out]; simpa using HO2, HB2⟩
            case measure => simp [intOf]
          · have te : ((k : Int) == (s.size : Int)) = false := by simp; omega
            have hz := byte_at hl hb
            have z1 : ((s[k].toNat : Int) == 47) = true := by simp; omega
            have kl : (k : Int) < (s.size : Int) := by omega
            have k0 : (0 : Int) ≤ (k : Int) := by omega
            clear hb
            go_wp2_with (at_builtin; refine append_text rfl _ _ rfl w.heap.size _ out.length out rfl HOX.out wr.heap.size 1 (s.extract f k) rfl (by omega) (new_cellS rfl) HBX.out.size ?_)
            intro v' w2 hown2 hb2
            have HO2 := Lib.hid hown2
            have HB2 := Lib.hid (HBX.out.trans hb2)
            clear hown2 hb2 HOX HBX
            go_wp2
            go_roundw
            case rel => exact ⟨k + 1, by omega, by go_num, by rw [HS.out]; rfl, by rw [HS.out]; simpa using HO2, HB2⟩
            case measure => simp [intOf]; omega
        · have HS := Lib.hid (HO'.out hsep hf)
          have f2 : ¬ (f : Int) < (k : Int) := by omega
          have tf : decide ((f : Int) < (k : Int)) = false := decide_eq_false f2
          clear hsep hst HY HO' HNo
          rcases hbr.out with e | ⟨hl, hb⟩
          · subst e
            go_wp2
            go_roundw
            case rel => exact ⟨s.size + 1, by omega, by go_num, by rw [HS.out]; rfl, by rw [HS.out]; exact hO, hB⟩
            case measure => simp [intOf]
          · have te : ((k : Int) == (s.size : Int)) = false := by simp; omega
            have hz := byte_at hl hb
            have z1 : ((s[k].toNat : Int) == 47) = true := by simp; omega
            have kl : (k : Int) < (s.size : Int) := by omega
            have k0 : (0 : Int) ≤ (k : Int) := by omega
            clear hb
            go_wp2
            go_roundw
            case rel => exact ⟨k + 1, by omega, by go_num, by rw [HS.out]; rfl, by rw [HS.out]; exact hO, hB⟩
            case measure => simp [intOf]; omega
      · have HS := Lib.hid (HNo.out hsep)
        have hl : k < s.size := by
          refine Classical.byContradiction fun h => hsep (.inl (by omega))
        have hz := byte_not hl fun h => hsep (.inr h)
        have te : ((k : Int) == (s.size : Int)) = false := by simp; omega
        have z1 : ((s[k].toNat : Int) == 47) = false := by simp; omega
        have kl : (k : Int) < (s.size : Int) := by omega
        have k0 : (0 : Int) ≤ (k : Int) := by omega
        clear hst HY HO' HNo hsep
        go_wp2
        go_roundw
        case rel => exact ⟨k + 1, by omega, by go_num, by rw [HS.out], by rw [HS.out]; exact hO, hB⟩
        case measure => simp [intOf]; omega
    · have hks : k = s.size + 1 := by omega
      subst hks
      have tl : decide (((s.size + 1 : Nat) : Int) ≤ (s.size : Int)) = false := by simp; omega
      obtain ⟨a, c, rfl, hrs, hlen, hc⟩ := own_rs hO.out (fun x hx => by have := st_size s (s.size + 1) x hx; unfold maxLen; omega)
      have HRs := Lib.hid hrs
      clear hrs hlen hfl hfew
      go_wp2
      go_ret
      exact ⟨⟨a, _, c, rfl, HRs.out, rfl, hc⟩, hB.out⟩
end Go.Proofs.Ytaielamimkigmaa
