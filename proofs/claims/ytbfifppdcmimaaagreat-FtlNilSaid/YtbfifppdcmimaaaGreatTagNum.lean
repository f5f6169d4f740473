/-
  Numbers in bytes, the least one first, as the program and the document write and read them; bytes held against one another.
-/
import Derived.Test.YtbfifppdcmimaaaGreatTagPut
import Derived.Maps.AppendAt
import Derived.Lib.Bytes
namespace Tagm
open Go Crcm
theorem or_low (x b : Int) (i : Nat) (hx : 0 ≤ x ∧ x < 256 ^ i) (hb : U8 b) (hi : i < 8) : bits .or .u64 x (IntKind.u64.wrap (b * 2 ^ (8 * i))) = x + 256 ^ i * b := by
  obtain ⟨b0, b1⟩ := hb
  obtain ⟨x0, x1⟩ := hx
  have e256 : (256 : Int) ^ i = 2 ^ (8 * i) := by rw [Int.pow_mul]; rfl
  have hp : (2 : Int) ^ (8 * i) ≤ 2 ^ 56 := by
    have : (2 : Nat) ^ (8 * i) ≤ 2 ^ 56 := Nat.pow_le_pow_right (by decide) (by omega)
    have h2 : ((2 ^ (8 * i) : Nat) : Int) ≤ ((2 ^ 56 : Nat) : Int) := by omega
    simpa using h2
  have hp0 : (0 : Int) < 2 ^ (8 * i) := Int.pow_pos (by decide)
  have hm : b * 2 ^ (8 * i) ≤ 255 * 2 ^ 56 := Int.mul_le_mul (by omega) hp (by omega) (by decide)
  have hm0 : 0 ≤ b * 2 ^ (8 * i) := Int.mul_nonneg b0 (by omega)
  have hw : IntKind.u64.wrap (b * 2 ^ (8 * i)) = b * 2 ^ (8 * i) := by rw [IntKind.wrap_u64]; omega
  have hx64 : x < 18446744073709551616 := by rw [e256] at x1; omega
  rw [hw, u64_or x _ x0 hx64 hm0 (by omega)]
  obtain ⟨n, rfl⟩ := Int.eq_ofNat_of_zero_le x0
  obtain ⟨m, rfl⟩ := Int.eq_ofNat_of_zero_le b0
  have hn : n < 2 ^ (8 * i) := by
    rw [e256] at x1
    have : ((n : Nat) : Int) < ((2 ^ (8 * i) : Nat) : Int) := by simpa using x1
    omega
  have e1 : (((m : Int) * 2 ^ (8 * i)).toNat) = m * 2 ^ (8 * i) := by
    have : ((m : Int) * 2 ^ (8 * i)) = ((m * 2 ^ (8 * i) : Nat) : Int) := by simp
    rw [this, Int.toNat_natCast]
  rw [e1, Int.toNat_natCast]
  have h2 := Nat.two_pow_add_eq_or_of_lt hn m
  rw [Nat.or_comm, Nat.mul_comm m, ← h2, e256]
  simp
  omega
end Tagm
namespace Go.Proofs.YtbfifppdcmimaaaGreat
open Go.RowKit Crcm Tagm Go.ChangeShapes

theorem take_s {l : List Int} {k : Nat} (h : k < l.length) : l.take (k + 1) = l.take k ++ [l[k]] := List.take_succ_eq_append_getElem h
theorem U8.get {l : List Int} (h : ∀ n ∈ l, U8 n) {k : Nat} (hk : k < l.length) : U8 l[k] := h _ (List.getElem_mem hk)

set_option maxRecDepth 100000 in
set_option maxHeartbeats 400000 in
theorem number_any (a : Option Addr) (cap : Nat) (l : List Int) (w : World) (hr : Rw w a l) (h8 : l.length ≤ 8) :
    Calls Tryz.prog 53 #[.slice a l.length cap] w fun e w' => e = .returned (.int .u64 (nu l)) ∧ w = w' := by
  obtain ⟨hz, hm, hc⟩ := hr
  clear hm
  go_enter Tryz.func53, Tryz.ntmps53
  go_wp2_with fail
  go_loop [3, 7] (fun t i => ∃ k : Nat, ∃ n : Int, k ≤ l.length ∧ i = .int .i64 k ∧ t = .int .u64 n ∧ Hid (n = nu (l.take k))) (fun _ i => l.length - (intOf i).toNat)
  case atStart => exact ⟨0, 0, by omega, rfl, rfl, Lib.hid rfl⟩
  case round =>
    obtain ⟨k, n, hk, rfl, rfl, hv⟩ := hrel
    by_cases hlt : k < l.length
    · rcases hc with rfl | ⟨b, off, rfl, hc⟩
      · simp at hlt
      have hcell := hc k hlt
      have hb8 : U8 l[k] := U8.get hz hlt
      have hB := Lib.hid hb8
      obtain ⟨b0, b1⟩ := hb8
      have hbd := Lib.hid (nu_bd (l.take k) fun b hb => hz b (List.mem_of_mem_take hb))
      have h8k : k < 8 := by omega
      clear hc
      go_wp2
      go_round
      case rel =>
        refine ⟨k + 1, _, by omega, by go_num, rfl, Lib.hid ?_⟩
        have hb := hbd.out
        rw [List.length_take, Nat.min_eq_left hk, ← hv.out] at hb
        rw [take_s hlt, nu_snoc, List.length_take, Nat.min_eq_left hk, ← hv.out, ← or_low n l[k] k hb hB.out h8k]
      case measure => simp [intOf]; omega
    · go_wp2
      go_ret
      exact ⟨ret_u64 (by rw [hv.out, List.take_of_length_le (by omega)]), rfl⟩

theorem U64.div {m : Int} (h : U64 m) : U64 (m / 256) := by obtain ⟨a, b⟩ := h; exact ⟨by omega, by omega⟩
theorem le_take (x : Int) (k : Nat) (m : Int) (h : m = x / 256 ^ k) : le (k + 1) x = le k x ++ [m % 256] := by rw [le_snoc, h]
theorem div_next (x : Int) (k : Nat) (m : Int) (h : m = x / 256 ^ k) : m / 256 = x / 256 ^ (k + 1) := by
  rw [h, Int.pow_succ, Int.ediv_ediv_of_nonneg (Int.le_of_lt (Int.pow_pos (by decide)))]

set_option maxRecDepth 100000 in
set_option maxHeartbeats 400000 in
theorem putn_any (base : Nat) (v : Value) (n0 : Nat) (xs : List Int) (x : Int) (n : Nat) (w : World) (hx : U64 x) (hn : n ≤ 8) (hn0 : n0 ≤ 3000) (hown : w.ownsRow base 5 1 v n0 (xs.map (Value.int .u8))) (hbase : base ≤ w.heap.size) :
    Calls Tryz.prog 74 #[v, .int .u64 x, .int .i64 n] w fun e w' => ∃ v', e = .returned v' ∧ w'.ownsRow base 5 1 v' (n0 + n) ((xs ++ le n x).map (Value.int .u8)) ∧ Below base w w' := by
  obtain ⟨i0, hi, hz0, hz1, hz2⟩ := info_parts Tryz.info8
  have H0 := Lib.hid hown
  clear hown
  go_enter Tryz.func74, Tryz.ntmps74
  go_wp2_with fail
  go_loopw [0, 1, 8] (fun v x' i wr => ∃ k : Nat, ∃ m : Int, k ≤ n ∧ U64 m ∧ i = .int .i64 k ∧ x' = .int .u64 m ∧ Hid (m = x / 256 ^ k) ∧ Hid (wr.ownsRow base 5 1 v (n0 + k) ((xs ++ le k x).map (Value.int .u8))) ∧ Below base w wr) (fun _ _ i _ => n - (intOf i).toNat)
  case atStart => exact ⟨0, x, by omega, hx, rfl, rfl, Lib.hid (by simp), Lib.hid (by simpa [le] using H0.out), Below.refl _ _⟩
  case round =>
    obtain ⟨k, m, hk, hm, rfl, rfl, hv, hO, hbel⟩ := hrel
    by_cases hlt : k < n
    · have hm0 := hm.1
      have hs := hbel.size
      have hown := hO.out
      clear hO
      go_wp2_with (at_builtin; refine wpList_append_own _ rfl _ _ 23 rfl base 5 i0 (.int .u8 0) 1 1 Tryz.underlying23 hi hz0 hz1 hz2 rfl (by decide) _ _ _ rfl (hown.alloc _) ⟨wr.heap.size, 0, none⟩ 1 1 [.int .u8 (m % 256)] rfl rfl ?c1 ?c2 ?c3 ?c4 ?c5 ?_)
      case c1 => exact cell_one_new _ _ _
      case c2 => intro u hu; simp at hu; subst hu; rfl
      case c3 => unfold maxLen; omega
      case c4 => omega
      case c5 => simp; omega
      intro v' w1 hown1 hgrow _
      have hb1 : Below base w w1 := (hbel.alloc (by omega) _).grown hgrow (by simp; omega) (fun g hg => (hown.lt g hg).1)
      have hH := Lib.hid hown1
      clear hown1 hgrow hown
      go_wp2
      go_roundw
      case rel =>
        have hown1 := hH.out
        refine ⟨k + 1, m / 256, by omega, hm.div, by go_num, rfl, Lib.hid (div_next x k m hv.out), Lib.hid ?_, hb1⟩
        have e : (xs ++ le (k + 1) x).map (Value.int .u8) = (xs ++ le k x).map (Value.int .u8) ++ [Value.int .u8 (m % 256)] := by
          rw [le_take x k m hv.out, ← List.append_assoc, List.map_append]; rfl
        rw [e, ← Nat.add_assoc]
        simpa using hown1
      case measure => simp [intOf]; omega
    · have hkn : k = n := by omega
      subst hkn
      go_wp2
      go_ret
      exact ⟨_, rfl, hO.out, hbel⟩

theorem quo64 {m : Int} (h : U64 m) : IntKind.u64.wrap (m.tdiv 256) = m / 256 := by
  obtain ⟨h0, h1⟩ := h
  rw [IntKind.wrap_u64, Int.tdiv_eq_ediv_of_nonneg h0]
  omega

theorem nu_drop {l : List Int} {k : Nat} (h : k < l.length) : nu (l.drop k) = l[k] + 256 * nu (l.drop (k + 1)) := by
  rw [List.drop_eq_getElem_cons h, nu]
theorem nu_le8 {l : List Int} (h : ∀ b ∈ l, U8 b) (h8 : l.length ≤ 8) : U64 (nu l) := by
  obtain ⟨a, b⟩ := nu_bd l h
  have : (256 : Int) ^ l.length ≤ 256 ^ 8 := by
    have h1 : (256 : Nat) ^ l.length ≤ 256 ^ 8 := Nat.pow_le_pow_right (by decide) h8
    have h2 : ((256 ^ l.length : Nat) : Int) ≤ ((256 ^ 8 : Nat) : Int) := by omega
    simpa using h2
  exact ⟨a, by omega⟩

theorem strOf_inj {l m : List Int} (hl : ∀ n ∈ l, U8 n) (hm : ∀ n ∈ m, U8 n) : ((strOfNums l).toList == (strOfNums m).toList) = decide (l = m) := by
  rw [Lib.strOfNums_toList, Lib.strOfNums_toList, Bool.eq_iff_iff, beq_iff_eq, decide_eq_true_iff]
  constructor
  · intro h
    have : ∀ (l m : List Int), (∀ n ∈ l, U8 n) → (∀ n ∈ m, U8 n) → Lib.bytesOf l = Lib.bytesOf m → l = m := by
      intro l
      induction l with
      | nil => intro m _ _ h; cases m with | nil => rfl | cons _ _ => simp [Lib.bytesOf] at h
      | cons a l ih =>
        intro m hl hm h
        cases m with
        | nil => simp [Lib.bytesOf] at h
        | cons b m =>
          simp only [Lib.bytesOf, List.map_cons, List.cons.injEq] at h
          obtain ⟨a0, a1⟩ := hl a (by simp)
          obtain ⟨b0, b1⟩ := hm b (by simp)
          have h1 : a.toNat % 256 = b.toNat % 256 := by
            have := congrArg UInt8.toNat h.1
            simpa using this
          rw [show a = b by omega, ih m (fun n hn => hl n (by simp [hn])) (fun n hn => hm n (by simp [hn])) h.2]
    exact this l m hl hm h
  · rintro rfl; rfl

theorem equal_any (a b : Option Addr) (c d : Nat) (n k : Nat) (l m : List Int) (w : World) (hl : Rw w a l) (hm : Rw w b m) (en : l.length = n) (ek : m.length = k) :
    Calls Tryz.prog 55 #[.slice a n c, .slice b k d] w fun e w' => e = .returned (.bool (decide (l = m))) ∧ w = w' := by
  have h1 := hl.text n c en
  have h2 := hm.text k d ek
  have H := Lib.hid (strOf_inj hl.1 hm.1)
  clear hl hm en ek
  go_enter Tryz.func55, Tryz.ntmps55
  go_wp2
  go_ret
  exact ⟨ret_bool H.out, rfl⟩

/-- all of the first k bytes are 255 -/
def er (l : List Int) (k : Nat) : Bool := (l.take k).all (· == 255)
theorem er_succ {l : List Int} {k : Nat} (h : k < l.length) : er l (k + 1) = (er l k && l[k] == 255) := by
  unfold er
  rw [List.take_succ_eq_append_getElem h, List.all_append]
  simp
theorem er_Er (l : List Int) : er l l.length = decide (Er l) := by
  unfold er
  rw [Bool.eq_iff_iff, List.take_length, List.all_eq_true]
  simp only [decide_eq_true_iff]
  constructor
  · intro h b hb; simpa using h b hb
  · intro h b hb; simpa using h b hb
theorem er_no {l : List Int} {k : Nat} (h : k < l.length) (h2 : (l[k] == 255) = false) : decide (Er l) = false := by
  rw [decide_eq_false_iff_not]
  intro g
  have := g l[k] (List.getElem_mem h)
  simp [this] at h2

set_option maxHeartbeats 400000 in
theorem erased_any (a : Option Addr) (cap : Nat) (l : List Int) (w : World) (hr : Rw w a l) :
    Calls Tryz.prog 51 #[.slice a l.length cap] w fun e w' => e = .returned (.bool (decide (Er l))) ∧ w = w' := by
  obtain ⟨hz, hm, hc⟩ := hr
  unfold maxLen at hm
  go_enter Tryz.func51, Tryz.ntmps51
  go_wp2_with fail
  go_loop [7] (fun i => ∃ k : Nat, k ≤ l.length ∧ i = .int .i64 k ∧ Hid (er l k = true)) (fun i => l.length - (intOf i).toNat)
  case atStart => exact ⟨0, by omega, rfl, Lib.hid rfl⟩
  case round =>
    obtain ⟨k, hk, rfl, hv⟩ := hrel
    by_cases hlt : k < l.length
    · rcases hc with rfl | ⟨b, off, rfl, hc⟩
      · simp at hlt
      have hcell := hc k hlt
      clear hc
      by_cases h255 : l[k] = 255
      · have hS := Lib.hid (er_succ hlt)
        have hE := Lib.hid h255
        have g : (l[k] != 255) = false := by simp [h255]
        clear h255
        go_wp2
        go_round
        case rel => exact ⟨k + 1, by omega, by go_num, Lib.hid (by rw [hS.out, hv.out, hE.out]; rfl)⟩
        case measure => simp [intOf]; omega
      · have g : (l[k] != 255) = true := by simp [h255]
        have hN := Lib.hid (er_no hlt (by simp [h255]))
        clear h255
        go_wp2
        go_ret
        exact ⟨ret_bool (by rw [hN.out]), rfl⟩
    · have hkl : k = l.length := by omega
      subst hkl
      go_wp2
      go_ret
      exact ⟨ret_bool (by rw [← er_Er, hv.out]), rfl⟩

end Go.Proofs.YtbfifppdcmimaaaGreat
