/-
  Numbers in bytes as inode writes and reads them (int, not uint64); pointers' bounds; what is laid over a row of the call's own; a copy of bytes that came in.
-/
import Derived.Test.YtladgfonkolpmaaInoKnown
import Derived.Test.YtladgfonkolpmaaTagNum
import Derived.Laws.CopyOwn
import Derived.Laws.BitsAllLaws
import Derived.WalkSpells
import Derived.IntWalk
namespace Inom
open Go Crcm Tagm
theorem i64_or_nat (a b : Nat) (ha : a < 4611686018427387904) (hb : b < 4611686018427387904) : bits .or .i64 (a : Int) (b : Int) = ((a ||| b : Nat) : Int) := by
  have hx : a ||| b < 2 ^ 62 := Nat.or_lt_two_pow (by omega) (by omega)
  show IntKind.i64.wrap ((BitVec.ofInt 64 (a : Int) ||| BitVec.ofInt 64 (b : Int)).toNat : Int) = _
  rw [BitVec.toNat_or, ofInt_u64 a (by omega), ofInt_u64 b (by omega), IntKind.wrap_i64]
  omega
theorem ior_low (x b : Int) (i : Nat) (hx : 0 ≤ x ∧ x < 256 ^ i) (hb : U8 b) (hi : i < 4) : bits .or .i64 x (IntKind.i64.wrap (b * 2 ^ (8 * i))) = x + 256 ^ i * b := by
  obtain ⟨b0, b1⟩ := hb
  obtain ⟨x0, x1⟩ := hx
  have e256 : (256 : Int) ^ i = 2 ^ (8 * i) := by rw [Int.pow_mul]; rfl
  have hp : (2 : Int) ^ (8 * i) ≤ 2 ^ 24 := by
    have : (2 : Nat) ^ (8 * i) ≤ 2 ^ 24 := Nat.pow_le_pow_right (by decide) (by omega)
    have h2 : ((2 ^ (8 * i) : Nat) : Int) ≤ ((2 ^ 24 : Nat) : Int) := by omega
    simpa using h2
  have hp0 : (0 : Int) < 2 ^ (8 * i) := Int.pow_pos (by decide)
  have hm : b * 2 ^ (8 * i) ≤ 255 * 2 ^ 24 := Int.mul_le_mul (by omega) hp (by omega) (by decide)
  have hm0 : 0 ≤ b * 2 ^ (8 * i) := Int.mul_nonneg b0 (by omega)
  have hw : IntKind.i64.wrap (b * 2 ^ (8 * i)) = b * 2 ^ (8 * i) := by rw [IntKind.wrap_i64]; omega
  have hx64 : x < 4611686018427387904 := by rw [e256] at x1; omega
  rw [hw]
  obtain ⟨n, rfl⟩ := Int.eq_ofNat_of_zero_le x0
  obtain ⟨m, rfl⟩ := Int.eq_ofNat_of_zero_le b0
  have hn : n < 2 ^ (8 * i) := by
    rw [e256] at x1
    have : ((n : Nat) : Int) < ((2 ^ (8 * i) : Nat) : Int) := by simpa using x1
    omega
  have e1 : ((m : Int) * 2 ^ (8 * i)) = ((m * 2 ^ (8 * i) : Nat) : Int) := by simp
  have e2 : m * 2 ^ (8 * i) < 4611686018427387904 := by omega
  show bits .or .i64 (n : Int) ((m : Int) * 2 ^ (8 * i)) = _
  rw [e1, i64_or_nat n _ (by omega) e2]
  have h2 := Nat.two_pow_add_eq_or_of_lt hn m
  rw [Nat.or_comm, Nat.mul_comm m, ← h2, e256]
  simp
  omega
end Inom
namespace Go.Proofs.Ytladgfonkolpmaa
open Go.RowKit Crcm Tagm Inom Go.ChangeShapes

set_option maxRecDepth 100000 in
set_option maxHeartbeats 400000 in
theorem inumber_any (a : Option Addr) (n cap : Nat) (l : List Int) (w : World) (hr : Rw w a l) (hn : l.length = n) (h8 : n ≤ 4) :
    Calls Try.prog 41 #[.slice a n cap] w fun e w' => e = .returned (.int .i64 (nu l)) ∧ w = w' := by
  subst hn
  obtain ⟨hz, hm, hc⟩ := hr
  clear hm
  go_enter Try.func41, Try.ntmps41
  go_wp2_with fail
  go_loop [3, 7] (fun t i => ∃ k : Nat, ∃ n : Int, k ≤ l.length ∧ i = .int .i64 k ∧ t = .int .i64 n ∧ Hid (n = nu (l.take k))) (fun _ i => l.length - (intOf i).toNat)
  case atStart => exact ⟨0, 0, by omega, rfl, rfl, Lib.hid rfl⟩
  case round =>
    obtain ⟨k, n, hk, rfl, rfl, hv⟩ := hrel
    by_cases hlt : k < l.length
    · rcases hc with rfl | ⟨b, off, rfl, hc⟩
      · simp at hlt
      have hcell := hc k hlt
      have hb8 : U8 l[k] := U8.get hz hlt
      have hB := Lib.hid hb8
      obtain ⟨b0, b1⟩ := hb8
      have hbd := Lib.hid (nu_bd (l.take k) fun b hb => hz b (List.mem_of_mem_take hb))
      have h8k : k < 4 := by omega
      clear hc
      go_wp2
      go_round
      case rel =>
        refine ⟨k + 1, _, by omega, by go_num, rfl, Lib.hid ?_⟩
        have hb := hbd.out
        rw [List.length_take, Nat.min_eq_left hk, ← hv.out] at hb
        rw [take_s hlt, nu_snoc, List.length_take, Nat.min_eq_left hk, ← hv.out, ← ior_low n l[k] k hb hB.out h8k, IntWalk.i64_left]
      case measure => simp [intOf]; omega
    · go_wp2
      go_ret
      exact ⟨ret_i64 (by rw [hv.out, List.take_of_length_le (by omega)]), rfl⟩

set_option maxRecDepth 100000 in
set_option maxHeartbeats 400000 in
theorem iput_any (base : Nat) (v : Value) (n0 : Nat) (xs : List Int) (x : Int) (n : Nat) (w : World) (hx : U64 x) (hx2 : x ≤ 4611686018427387903) (hn : n ≤ 8) (hn0 : n0 ≤ 3000) (hown : w.ownsRow base 5 1 v n0 (xs.map (Value.int .u8))) (hbase : base ≤ w.heap.size) :
    Calls Try.prog 46 #[v, .int .i64 x, .int .i64 n] w fun e w' => ∃ v', e = .returned v' ∧ w'.ownsRow base 5 1 v' (n0 + n) ((xs ++ le n x).map (Value.int .u8)) ∧ Below base w w' := by
  obtain ⟨i0, hi, hz0, hz1, hz2⟩ := info_parts Try.info8
  have H0 := Lib.hid hown
  have hB62 : Hid (x ≤ 4611686018427387903) := Lib.hid hx2
  clear hown hx2
  go_enter Try.func46, Try.ntmps46
  go_wp2_with fail
  go_loopw [0, 1, 8] (fun v x' i wr => ∃ k : Nat, ∃ m : Int, k ≤ n ∧ U64 m ∧ i = .int .i64 k ∧ x' = .int .i64 m ∧ Hid (m = x / 256 ^ k) ∧ Hid (wr.ownsRow base 5 1 v (n0 + k) ((xs ++ le k x).map (Value.int .u8))) ∧ Below base w wr) (fun _ _ i _ => n - (intOf i).toNat)
  case atStart => exact ⟨0, x, by omega, hx, rfl, rfl, Lib.hid (by simp), Lib.hid (by simpa [le] using H0.out), Below.refl _ _⟩
  case round =>
    obtain ⟨k, m, hk, hm, rfl, rfl, hv, hO, hbel⟩ := hrel
    by_cases hlt : k < n
    · have hm0 := hm.1
      have hs := hbel.size
      have hown := hO.out
      clear hO
      go_wp2_with (at_builtin; refine wpList_append_own _ rfl _ _ 22 rfl base 5 i0 (.int .u8 0) 1 1 Try.underlying22 hi hz0 hz1 hz2 rfl (by decide) _ _ _ rfl (hown.alloc _) ⟨wr.heap.size, 0, none⟩ 1 1 [.int .u8 (m % 256)] rfl rfl ?c1 ?c2 ?c3 ?c4 ?c5 ?_)
      case c1 => exact cell_one_new _ _ _
      case c2 => intro u hu; simp at hu; subst hu; rfl
      case c3 => unfold maxLen; omega
      case c4 => omega
      case c5 => simp; omega
      intro v' w1 hown1 hgrow _
      have hb1 : Below base w w1 := (hbel.alloc (by omega) _).grown hgrow (by simp; omega) (fun g hg => (hown.lt g hg).1)
      have hH := Lib.hid hown1
      clear hown1 hgrow hown
      go_wp2
      go_roundw
      case rel =>
        have hown1 := hH.out
        refine ⟨k + 1, m / 256, by omega, hm.div, by go_num, rfl, Lib.hid (div_next x k m hv.out), Lib.hid ?_, hb1⟩
        have e : (xs ++ le (k + 1) x).map (Value.int .u8) = (xs ++ le k x).map (Value.int .u8) ++ [Value.int .u8 (m % 256)] := by
          rw [le_take x k m hv.out, ← List.append_assoc, List.map_append]; rfl
        rw [e, ← Nat.add_assoc]
        simpa using hown1
      case measure => simp [intOf]; omega
    · have hkn : k = n := by omega
      subst hkn
      go_wp2
      go_ret
      exact ⟨_, rfl, hO.out, hbel⟩

/-- a number that may be a pointer -/
def Pt (n : Int) : Prop := 0 ≤ n ∧ n < 8192
theorem pts_yes (n : Int) (w : World) (h : Pt n) : Calls Try.prog 43 #[.int .i64 n] w fun e w' => e = .returned (.bool true) ∧ w = w' := by
  obtain ⟨h0, h1⟩ := h
  go_enter Try.func43, Try.ntmps43
  go_wp2
  go_ret
  exact ⟨rfl, rfl⟩
theorem pts_no (n : Int) (w : World) (h : ¬ Pt n) : Calls Try.prog 43 #[.int .i64 n] w fun e w' => e = .returned (.bool false) ∧ w = w' := by
  unfold Pt at h
  have H := Lib.hid h
  clear h
  go_enter Try.func43, Try.ntmps43
  go_wp2
  all_goals
    go_ret
    exact ⟨ret_bool (by have := H.out; first | (simp; done) | (simp; omega)), rfl⟩

theorem bclone_nil (w : World) : Calls Try.prog 45 #[.slice none 0 0] w fun e w' => e = .returned (.slice none 0 0) ∧ w = w' := by
  have en := fun W a n c => Lib.run_eql_slice_nil (P := Try.prog) W 22 5 a n c 0 0 Try.underlying22
  go_enter Try.func45, Try.ntmps45
  go_wp2
  go_ret
  exact ⟨rfl, rfl⟩

set_option maxRecDepth 100000 in
set_option maxHeartbeats 1000000 in
/-- a copy of bytes that lie somewhere -/
theorem bclone_any (n c b off : Nat) (l : List Int) (w : World) (hr : Rw w (some ⟨b, off, none⟩) l) (hl : l.length = n) (hn : 0 < n ∧ n ≤ 100000) :
    Calls Try.prog 45 #[.slice (some ⟨b, off, none⟩) n c] w fun e w' => (∃ g cc, e = .returned (.slice (some ⟨g, 0, none⟩) n cc) ∧ n ≤ cc ∧ w.heap.size ≤ g ∧ w'.ownsRow w.heap.size 5 1 (.slice (some ⟨g, 0, none⟩) n cc) n (l.map (Value.int .u8))) ∧ Below w.heap.size w w' := by
  have HL := Lib.hid hl
  have HR := Lib.hid hr
  have HN := Lib.hid hn
  have en := fun W a n c => Lib.run_eql_slice_nil (P := Try.prog) W 22 5 a n c 0 0 Try.underlying22
  clear hl hr hn
  go_enter Try.func45, Try.ntmps45
  have hown : Hid ((w.alloc (.cells #[] 5)).ownsRow w.heap.size 5 1 (.slice (some ⟨w.heap.size, 0, none⟩) 0 0) 0 (([] : List Int).map (Value.int .u8))) := Lib.hid (World.ownsRow_lit w #[] 0 (Nat.le_refl _) (Nat.zero_le _) rfl)
  have hbx : Below w.heap.size w (w.alloc (.cells #[] 5)) := (Below.refl _ _).alloc (Nat.le_refl _) _
  have HBX := Lib.hid hbx
  have hsrc := Lib.hid (HR.out.src.below hbx)
  clear hbx
  go_wp2_with (at_builtin; refine append_bytes rfl _ _ rfl w.heap.size _ 0 [] rfl hown.out (some ⟨b, off, none⟩) n c l rfl HL.out hsrc.out (by have := HN.out; omega) (by simp) ?_)
  intro v' w2 hown2 hb2
  have HB2 := Lib.hid (HBX.out.trans hb2)
  obtain ⟨a2, cap2, rfl, hrw, hlen, hcap⟩ := Rw.of_own hown2 HR.out.1
  have HW := Lib.hid hown2
  clear hown2 hb2 hrw hlen
  go_wp2
  go_ret
  refine ⟨?_, HB2.out⟩
  have h : w2.ownsRow w.heap.size 5 1 (.slice a2 n cap2) n (l.map (Value.int .u8)) := by simpa using HW.out
  rcases h.2 with ⟨h0, hn⟩ | ⟨g, cap, cur, h0, hg, _⟩
  · exfalso
    have h1 := HN.out
    omega
  · injection h0 with e1 e2 e3
    subst e1 e3
    exact ⟨g, cap2, rfl, by omega, hg, h⟩

theorem lay_take {α : Type} {X C cs : List α} {n off : Nat} (h : C.take n = X) (hX : X.length = n) (hf : off + cs.length ≤ n) :
    (C.take off ++ (cs ++ C.drop (off + cs.length))).take n = X.take off ++ (cs ++ X.drop (off + cs.length)) := by
  have hn : n ≤ C.length := by rw [← h, List.length_take] at hX; omega
  have h1 : (C.take off).length = off := by rw [List.length_take]; omega
  rw [← h, List.take_append, List.take_append, List.take_take, List.take_take, List.drop_take, h1, Nat.min_eq_right (by omega), Nat.min_eq_left (by omega), List.take_of_length_le (by omega : cs.length ≤ n - off), Nat.sub_sub]

/-- bytes laid over a row of the call's own, by the builtin copy -/
theorem run_lay {w : World} {base g n cap : Nat} {xs : List Int} (hown : w.ownsRow base 5 1 (.slice (some ⟨g, 0, none⟩) n cap) n (xs.map (Value.int .u8)))
    (off d dc m c : Nat) (b o : Nat) (l : List Int) (hr : Rw w (some ⟨b, o, none⟩) l) (hl : l.length = m) (hfit : off + d ≤ n) :
    ∃ w' k, (∀ ty, (Builtin.copy_ #[22, 22] ty #[.slice (some ⟨g, off, none⟩) d dc, .slice (some ⟨b, o, none⟩) m c]).run Try.prog w = .ok (.int .i64 k) w') ∧
      w'.ownsRow base 5 1 (.slice (some ⟨g, 0, none⟩) n cap) n ((splice xs off (l.take d)).map (Value.int .u8)) ∧ ∀ B w0, Below B w0 w → B ≤ base → Below B w0 w' := by
  obtain ⟨i0, hi, hz0, hz1, hz2⟩ := info_parts Try.info8
  have HI : (Try.prog.info? 5).map (·.size) = some 1 := by rw [hi]; simp [hz1]
  obtain ⟨hxl, hown⟩ := hown
  have hxl' : xs.length = n := by simpa using hxl
  rcases hown with ⟨h0, _⟩ | ⟨g', cap', cur, h0, hbg, hg, hnc, hcm, hsz, ht⟩
  · cases h0
  injection h0 with e1 e2 e3
  injection e1 with e1
  injection e1 with e1
  subst e1 e3
  have ht' : cur.toList.take n = xs.map (Value.int .u8) := by simpa using ht
  have hk : (l.take d).length ≤ d := by rw [List.length_take]; omega
  have hsz' : cur.size = cap := by omega
  have hX : (xs.map (Value.int .u8)).length = n := by simpa using hxl'
  have htk : ((cur.toList.take off ++ (l.take d).map (Value.int .u8)) ++ cur.toList.drop (off + ((l.take d).map (Value.int .u8)).length)).take n = (splice xs off (l.take d)).map (Value.int .u8) := by
    rw [List.append_assoc, lay_take ht' hX (by rw [List.length_map]; omega)]
    simp [splice]
  by_cases h0 : Nat.min m d = 0
  · refine ⟨w, 0, fun ty => run_copy_none (P := Try.prog) w 22 22 ty 5 (some ⟨g, off, none⟩) (some ⟨b, o, none⟩) d dc m c Try.underlying22 HI h0, ?_, fun _ _ h _ => h⟩
    have e : l.take d = [] := by
      apply List.eq_nil_of_length_eq_zero
      rw [List.length_take, hl]
      exact (Nat.min_comm d m).trans h0
    rw [e]
    have e2 : splice xs off ([] : List Int) = xs := by simp [splice]
    rw [e2]
    exact ⟨hxl, .inr ⟨g, cap, cur, rfl, hbg, hg, hnc, hcm, hsz, ht⟩⟩
  · have hc : ∀ i, i < l.length → w.cell? ⟨b, o + i, none⟩ = some (.int .u8 (l.getD i 0)) := by
      rcases hr.2.2 with h | ⟨b', o', h, hc⟩
      · exfalso; apply h0; subst h; simp at hl; subst hl; exact Nat.zero_min d
      · injection h with h; injection h with h1 h2; subst h1 h2; exact hc
    refine ⟨_, _, fun ty => run_copy_row (P := Try.prog) w 22 22 ty 5 g off d dc ⟨b, o, none⟩ m c cur 5 ((l.take d).map (Value.int .u8)) Try.underlying22 HI hg ?_ ?_ ?_ ?_, ?_, ?_⟩
    · rw [List.length_map, List.length_take, hl]; exact Nat.min_comm d m
    · intro j v hv
      rw [List.getElem?_map, List.getElem?_take] at hv
      by_cases hj : j < d
      · rw [if_pos hj] at hv
        by_cases hjl : j < l.length
        · rw [List.getElem?_eq_getElem hjl] at hv
          have := hc j hjl
          rw [show (⟨b, o, none⟩ : Addr).add j = ⟨b, o + j, none⟩ by simp [Addr.add], this]
          simpa [List.getD_eq_getElem?_getD, hjl] using hv
        · rw [List.getElem?_eq_none (by omega)] at hv; cases hv
      · rw [if_neg hj] at hv; cases hv
    · rw [List.length_map]; omega
    · intro v hv
      obtain ⟨x, -, rfl⟩ := List.mem_map.1 hv
      rfl
    · refine ⟨?_, .inr ⟨g, cap, _, rfl, hbg, setRow_heap w g _ _ _ _ hg, hnc, hcm, ?_, ?_⟩⟩
      · have := length_splice xs off (l.take d) (by omega)
        rw [List.length_map, this]; omega
      · simp at hX
        simp; omega
      · rw [Nat.mul_one, List.toList_toArray]
        exact htk
    · exact fun B w0 h hB => below_setRow h (Nat.le_trans hB hbg) _

/-- a pointer's place in a page -/
theorem ret_sl {a : Option Addr} {n m c : Nat} (h : n = m) : Ending.returned (.slice a n c) = .returned (.slice a m c) := by rw [h]
theorem ipointer_any (b off n cap k : Nat) (K : Int) (w : World) (hK : K = k) (hk : 2 * k + 2 ≤ n) (hc : n ≤ cap) (hn : n ≤ 3000) :
    Calls Try.prog 42 #[.slice (some ⟨b, off, none⟩) n cap, .int .i64 K] w fun e w' => e = .returned (.slice (some ⟨b, off + k * 2, none⟩) 2 (cap - k * 2)) ∧ w = w' := by
  subst hK
  go_enter Try.func42, Try.ntmps42
  go_wp2
  go_ret
  exact ⟨ret_sl (by omega), rfl⟩

end Go.Proofs.Ytladgfonkolpmaa
