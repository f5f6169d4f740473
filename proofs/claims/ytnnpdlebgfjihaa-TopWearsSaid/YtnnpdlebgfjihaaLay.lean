/-
  Bytes laid over a row of the call's own, and a copy of bytes that came in. Nothing of one statement alone stands here.
-/
import Derived.Test.YtnnpdlebgfjihaaBytes
import Derived.Test.YtnnpdlebgfjihaaBlk
import Derived.Laws.CopyOwn
import Derived.WalkSpells
import Derived.IntWalk
import Derived.Lib.Bytes
namespace Go.Proofs.Ytnnpdlebgfjihaa
open Go.RowKit Crcm Go.ChangeShapes

theorem Rw.addr {w : World} {a : Option Addr} {l : List Int} (h : Rw w a l) (hl : 0 < l.length) : ∃ b off, a = some ⟨b, off, none⟩ := by
  rcases h.2.2 with rfl | ⟨b, off, rfl, _⟩
  · simp at hl
  · exact ⟨b, off, rfl⟩

theorem own_below {w w' : World} {base k e sz : Nat} {v : Value} {xs : List Value} (h : w.ownsRow base e sz v k xs) (hb : Below w.heap.size w w') : w'.ownsRow base e sz v k xs := by
  obtain ⟨h1, h2⟩ := h
  refine ⟨h1, ?_⟩
  rcases h2 with h2 | ⟨g, cap, cur, e, hg, hh, r⟩
  · exact .inl h2
  · refine .inr ⟨g, cap, cur, e, hg, ?_, r⟩
    have hlt : g < w.heap.size := by
      rcases Nat.lt_or_ge g w.heap.size with hlt | hge
      · exact hlt
      · rw [Array.getElem?_eq_none hge] at hh; cases hh
    exact (hb.block g hlt).trans hh

theorem splice_same {L cs : List Int} {o : Nat} (h : o + cs.length ≤ L.length) : ((splice L o cs).drop o).take cs.length = cs := by
  unfold splice
  rw [List.drop_append, List.length_take, Nat.min_eq_left (by omega), Nat.sub_self, List.drop_zero, List.drop_of_length_le (by rw [List.length_take]; omega), List.nil_append, List.take_append_of_le_length (Nat.le_refl _), List.take_of_length_le (Nat.le_refl _)]
theorem splice_other {L cs : List Int} {o p n : Nat} (h : o + cs.length ≤ L.length) (hd : p + n ≤ o ∨ o + cs.length ≤ p) : ((splice L o cs).drop p).take n = (L.drop p).take n := by
  apply List.ext_getElem?
  intro i
  rw [List.getElem?_take, List.getElem?_take]
  by_cases hi : i < n
  · rw [if_pos hi, if_pos hi, List.getElem?_drop, List.getElem?_drop]
    unfold splice
    rcases hd with hlt | hgt
    · rw [List.getElem?_append_left (by rw [List.length_take]; omega), List.getElem?_take, if_pos (by omega)]
    · rw [List.getElem?_append_right (by rw [List.length_take]; omega), List.length_take, Nat.min_eq_left (by omega), List.getElem?_append_right (by omega), List.getElem?_drop]
      congr 1
      omega
  · rw [if_neg hi, if_neg hi]
theorem splice_u8 {L cs : List Int} {o : Nat} (h : ∀ b ∈ L, U8 b) (h2 : ∀ b ∈ cs, U8 b) : ∀ b ∈ splice L o cs, U8 b := by
  intro b hb
  unfold splice at hb
  rcases List.mem_append.1 hb with g | g
  · exact h b (List.mem_of_mem_take g)
  · rcases List.mem_append.1 g with g | g
    · exact h2 b g
    · exact h b (List.mem_of_mem_drop g)

set_option maxRecDepth 100000 in
set_option maxHeartbeats 1000000 in
/-- a copy of bytes that lie somewhere -/
theorem lbclone_any (n c b off : Nat) (l : List Int) (w : World) (hr : Rw w (some ⟨b, off, none⟩) l) (hl : l.length = n) (hn : 0 < n ∧ n ≤ 100000) :
    Calls Try.prog 52 #[.slice (some ⟨b, off, none⟩) n c] w fun e w' => (∃ g cc, e = .returned (.slice (some ⟨g, 0, none⟩) n cc) ∧ n ≤ cc ∧ w.heap.size ≤ g ∧ w'.ownsRow w.heap.size 5 1 (.slice (some ⟨g, 0, none⟩) n cc) n (l.map (Value.int .u8))) ∧ Below w.heap.size w w' := by
  have HL := Lib.hid hl
  have HR := Lib.hid hr
  have HN := Lib.hid hn
  have en := fun W a n c => Lib.run_eql_slice_nil (P := Try.prog) W 39 5 a n c 0 0 Try.underlying39
  clear hl hr hn
  go_enter Try.func52, Try.ntmps52
  have hown : Hid ((w.alloc (.cells #[] 5)).ownsRow w.heap.size 5 1 (.slice (some ⟨w.heap.size, 0, none⟩) 0 0) 0 (([] : List Int).map (Value.int .u8))) := Lib.hid (World.ownsRow_lit w #[] 0 (Nat.le_refl _) (Nat.zero_le _) rfl)
  have hbx : Below w.heap.size w (w.alloc (.cells #[] 5)) := (Below.refl _ _).alloc (Nat.le_refl _) _
  have HBX := Lib.hid hbx
  have hsrc := Lib.hid (HR.out.src.below hbx)
  clear hbx
  go_wp2_with (at_builtin; refine append_bytes rfl _ _ rfl w.heap.size _ 0 [] rfl hown.out (some ⟨b, off, none⟩) n c l rfl HL.out hsrc.out (by have := HN.out; omega) (by simp) ?_)
  intro v' w2 hown2 hb2
  have HB2 := Lib.hid (HBX.out.trans hb2)
  obtain ⟨a2, cap2, rfl, hrw, hlen, hcap⟩ := Rw.of_own hown2 HR.out.1
  have HW := Lib.hid hown2
  clear hown2 hb2 hrw hlen
  go_wp2
  go_ret
  refine ⟨?_, HB2.out⟩
  have h : w2.ownsRow w.heap.size 5 1 (.slice a2 n cap2) n (l.map (Value.int .u8)) := by simpa using HW.out
  rcases h.2 with ⟨h0, hn⟩ | ⟨g, cap, cur, h0, hg, _⟩
  · exfalso
    have h1 := HN.out
    omega
  · injection h0 with e1 e2 e3
    subst e1 e3
    exact ⟨g, cap2, rfl, by omega, hg, h⟩

theorem lay_take {α : Type} {X C cs : List α} {n off : Nat} (h : C.take n = X) (hX : X.length = n) (hf : off + cs.length ≤ n) :
    (C.take off ++ (cs ++ C.drop (off + cs.length))).take n = X.take off ++ (cs ++ X.drop (off + cs.length)) := by
  have hn : n ≤ C.length := by rw [← h, List.length_take] at hX; omega
  have h1 : (C.take off).length = off := by rw [List.length_take]; omega
  rw [← h, List.take_append, List.take_append, List.take_take, List.take_take, List.drop_take, h1, Nat.min_eq_right (by omega), Nat.min_eq_left (by omega), List.take_of_length_le (by omega : cs.length ≤ n - off), Nat.sub_sub]

/-- bytes laid over a row of the call's own, by the builtin copy -/
theorem run_lay {w : World} {base g n cap : Nat} {xs : List Int} (hown : w.ownsRow base 5 1 (.slice (some ⟨g, 0, none⟩) n cap) n (xs.map (Value.int .u8)))
    (off d dc m c : Nat) (b o : Nat) (l : List Int) (hr : Rw w (some ⟨b, o, none⟩) l) (hl : l.length = m) (hfit : off + d ≤ n) :
    ∃ w' k, (∀ ty, (Builtin.copy_ #[39, 39] ty #[.slice (some ⟨g, off, none⟩) d dc, .slice (some ⟨b, o, none⟩) m c]).run Try.prog w = .ok (.int .i64 k) w') ∧
      w'.ownsRow base 5 1 (.slice (some ⟨g, 0, none⟩) n cap) n ((splice xs off (l.take d)).map (Value.int .u8)) ∧ ∀ B w0, Below B w0 w → B ≤ base → Below B w0 w' := by
  obtain ⟨i0, hi, hz0, hz1, hz2⟩ := info_parts Try.info8
  have HI : (Try.prog.info? 5).map (·.size) = some 1 := by rw [hi]; simp [hz1]
  obtain ⟨hxl, hown⟩ := hown
  have hxl' : xs.length = n := by simpa using hxl
  rcases hown with ⟨h0, _⟩ | ⟨g', cap', cur, h0, hbg, hg, hnc, hcm, hsz, ht⟩
  · cases h0
  injection h0 with e1 e2 e3
  injection e1 with e1
  injection e1 with e1
  subst e1 e3
  have ht' : cur.toList.take n = xs.map (Value.int .u8) := by simpa using ht
  have hk : (l.take d).length ≤ d := by rw [List.length_take]; omega
  have hsz' : cur.size = cap := by omega
  have hX : (xs.map (Value.int .u8)).length = n := by simpa using hxl'
  have htk : ((cur.toList.take off ++ (l.take d).map (Value.int .u8)) ++ cur.toList.drop (off + ((l.take d).map (Value.int .u8)).length)).take n = (splice xs off (l.take d)).map (Value.int .u8) := by
    rw [List.append_assoc, lay_take ht' hX (by rw [List.length_map]; omega)]
    simp [splice]
  by_cases h0 : Nat.min m d = 0
  · refine ⟨w, 0, fun ty => run_copy_none (P := Try.prog) w 39 39 ty 5 (some ⟨g, off, none⟩) (some ⟨b, o, none⟩) d dc m c Try.underlying39 HI h0, ?_, fun _ _ h _ => h⟩
    have e : l.take d = [] := by
      apply List.eq_nil_of_length_eq_zero
      rw [List.length_take, hl]
      exact (Nat.min_comm d m).trans h0
    rw [e]
    have e2 : splice xs off ([] : List Int) = xs := by simp [splice]
    rw [e2]
    exact ⟨hxl, .inr ⟨g, cap, cur, rfl, hbg, hg, hnc, hcm, hsz, ht⟩⟩
  · have hc : ∀ i, i < l.length → w.cell? ⟨b, o + i, none⟩ = some (.int .u8 (l.getD i 0)) := by
      rcases hr.2.2 with h | ⟨b', o', h, hc⟩
      · exfalso; apply h0; subst h; simp at hl; subst hl; exact Nat.zero_min d
      · injection h with h; injection h with h1 h2; subst h1 h2; exact hc
    refine ⟨_, _, fun ty => run_copy_row (P := Try.prog) w 39 39 ty 5 g off d dc ⟨b, o, none⟩ m c cur 5 ((l.take d).map (Value.int .u8)) Try.underlying39 HI hg ?_ ?_ ?_ ?_, ?_, ?_⟩
    · rw [List.length_map, List.length_take, hl]; exact Nat.min_comm d m
    · intro j v hv
      rw [List.getElem?_map, List.getElem?_take] at hv
      by_cases hj : j < d
      · rw [if_pos hj] at hv
        by_cases hjl : j < l.length
        · rw [List.getElem?_eq_getElem hjl] at hv
          have := hc j hjl
          rw [show (⟨b, o, none⟩ : Addr).add j = ⟨b, o + j, none⟩ by simp [Addr.add], this]
          simpa [List.getD_eq_getElem?_getD, hjl] using hv
        · rw [List.getElem?_eq_none (by omega)] at hv; cases hv
      · rw [if_neg hj] at hv; cases hv
    · rw [List.length_map]; omega
    · intro v hv
      obtain ⟨x, -, rfl⟩ := List.mem_map.1 hv
      rfl
    · refine ⟨?_, .inr ⟨g, cap, _, rfl, hbg, setRow_heap w g _ _ _ _ hg, hnc, hcm, ?_, ?_⟩⟩
      · have := length_splice xs off (l.take d) (by omega)
        rw [List.length_map, this]; omega
      · simp at hX
        simp; omega
      · rw [Nat.mul_one, List.toList_toArray]
        exact htk
    · exact fun B w0 h hB => below_setRow h (Nat.le_trans hB hbg) _


theorem mkn (n : Nat) (hn : n ≤ 100000) (W : World) : (Instr.makeSlice 39 (.int .i64 n) (.int .i64 n)).run Try.prog W = .ok (.slice (some ⟨W.heap.size, 0, none⟩) n n) (W.alloc (.cells (Array.replicate n (Value.int .u8 0)) 5)) := by
  obtain ⟨i0, hi, hz0, hz1, hz2⟩ := info_parts Try.info8
  have := run_make (P := Try.prog) W 39 5 i0 (.int .u8 0) Try.underlying39 hi hz0 .i64 .i64 (n : Int) (n : Int) (by omega) (Int.le_refl _) (by rw [hz2]; omega) (by omega)
  rw [this, hz1]
  have e : madeCells (Value.int .u8 0).cells (Int.toNat (n : Int) * 1) = Array.replicate n (Value.int .u8 0) := by
    apply Array.toList_inj.1
    rw [show Int.toNat (n : Int) * 1 = n by omega]
    show (madeCells #[Value.int .u8 0] n).toList = _
    rw [toList_madeCells_one, Array.toList_replicate]
  rw [e]
  simp
theorem own_mkn (n : Nat) (hn : n ≤ 100000) (W : World) : (W.alloc (.cells (Array.replicate n (Value.int .u8 0)) 5)).ownsRow W.heap.size 5 1 (.slice (some ⟨W.heap.size, 0, none⟩) n n) n ((List.replicate n (0 : Int)).map (Value.int .u8)) := by
  refine ⟨by simp, .inr ⟨W.heap.size, n, _, rfl, Nat.le_refl _, Blk.new W 5 (Array.replicate n (Value.int .u8 0)), Nat.le_refl _, by unfold maxLen; omega, by simp, ?_⟩⟩
  rw [Array.toList_replicate, List.map_replicate, Nat.mul_one, List.take_replicate, Nat.min_self]
/-- bytes from anywhere laid over a row of the call's own -/
theorem run_lay_any {w : World} {base g n cap : Nat} {xs : List Int} (hown : w.ownsRow base 5 1 (.slice (some ⟨g, 0, none⟩) n cap) n (xs.map (Value.int .u8)))
    (off d dc m c : Nat) (a : Option Addr) (l : List Int) (hr : Rw w a l) (hl : l.length = m) (hfit : off + d ≤ n) :
    ∃ w' k, (∀ ty, (Builtin.copy_ #[39, 39] ty #[.slice (some ⟨g, off, none⟩) d dc, .slice a m c]).run Try.prog w = .ok (.int .i64 k) w') ∧
      w'.ownsRow base 5 1 (.slice (some ⟨g, 0, none⟩) n cap) n ((splice xs off (l.take d)).map (Value.int .u8)) ∧ ∀ B w0, Below B w0 w → B ≤ base → Below B w0 w' := by
  by_cases h0 : l = []
  · subst h0
    obtain rfl : m = 0 := by simpa using hl.symm
    obtain ⟨i0, hi, hz0, hz1, hz2⟩ := info_parts Try.info8
    have HI : (Try.prog.info? 5).map (·.size) = some 1 := by rw [hi]; simp [hz1]
    refine ⟨w, 0, fun ty => run_copy_none (P := Try.prog) w 39 39 ty 5 (some ⟨g, off, none⟩) a d dc 0 c Try.underlying39 HI (Nat.zero_min d), ?_, fun _ _ h _ => h⟩
    rw [List.take_nil, show splice xs off ([] : List Int) = xs by simp [splice]]
    exact hown
  · obtain ⟨b, o, rfl⟩ := hr.addr (List.length_pos_iff.2 h0)
    exact run_lay hown off d dc m c b o l hr hl hfit

end Go.Proofs.Ytnnpdlebgfjihaa
