/-
  What Pointer and Point answer (the program's inode).
-/
import Derived.Test.YtladgfonkolpmaaInoNum
namespace Inom
open Go Crcm Tagm
/-- a pointer's bytes, as a number -/
def pv (l : List Int) (k : Nat) : Int := nu ((l.drop (k * 2)).take 2)
/-- a page of bytes has a pointer of that number -/
def Has (l : List Int) (K : Int) : Prop := Sz l.length ∧ 0 ≤ K ∧ K < (l.length : Int) / 2
/-- a page with a pointer -/
def pset (l : List Int) (k : Nat) (x : Int) : List Int := splice l (k * 2) (le 2 x)
theorem pset_len {l : List Int} {k : Nat} {x : Int} (h : k * 2 + 2 ≤ l.length) : (pset l k x).length = l.length := length_splice _ _ _ (by rw [le_length]; omega)
theorem pset_same {l : List Int} {k : Nat} {x : Int} (h : k * 2 + 2 ≤ l.length) : pv (pset l k x) k = x % 65536 := by
  unfold pv pset splice
  rw [List.drop_append, List.length_take, Nat.min_eq_left (by omega), Nat.sub_self, List.drop_zero, List.drop_of_length_le (by rw [List.length_take]; omega), List.nil_append, List.take_append_of_le_length (by rw [le_length]; omega), List.take_of_length_le (by rw [le_length]; omega), nu_le]
  rfl
theorem pset_other {l : List Int} {k j : Nat} {x : Int} (h : k * 2 + 2 ≤ l.length) (hne : j ≠ k) : pv (pset l k x) j = pv l j := by
  unfold pv
  congr 1
  apply List.ext_getElem?
  intro i
  rw [List.getElem?_take, List.getElem?_take]
  by_cases hi : i < 2
  · rw [if_pos hi, if_pos hi, List.getElem?_drop, List.getElem?_drop]
    unfold pset splice
    rcases Nat.lt_or_gt_of_ne hne with hlt | hgt
    · rw [List.getElem?_append_left (by rw [List.length_take]; omega), List.getElem?_take, if_pos (by omega)]
    · rw [List.getElem?_append_right (by rw [List.length_take]; omega), List.length_take, Nat.min_eq_left (by omega), List.getElem?_append_right (by rw [le_length]; omega), le_length, List.getElem?_drop]
      congr 1
      omega
  · rw [if_neg hi, if_neg hi]
theorem pset_u8 {l : List Int} {k : Nat} {x : Int} (h : ∀ b ∈ l, U8 b) : ∀ b ∈ pset l k x, U8 b := by
  intro b hb
  unfold pset splice at hb
  rcases List.mem_append.1 hb with g | g
  · exact h b (List.mem_of_mem_take g)
  · rcases List.mem_append.1 g with g | g
    · exact le_U8 _ _ b g
    · exact h b (List.mem_of_mem_drop g)
theorem pv_bd {l : List Int} {k : Nat} (h : ∀ b ∈ l, U8 b) : 0 ≤ pv l k ∧ pv l k < 65536 := by
  have hb := nu_bd ((l.drop (k * 2)).take 2) fun b hb => h b (List.mem_of_mem_drop (List.mem_of_mem_take hb))
  have hl : ((l.drop (k * 2)).take 2).length ≤ 2 := by rw [List.length_take]; omega
  unfold pv
  have hp : (256 : Int) ^ ((l.drop (k * 2)).take 2).length ≤ 65536 := by
    generalize ((l.drop (k * 2)).take 2).length = n at hl
    match n, hl with
    | 0, _ => decide
    | 1, _ => decide
    | 2, _ => decide
    | n + 3, hl => omega
  omega
end Inom
namespace Go.Proofs.Ytladgfonkolpmaa
open Go.RowKit Crcm Tagm Inom Go.ChangeShapes

theorem Has.k {l : List Int} {K : Int} (h : Has l K) : ∃ k : Nat, K = k ∧ k * 2 + 2 ≤ l.length ∧ l.length ≤ 512 ∧ 64 ≤ l.length := by
  obtain ⟨hs, h0, h1⟩ := h
  obtain ⟨k, rfl⟩ := Int.eq_ofNat_of_zero_le h0
  unfold Sz at hs
  exact ⟨k, rfl, by omega, by omega, by omega⟩
theorem Rw.addr {w : World} {a : Option Addr} {l : List Int} (h : Rw w a l) (hl : 0 < l.length) : ∃ b off, a = some ⟨b, off, none⟩ := by
  rcases h.2.2 with rfl | ⟨b, off, rfl, _⟩
  · simp at hl
  · exact ⟨b, off, rfl⟩

theorem own_below {w w' : World} {base k e sz : Nat} {v : Value} {xs : List Value} (h : w.ownsRow base e sz v k xs) (hb : Below w.heap.size w w') : w'.ownsRow base e sz v k xs := by
  obtain ⟨h1, h2⟩ := h
  refine ⟨h1, ?_⟩
  rcases h2 with h2 | ⟨g, cap, cur, e, hg, hh, r⟩
  · exact .inl h2
  · refine .inr ⟨g, cap, cur, e, hg, ?_, r⟩
    have hlt : g < w.heap.size := by
      rcases Nat.lt_or_ge g w.heap.size with hlt | hge
      · exact hlt
      · rw [Array.getElem?_eq_none hge] at hh; cases hh
    exact (hb.block g hlt).trans hh

/-- no pointer of that number: three ways -/
theorem point_not (n : Nat) (K : Int) (h : ¬ (Sz n ∧ 0 ≤ K ∧ K < (n : Int) / 2)) : K < 0 ∨ (0 ≤ K ∧ ¬ Sz n) ∨ (0 ≤ K ∧ Sz n ∧ (n : Int) / 2 ≤ K) := by
  by_cases h0 : K < 0
  · exact .inl h0
  · by_cases hs : Sz n
    · exact .inr (.inr ⟨by omega, hs, by by_cases g : (n : Int) / 2 ≤ K; exact g; exact absurd ⟨hs, by omega, by omega⟩ h⟩)
    · exact .inr (.inl ⟨by omega, hs⟩)

theorem ipointer_no (a : Option Addr) (n cap : Nat) (K : Int) (w : World) (h : ¬ (Sz n ∧ 0 ≤ K ∧ K < (n : Int) / 2)) :
    Calls Try.prog 12 #[.slice a n cap, .int .i64 K] w fun e w' => e = .returned (.tuple #[.int .i64 0, .int .i64 1]) ∧ w = w' := by
  rcases point_not n K h with h0 | ⟨h0, hs⟩ | ⟨h0, hs, h1⟩
  · clear h
    go_enter Try.func12, Try.ntmps12
    go_wp2
    go_ret2
    exact ⟨rfl, rfl⟩
  · clear h
    have H := Lib.hid (fun w => ptrs_no n w hs)
    clear hs
    go_enter Try.func12, Try.ntmps12
    go_wp2_with fail
    refine (H.out _).mono ?_
    rintro e w' ⟨rfl, rfl⟩
    go_wp2
    go_ret2
    exact ⟨rfl, rfl⟩
  · clear h
    have H := Lib.hid (fun w => ptrs_yes n w hs)
    clear hs
    go_enter Try.func12, Try.ntmps12
    go_wp2_with fail
    refine (H.out _).mono ?_
    rintro e w' ⟨rfl, rfl⟩
    go_wp2
    go_ret2
    exact ⟨rfl, rfl⟩

set_option maxHeartbeats 400000 in
theorem ipointer_yes (a : Option Addr) (n cap k : Nat) (K : Int) (l : List Int) (w : World) (hr : Rw w a l) (hn : l.length = n) (hK : K = k) (hs : Sz n) (hk : k * 2 + 2 ≤ n) (hc : n ≤ cap) (hp : Pt (pv l k)) :
    Calls Try.prog 12 #[.slice a n cap, .int .i64 K] w fun e w' => e = .returned (.tuple #[.int .i64 (pv l k), .int .i64 0]) ∧ w = w' := by
  subst hK
  have hb : 64 ≤ n ∧ n ≤ 512 := by unfold Sz at hs; omega
  obtain ⟨b, off, rfl⟩ := hr.addr (by omega)
  have H := Lib.hid (fun w => ptrs_yes n w hs)
  have HP := Lib.hid (fun w => ipointer_any b off n cap k k w rfl (by omega) hc (by omega))
  have hq : Rw w (some ⟨b, off + k * 2, none⟩) ((l.drop (k * 2)).take 2) := (hr.drop (k * 2) (a' := some ⟨b, off + k * 2, none⟩) (fun b' off' e _ => by injection e with e; injection e with e1 e2; subst e1 e2; rfl)).take 2
  have HN := Lib.hid (inumber_any _ 2 (cap - k * 2) _ w hq (by rw [List.length_take, List.length_drop]; omega) (by omega))
  have HT := Lib.hid (fun w => pts_yes _ w hp)
  have h2 : (k : Int) < (n : Int) / 2 := by omega
  clear hr hn hs hc hp hq hk
  unfold pv at HT ⊢
  generalize nu ((l.drop (k * 2)).take 2) = x at HN HT ⊢
  go_enter Try.func12, Try.ntmps12
  go_wp2_with fail
  refine (H.out _).mono ?_
  rintro e w' ⟨rfl, rfl⟩
  go_wp2_with fail
  refine (HP.out _).mono ?_
  rintro e w' ⟨rfl, rfl⟩
  go_wp2_with fail
  refine HN.out.mono ?_
  rintro e w' ⟨rfl, rfl⟩
  go_wp2_with fail
  refine (HT.out _).mono ?_
  rintro e w' ⟨rfl, rfl⟩
  go_wp2
  go_ret2
  exact ⟨rfl, rfl⟩

set_option maxHeartbeats 400000 in
theorem ipointer_bad (a : Option Addr) (n cap k : Nat) (K : Int) (l : List Int) (w : World) (hr : Rw w a l) (hn : l.length = n) (hK : K = k) (hs : Sz n) (hk : k * 2 + 2 ≤ n) (hc : n ≤ cap) (hp : ¬ Pt (pv l k)) :
    Calls Try.prog 12 #[.slice a n cap, .int .i64 K] w fun e w' => e = .returned (.tuple #[.int .i64 0, .int .i64 52]) ∧ w = w' := by
  subst hK
  have hb : 64 ≤ n ∧ n ≤ 512 := by unfold Sz at hs; omega
  obtain ⟨b, off, rfl⟩ := hr.addr (by omega)
  have H := Lib.hid (fun w => ptrs_yes n w hs)
  have HP := Lib.hid (fun w => ipointer_any b off n cap k k w rfl (by omega) hc (by omega))
  have hq : Rw w (some ⟨b, off + k * 2, none⟩) ((l.drop (k * 2)).take 2) := (hr.drop (k * 2) (a' := some ⟨b, off + k * 2, none⟩) (fun b' off' e _ => by injection e with e; injection e with e1 e2; subst e1 e2; rfl)).take 2
  have HN := Lib.hid (inumber_any _ 2 (cap - k * 2) _ w hq (by rw [List.length_take, List.length_drop]; omega) (by omega))
  have HT := Lib.hid (fun w => pts_no _ w hp)
  have h2 : (k : Int) < (n : Int) / 2 := by omega
  clear hr hn hs hc hp hq hk
  unfold pv at HT
  generalize nu ((l.drop (k * 2)).take 2) = x at HN HT
  go_enter Try.func12, Try.ntmps12
  go_wp2_with fail
  refine (H.out _).mono ?_
  rintro e w' ⟨rfl, rfl⟩
  go_wp2_with fail
  refine (HP.out _).mono ?_
  rintro e w' ⟨rfl, rfl⟩
  go_wp2_with fail
  refine HN.out.mono ?_
  rintro e w' ⟨rfl, rfl⟩
  go_wp2_with fail
  refine (HT.out _).mono ?_
  rintro e w' ⟨rfl, rfl⟩
  go_wp2
  go_ret2
  exact ⟨rfl, rfl⟩

instance (n : Int) : Decidable (Pt n) := by unfold Pt; infer_instance
/-- a pointer and its error, of any bytes -/
def pE (l : List Int) (K : Int) : Int := if Sz l.length ∧ 0 ≤ K ∧ K < (l.length : Int) / 2 then (if Pt (pv l K.toNat) then 0 else 52) else 1
def pN (l : List Int) (K : Int) : Int := if pE l K = 0 then pv l K.toNat else 0
theorem pE_no {l : List Int} {K : Int} (h : ¬ (Sz l.length ∧ 0 ≤ K ∧ K < (l.length : Int) / 2)) : pE l K = 1 ∧ pN l K = 0 := by
  have : pE l K = 1 := if_neg h
  unfold pN; rw [this]; exact ⟨rfl, rfl⟩
theorem pE_bad {l : List Int} {K : Int} (h : Sz l.length ∧ 0 ≤ K ∧ K < (l.length : Int) / 2) (hp : ¬ Pt (pv l K.toNat)) : pE l K = 52 ∧ pN l K = 0 := by
  have : pE l K = 52 := by unfold pE; rw [if_pos h, if_neg hp]
  unfold pN; rw [this]; exact ⟨rfl, rfl⟩
theorem pE_yes {l : List Int} {K : Int} (h : Sz l.length ∧ 0 ≤ K ∧ K < (l.length : Int) / 2) (hp : Pt (pv l K.toNat)) : pE l K = 0 ∧ pN l K = pv l K.toNat := by
  have : pE l K = 0 := by unfold pE; rw [if_pos h, if_pos hp]
  unfold pN; rw [this]; exact ⟨rfl, rfl⟩
theorem ipointer_all (a : Option Addr) (n cap : Nat) (K : Int) (l : List Int) (w : World) (hr : Rw w a l) (hn : l.length = n) (hc : n ≤ cap) :
    Calls Try.prog 12 #[.slice a n cap, .int .i64 K] w fun e w' => e = .returned (.tuple #[.int .i64 (pN l K), .int .i64 (pE l K)]) ∧ w = w' := by
  subst hn
  by_cases h : Sz l.length ∧ 0 ≤ K ∧ K < (l.length : Int) / 2
  · obtain ⟨k, hk⟩ := Int.eq_ofNat_of_zero_le h.2.1
    have e : K.toNat = k := by omega
    have hk2 : k * 2 + 2 ≤ l.length := by have := h.2.2; omega
    by_cases hp : Pt (pv l K.toNat)
    · rw [(pE_yes h hp).1, (pE_yes h hp).2, e]
      rw [e] at hp
      exact ipointer_yes a _ cap k K l w hr rfl hk h.1 hk2 hc hp
    · rw [(pE_bad h hp).1, (pE_bad h hp).2]
      rw [e] at hp
      exact ipointer_bad a _ cap k K l w hr rfl hk h.1 hk2 hc hp
  · rw [(pE_no h).1, (pE_no h).2]
    exact ipointer_no a _ cap K w h

theorem ipoint_no (a : Option Addr) (n cap : Nat) (K to : Int) (w : World) (h : ¬ ((Sz n ∧ 0 ≤ K ∧ K < (n : Int) / 2) ∧ Pt to)) :
    Calls Try.prog 14 #[.slice a n cap, .int .i64 K, .int .i64 to] w fun e w' => e = .returned (.tuple #[.slice none 0 0, .int .i64 1]) ∧ w = w' := by
  by_cases h9 : Sz n ∧ 0 ≤ K ∧ K < (n : Int) / 2
  · have hp : ¬ Pt to := fun g => h ⟨h9, g⟩
    obtain ⟨hs, h0, h1⟩ := h9
    have H := Lib.hid (fun w => ptrs_yes n w hs)
    have HT := Lib.hid (fun w => pts_no _ w hp)
    clear h hs hp
    go_enter Try.func14, Try.ntmps14
    go_wp2_with fail
    refine (H.out _).mono ?_
    rintro e w' ⟨rfl, rfl⟩
    go_wp2_with fail
    refine (HT.out _).mono ?_
    rintro e w' ⟨rfl, rfl⟩
    go_wp2
    go_ret2
    exact ⟨rfl, rfl⟩
  · rcases point_not n K h9 with h0 | ⟨h0, hs⟩ | ⟨h0, hs, h1⟩
    · clear h h9
      go_enter Try.func14, Try.ntmps14
      go_wp2
      go_ret2
      exact ⟨rfl, rfl⟩
    · clear h h9
      have H := Lib.hid (fun w => ptrs_no n w hs)
      clear hs
      go_enter Try.func14, Try.ntmps14
      go_wp2_with fail
      refine (H.out _).mono ?_
      rintro e w' ⟨rfl, rfl⟩
      go_wp2
      go_ret2
      exact ⟨rfl, rfl⟩
    · clear h h9
      have H := Lib.hid (fun w => ptrs_yes n w hs)
      clear hs
      go_enter Try.func14, Try.ntmps14
      go_wp2_with fail
      refine (H.out _).mono ?_
      rintro e w' ⟨rfl, rfl⟩
      go_wp2
      go_ret2
      exact ⟨rfl, rfl⟩

set_option maxRecDepth 100000 in
set_option maxHeartbeats 1000000 in
theorem ipoint_yes (a : Option Addr) (n cap k : Nat) (K to : Int) (l : List Int) (w : World) (hr : Rw w a l) (hn : l.length = n) (hK : K = k) (hs : Sz n) (hk : k * 2 + 2 ≤ n) (hp : Pt to) :
    Calls Try.prog 14 #[.slice a n cap, .int .i64 K, .int .i64 to] w fun e w' => (∃ g cc, e = .returned (.tuple #[.slice (some ⟨g, 0, none⟩) n cc, .int .i64 0]) ∧ n ≤ cc ∧ Rw w' (some ⟨g, 0, none⟩) (pset l k to)) ∧ Below w.heap.size w w' := by
  subst hK
  have hb : 64 ≤ n ∧ n ≤ 512 := by unfold Sz at hs; omega
  obtain ⟨b, off, rfl⟩ := hr.addr (by omega)
  have HU := Lib.hid hr.1
  have HL := Lib.hid hn
  have H := Lib.hid (fun w => ptrs_yes n w hs)
  have HT := Lib.hid (fun w => pts_yes _ w hp)
  have HC := Lib.hid (bclone_any n cap b off l w hr hn (by omega))
  have HP := Lib.hid hp
  have h2 : (k : Int) < (n : Int) / 2 := by omega
  clear hr hn hs hp
  go_enter Try.func14, Try.ntmps14
  go_wp2_with fail
  refine (H.out _).mono ?_
  rintro e w' ⟨rfl, rfl⟩
  go_wp2_with fail
  refine (HT.out _).mono ?_
  rintro e w' ⟨rfl, rfl⟩
  go_wp2_with fail
  refine HC.out.mono ?_
  rintro e w1 ⟨⟨g, cc, rfl, hcc, hg, hown⟩, hb1⟩
  have HO := Lib.hid hown
  have HB1 := Lib.hid hb1
  have HQ := Lib.hid (fun w => ipointer_any g 0 n cc k k w rfl (by omega) hcc (by omega))
  clear hown hb1 HC H HT
  go_wp2_with fail
  refine (HQ.out _).mono ?_
  rintro e w' ⟨rfl, rfl⟩
  have HPU := Lib.hid (iput_any w1.heap.size (.slice none 0 0) 0 [] to 2 w1 ⟨HP.out.1, by have := HP.out.2; omega⟩ (by have := HP.out.2; omega) (by omega) (by omega) (World.ownsRow_nil _ _ _ _) (Nat.le_refl _))
  go_wp2_with fail
  refine HPU.out.mono ?_
  rintro e w2 ⟨v2, rfl, hown2, hb2⟩
  obtain ⟨a2, cap2, rfl, hrw2, hlen2, hcap2⟩ := Rw.of_own hown2 (fun m hm => le_U8 2 to m (by simpa using hm))
  obtain ⟨b2, o2, rfl⟩ := hrw2.addr (by simp at hlen2; simp; omega)
  have hO2 : w2.ownsRow w.heap.size 5 1 (.slice (some ⟨g, 0, none⟩) n cc) n (l.map (Value.int .u8)) := own_below HO.out hb2
  obtain ⟨w3, kk, hrun, hown3, hbel3⟩ := run_lay hO2 (k * 2) 2 (cc - k * 2) 2 cap2 b2 o2 ([] ++ le 2 to) hrw2 (by simp [le_length]) (by omega)
  have HB3 := Lib.hid (hbel3 _ _ (HB1.out.trans (hb2.mono HB1.out.size)) (Nat.le_refl _))
  have e3 : splice l (k * 2) (([] ++ le 2 to).take 2) = pset l k to := by
    unfold pset
    rw [List.nil_append, List.take_of_length_le (by rw [le_length]; omega)]
  rw [e3] at hown3
  have HO3 := Lib.hid hown3
  clear hown2 hb2 hrw2 hlen2 hO2 hown3 hbel3 e3 HPU HQ
  go_wp2
  go_ret2
  obtain ⟨a4, cap4, e4, hrw4, hlen4, hcap4⟩ := Rw.of_own HO3.out (pset_u8 HU.out)
  injection e4 with f1 f2 f3
  subst f1 f3
  exact ⟨⟨g, cc, rfl, hcc, hrw4⟩, HB3.out⟩

end Go.Proofs.Ytladgfonkolpmaa
