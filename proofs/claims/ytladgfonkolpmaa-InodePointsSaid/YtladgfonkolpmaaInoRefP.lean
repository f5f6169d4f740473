/-
  What Pointer and Point answer (the document's).
-/
import Derived.Test.YtladgfonkolpmaaInoRefG
namespace Go.Proofs.Ytladgfonkolpmaa
open Go.RowKit Crcm Tagm Inom Go.ChangeShapes

theorem pv_nat (l : List Int) (k : Nat) : nat_ l (2 * k) 2 = pv l k := by unfold nat_ pv; rw [Nat.mul_comm]

theorem irefpointer_no (a : Option Addr) (n cap : Nat) (K : Int) (w : World) (h : ¬ (Sz n ∧ 0 ≤ K ∧ K < (n : Int) / 2)) (hn : n ≤ 2000) :
    Calls Try.prog 13 #[.slice a n cap, .int .i64 K] w fun e w' => e = .returned (.tuple #[.int .i64 0, .int .i64 1]) ∧ w = w' := by
  by_cases hs : Sz n
  · have H := Lib.hid (fun w => irefsized_yes n w hs)
    by_cases h0 : K < 0
    · clear h hs
      go_enter Try.func13, Try.ntmps13
      go_wp2_with fail
      refine (H.out _).mono ?_
      rintro e w' ⟨rfl, rfl⟩
      go_wp2
      go_ret2
      exact ⟨rfl, rfl⟩
    · have h1 : (n : Int) / 2 ≤ K := by by_cases g : (n : Int) / 2 ≤ K; exact g; exact absurd ⟨hs, by omega, by omega⟩ h
      clear h hs
      go_enter Try.func13, Try.ntmps13
      go_wp2_with fail
      refine (H.out _).mono ?_
      rintro e w' ⟨rfl, rfl⟩
      go_wp2
      go_ret2
      exact ⟨rfl, rfl⟩
  · have H := Lib.hid (fun w => irefsized_no n w hs)
    clear h hs
    go_enter Try.func13, Try.ntmps13
    go_wp2_with fail
    refine (H.out _).mono ?_
    rintro e w' ⟨rfl, rfl⟩
    go_wp2
    go_ret2
    exact ⟨rfl, rfl⟩

set_option maxHeartbeats 400000 in
theorem irefpointer_in (a : Option Addr) (n cap k : Nat) (l : List Int) (w : World) (hr : Rw w a l) (hn : l.length = n) (hs : Sz n) (hk : k * 2 + 2 ≤ n) (hc : n ≤ cap) :
    Calls Try.prog 13 #[.slice a n cap, .int .i64 k] w fun e w' => e = .returned (.tuple #[.int .i64 (pN l k), .int .i64 (pE l k)]) ∧ w = w' := by
  have hb : 64 ≤ n ∧ n ≤ 512 := by unfold Sz at hs; omega
  obtain ⟨b, off, rfl⟩ := hr.addr (by omega)
  have H := Lib.hid (fun w => irefsized_yes n w hs)
  have HT := Lib.hid (two_any b off n cap (2 * k) (2 * (k : Int)) l w hr hn rfl (by omega) hc (by omega))
  rw [pv_nat] at HT
  have hbd := pv_bd (k := k) hr.1
  have h2 : (k : Int) < (n : Int) / 2 := by omega
  have hI : Sz l.length ∧ 0 ≤ (k : Int) ∧ (k : Int) < (l.length : Int) / 2 := by rw [hn]; exact ⟨hs, by omega, h2⟩
  obtain ⟨hb0, hb1⟩ := hbd
  by_cases hp : Pt (pv l k)
  · obtain ⟨e1, e2⟩ := pE_yes hI (by rw [Int.toNat_natCast]; exact hp)
    rw [e1, e2, Int.toNat_natCast]
    generalize pv l k = x at HT hp hb0 hb1 ⊢
    obtain ⟨p0, p1⟩ := hp
    clear hr hn hs hc hk hI e1 e2
    go_enter Try.func13, Try.ntmps13
    go_wp2_with fail
    refine (H.out _).mono ?_
    rintro e w' ⟨rfl, rfl⟩
    go_wp2_with fail
    refine HT.out.mono ?_
    rintro e w' ⟨rfl, rfl⟩
    go_wp2
    go_ret2
    exact ⟨rfl, rfl⟩
  · obtain ⟨e1, e2⟩ := pE_bad hI (by rw [Int.toNat_natCast]; exact hp)
    rw [e1, e2]
    have hx : 8191 < pv l k := by unfold Pt at hp; omega
    generalize pv l k = x at HT hx hb0 hb1
    clear hr hn hs hc hk hI e1 e2 hp
    go_enter Try.func13, Try.ntmps13
    go_wp2_with fail
    refine (H.out _).mono ?_
    rintro e w' ⟨rfl, rfl⟩
    go_wp2_with fail
    refine HT.out.mono ?_
    rintro e w' ⟨rfl, rfl⟩
    go_wp2
    go_ret2
    exact ⟨rfl, rfl⟩

theorem irefpointer_all (a : Option Addr) (n cap : Nat) (K : Int) (l : List Int) (w : World) (hr : Rw w a l) (hn : l.length = n) (hc : n ≤ cap) (hn2 : n ≤ 2000) :
    Calls Try.prog 13 #[.slice a n cap, .int .i64 K] w fun e w' => e = .returned (.tuple #[.int .i64 (pN l K), .int .i64 (pE l K)]) ∧ w = w' := by
  by_cases h : Sz n ∧ 0 ≤ K ∧ K < (n : Int) / 2
  · obtain ⟨k, rfl⟩ := Int.eq_ofNat_of_zero_le h.2.1
    exact irefpointer_in a n cap k l w hr hn h.1 (by have := h.2.2; omega) hc
  · have h' : ¬ (Sz l.length ∧ 0 ≤ K ∧ K < (l.length : Int) / 2) := by rw [hn]; exact h
    rw [(pE_no h').1, (pE_no h').2]
    exact irefpointer_no a n cap K w h hn2

set_option maxRecDepth 100000 in
set_option maxHeartbeats 4000000 in
theorem irefpoint_yes (a : Option Addr) (n cap k : Nat) (tv : Int) (l : List Int) (w : World) (hr : Rw w a l) (hn : l.length = n) (hs : Sz n) (hk : k * 2 + 2 ≤ n) (hc : n ≤ cap) (hp : Pt tv) :
    Calls Try.prog 15 #[.slice a n cap, .int .i64 k, .int .i64 tv] w fun e w' => (∃ A cc, e = .returned (.tuple #[.slice A n cc, .int .i64 0]) ∧ Rw w' A (pset l k tv)) ∧ Below w.heap.size w w' := by
  have hb : 64 ≤ n ∧ n ≤ 512 := by unfold Sz at hs; omega
  obtain ⟨b, off, rfl⟩ := hr.addr (by omega)
  have H := Lib.hid (fun w => irefsized_yes n w hs)
  have HU := Lib.hid hr.1
  have HN := Lib.hid hn
  have S1 := Lib.hid (fun (w' : World) (hb : Below w.heap.size w w') => (((hr.take (2 * k)).below hb)).src)
  have S3 := Lib.hid (fun (w' : World) (hb : Below w.heap.size w w') => ((hr.mv (2 * k + 2) cap (by omega)).below hb).src)
  have e1 := top_at b off n cap (2 * k) (2 * k) rfl (by omega)
  have e3 := rest_mv b off n cap (2 * k + 2) (2 * k + 2) rfl (by omega)
  have h2 : (k : Int) < (n : Int) / 2 := by omega
  have hwt := u64same hp.u.1
  have HPU := Lib.hid hp.u.1
  obtain ⟨p0, p1⟩ := hp
  clear hs hr hn
  go_enter Try.func15, Try.ntmps15
  go_wp2_with fail
  refine (H.out _).mono ?_
  rintro e w' ⟨rfl, rfl⟩
  go_wp2_with fail
  have s1 : IntKind.i64.wrap (2 * (k : Int)) = 2 * (k : Int) := IntWalk.i64_in _ (by omega)
  have s2 : IntKind.i64.wrap (2 * (k : Int) + 2) = 2 * (k : Int) + 2 := IntWalk.i64_in _ (by omega)
  have HD := Lib.hid ((Below.refl w.heap.size w).drew)
  go_region_law (first
    | (refine step_bytes rfl (.tmp 32) (.tmp 36) rfl w.heap.size (.slice none 0 0) 0 [] (by simp [Act.eval, Act.put]) (World.ownsRow_nil _ _ _ _) (some ⟨b, off, none⟩) (2 * k) cap (l.take (2 * k)) (by simp [Act.eval, Act.put]) (by have := HN.out; rw [List.length_take]; omega) (S1.out _ HD.out) (by omega) (Nat.le_refl _) ?_; intro v2 w2 hown2 hbel2)
    | (refine step_bytes rfl (.tmp 37) (.tmp 40) rfl w.heap.size v2 (2 * k) (l.take (2 * k)) (by simp [Act.eval]) (by simpa using own_below hown2 hb9) a9 2 cap9 (le 2 tv) (by simp [Act.eval]) (le_length _ _) hr9.src (by omega) (Nat.le_trans (HD.out.trans hbel2).size hb9.size) ?_; intro v3 w3 hown3 hbel3; have HC3 := ((HD.out.trans hbel2).trans (hb9.mono (HD.out.trans hbel2).size)).trans hbel3)
    | (refine step_bytes rfl (.tmp 41) (.tmp 46) rfl w.heap.size v3 (2 * k + 2) (l.take (2 * k) ++ le 2 tv) (by simp [Act.eval]) (by simpa using hown3) (mv (some ⟨b, off, none⟩) cap (2 * k + 2)) (n - (2 * k + 2)) (cap - (2 * k + 2)) (l.drop (2 * k + 2)) (by simp [Act.eval]) (by have := HN.out; rw [List.length_drop]; omega) (S3.out _ HC3) (by omega) HC3.size ?_; intro v4 w4 hown4 hbel4; have HC4 := HC3.trans hbel4)
    | (rw [if_pos (by simp [Region.wanted])]; go_simp; go_at_call 47; refine (big_any tv 2 _ HPU.out (by omega)).mono ?_; rintro r w9 ⟨a9, cap9, rfl, hr9, hb9⟩))
  all_goals
    have hB4 := Lib.hid HC4
    have e5 : 2 * k + 2 + (n - (2 * k + 2)) = n := by omega
    rw [e5] at hown4
    have e6 : l.take (2 * k) ++ le 2 tv ++ l.drop (2 * k + 2) = pset l k tv := by
      unfold pset splice
      rw [le_length, Nat.mul_comm k 2, List.append_assoc]
    rw [e6] at hown4
    have HO4 := Lib.hid hown4
    clear hown2 hown3 hown4 hbel2 hbel3 hbel4 e1 e3 s1 s2 e5 e6 HC3 HC4 hb9 hr9
    go_wp2
    go_ret2
    obtain ⟨a4, cap4, rfl, hrw4, hlen4, hcap4⟩ := Rw.of_own HO4.out (pset_u8 HU.out)
    exact ⟨⟨a4, cap4, rfl, hrw4⟩, hB4.out⟩

theorem irefpoint_no (a : Option Addr) (n cap : Nat) (K tv : Int) (w : World) (h : ¬ ((Sz n ∧ 0 ≤ K ∧ K < (n : Int) / 2) ∧ Pt tv)) (hn : n ≤ 2000) :
    Calls Try.prog 15 #[.slice a n cap, .int .i64 K, .int .i64 tv] w fun e w' => e = .returned (.tuple #[.slice none 0 0, .int .i64 1]) ∧ w = w' := by
  by_cases hs : Sz n
  · have H := Lib.hid (fun w => irefsized_yes n w hs)
    by_cases h0 : K < 0
    · clear h hs
      go_enter Try.func15, Try.ntmps15
      go_wp2_with fail
      refine (H.out _).mono ?_
      rintro e w' ⟨rfl, rfl⟩
      go_wp2
      go_ret2
      exact ⟨rfl, rfl⟩
    by_cases h1 : (n : Int) / 2 ≤ K
    · clear h hs
      go_enter Try.func15, Try.ntmps15
      go_wp2_with fail
      refine (H.out _).mono ?_
      rintro e w' ⟨rfl, rfl⟩
      go_wp2
      go_ret2
      exact ⟨rfl, rfl⟩
    by_cases h2 : tv < 0
    · clear h hs
      go_enter Try.func15, Try.ntmps15
      go_wp2_with fail
      refine (H.out _).mono ?_
      rintro e w' ⟨rfl, rfl⟩
      go_wp2
      go_ret2
      exact ⟨rfl, rfl⟩
    · have h3 : 8191 < tv := by
        by_cases g : 8191 < tv
        · exact g
        · exact absurd ⟨⟨hs, by omega, by omega⟩, by unfold Pt; omega⟩ h
      clear h hs
      go_enter Try.func15, Try.ntmps15
      go_wp2_with fail
      refine (H.out _).mono ?_
      rintro e w' ⟨rfl, rfl⟩
      go_wp2
      go_ret2
      exact ⟨rfl, rfl⟩
  · have H := Lib.hid (fun w => irefsized_no n w hs)
    clear h hs
    go_enter Try.func15, Try.ntmps15
    go_wp2_with fail
    refine (H.out _).mono ?_
    rintro e w' ⟨rfl, rfl⟩
    go_wp2
    go_ret2
    exact ⟨rfl, rfl⟩

/-- a page with a pointer, or none; the error beside it -/
def ptB (l : List Int) (K tv : Int) : List Int := if (Sz l.length ∧ 0 ≤ K ∧ K < (l.length : Int) / 2) ∧ Pt tv then pset l K.toNat tv else []
def ptE (l : List Int) (K tv : Int) : Int := if (Sz l.length ∧ 0 ≤ K ∧ K < (l.length : Int) / 2) ∧ Pt tv then 0 else 1
theorem ipoint_all (a : Option Addr) (cap : Nat) (K tv : Int) (l : List Int) (w : World) (hr : Rw w a l) :
    Calls Try.prog 14 #[.slice a l.length cap, .int .i64 K, .int .i64 tv] w fun e w' => (∃ A c, e = .returned (.tuple #[.slice A (ptB l K tv).length c, .int .i64 (ptE l K tv)]) ∧ Rw w' A (ptB l K tv)) ∧ Below w.heap.size w w' := by
  unfold ptB ptE
  by_cases h : (Sz l.length ∧ 0 ≤ K ∧ K < (l.length : Int) / 2) ∧ Pt tv
  · rw [if_pos h, if_pos h]
    obtain ⟨k, rfl⟩ := Int.eq_ofNat_of_zero_le h.1.2.1
    have hk : k * 2 + 2 ≤ l.length := by have := h.1.2.2; omega
    rw [Int.toNat_natCast]
    refine (ipoint_yes a l.length cap k k tv l w hr rfl rfl h.1.1 hk h.2).mono ?_
    rintro e w' ⟨⟨g, cc, rfl, -, hq⟩, hb⟩
    exact ⟨⟨_, cc, by rw [pset_len hk], hq⟩, hb⟩
  · rw [if_neg h, if_neg h]
    refine (ipoint_no a l.length cap K tv w h).mono ?_
    rintro e w' ⟨rfl, rfl⟩
    exact ⟨⟨none, 0, rfl, Rw.nil⟩, Below.refl _ _⟩
theorem irefpoint_all (a : Option Addr) (cap : Nat) (K tv : Int) (l : List Int) (w : World) (hr : Rw w a l) (hc : l.length ≤ cap) (hn : l.length ≤ 2000) :
    Calls Try.prog 15 #[.slice a l.length cap, .int .i64 K, .int .i64 tv] w fun e w' => (∃ A c, e = .returned (.tuple #[.slice A (ptB l K tv).length c, .int .i64 (ptE l K tv)]) ∧ Rw w' A (ptB l K tv)) ∧ Below w.heap.size w w' := by
  unfold ptB ptE
  by_cases h : (Sz l.length ∧ 0 ≤ K ∧ K < (l.length : Int) / 2) ∧ Pt tv
  · rw [if_pos h, if_pos h]
    obtain ⟨k, rfl⟩ := Int.eq_ofNat_of_zero_le h.1.2.1
    have hk : k * 2 + 2 ≤ l.length := by have := h.1.2.2; omega
    rw [Int.toNat_natCast]
    refine (irefpoint_yes a l.length cap k tv l w hr rfl h.1.1 hk hc h.2).mono ?_
    rintro e w' ⟨⟨g, cc, rfl, hq⟩, hb⟩
    exact ⟨⟨_, cc, by rw [pset_len hk], hq⟩, hb⟩
  · rw [if_neg h, if_neg h]
    refine (irefpoint_no a l.length cap K tv w h hn).mono ?_
    rintro e w' ⟨rfl, rfl⟩
    exact ⟨⟨none, 0, rfl, Rw.nil⟩, Below.refl _ _⟩

end Go.Proofs.Ytladgfonkolpmaa
