/-
  The law GlobAll.
-/
import Derived.Test.YtaielamimkigmaaGlobMany
namespace Go.Proofs.Ytaielamimkigmaa
open Go.RowKit Go.ChangeShapes Globm Go.ChangeMaps

theorem RowS.rsz {w : World} {a : Option Addr} {len cap : Nat} {ss : List ByteArray} (h : RowS w a len cap ss) (hu : ∀ s ∈ ss, s.size ≤ 140737488351232) : ∃ l : List ByteArray, l.length = len ∧ len ≤ cap ∧ Rs w a l ∧ ∀ s ∈ l, s.size ≤ 140737488351232 := by
  rcases h with ⟨rfl, rfl, rfl, rfl⟩ | ⟨x, rfl, hl, hm, hz, hc, hs⟩
  · exact ⟨[], rfl, Nat.le_refl _, ⟨by simp, by simp, .inl rfl⟩, by simp⟩
  · refine ⟨ss.take len, by rw [List.length_take]; omega, hl, ⟨fun s h => hs s (List.mem_of_mem_take h), by rw [List.length_take]; omega, ?_⟩, fun s h => hu s (List.mem_of_mem_take h)⟩
    by_cases h0 : len = 0
    · left; subst h0; rfl
    · right
      obtain ⟨b, off, spot⟩ := x
      have hc0 := hc 0 (by omega)
      have hspot : spot = none := by simpa [Addr.add] using World.cell?_spot hc0
      subst hspot
      refine ⟨b, off, rfl, fun j hj => ?_⟩
      rw [List.length_take] at hj
      have := hc j (by omega)
      rw [Addr.add_lit] at this
      rw [this, List.getElem_take]
      simp [List.getD_eq_getElem?_getD, (by omega : j < ss.length)]
theorem cv_many1 {α : Type} (s : List α) (bey : Nat → Bool) : cv [Mk.many] s bey 0 0 = true :=
  (cov_iff [Mk.many] s bey 1 0 (Nat.le_refl _) (Nat.zero_le _)).2 ⟨1, by simp, by simp, by simp; exact mt_many.2 ⟨s, [], by simp, .nil⟩, .inl rfl⟩
def star : ByteArray := ⟨#[42]⟩
def stars2 : ByteArray := ⟨#[47, 42, 42]⟩
theorem star_marks : (marks (by8 star)).isSome = true ∧ ((marks (by8 star)).map (fun m => m.map Mk.run)) = some [true] := by decide +kernel
theorem star_is : marks (by8 star) = some [Mk.many] := by
  have h := star_marks.2
  rcases hm : marks (by8 star) with _ | m
  · rw [hm] at h; cases h
  · rw [hm] at h
    simp only [Option.map_some, Option.some.injEq] at h
    match m, h with
    | [.many], _ => rfl
    | [.one _], h => cases h
theorem star_any : isAny star = false ∧ isAny ⟨#[42, 42]⟩ = true := by decide +kernel
theorem star_all (n : ByteArray) : ptR star n = (true, 0) := by
  unfold ptR
  rw [star_is]
  show (if isAny star then (false, 31) else (cv [Mk.many] (by8 n) (fun _ => false) 0 0, 0)) = _
  rw [cv_many1, star_any.1]
  rfl
theorem stars2_is : nwE stars2 = 0 ∧ parts stars2 = [⟨#[42, 42]⟩] := by decide +kernel
theorem stars2_pk : ([⟨#[42, 42]⟩] : List ByteArray).map pk = [Mk.many] := by simp [pk, star_any.2]

set_option maxRecDepth 100000 in
set_option maxHeartbeats 1000000 in
theorem globAll_walk (name : ByteArray) (a : Option Addr) (len cap : Nat) (z : List ByteArray) (w : World) (_hn : name.size ≤ maxLen) (hz : RowS w a len cap z) (hu : ∀ s ∈ z, s.size ≤ 140737488351232) :
    Calls Try.prog 8 #[.string name, .slice a len cap] w fun e w' => e = .returned (.bool true) ∧ Below w.heap.size w w' := by
  obtain ⟨l, hl, hc, hR, hzl⟩ := hz.rsz hu
  clear hz hu
  by_cases h300 : 300 < name.size
  · have t1 : decide ((300 : Int) < (name.size : Int)) = true := by simp; omega
    clear h300 hR hzl hl hc
    go_enter Try.func8, Try.ntmps8
    go_wp2_with fail
    refine (gknown_any w).mono ?_
    rintro e w2 ⟨rfl, hb⟩
    go_wp2
    go_ret
    exact ⟨rfl, hb⟩
  · have t1 : decide ((300 : Int) < (name.size : Int)) = false := by simp; omega
    have HM := Lib.hid (many_any l a cap len w hR hl hzl)
    have HPa := Lib.hid (fun w => part_any star name w (by omega))
    rw [star_all] at HPa
    have HNw := Lib.hid (fun w => new_any stars2 w (by decide))
    rw [stars2_is.1, stars2_is.2] at HNw
    unfold star at HPa
    unfold stars2 at HNw
    have HR := Lib.hid hR
    have HL := Lib.hid hl
    clear h300 hR hzl hl
    go_enter Try.func8, Try.ntmps8
    go_wp2_with fail
    refine HM.out.mono ?_
    rintro e w2 ⟨⟨b, rfl, hb0⟩, hb⟩
    cases b with
    | true =>
      clear hb0
      go_wp2_with fail
      refine (gknown_any _).mono ?_
      rintro e w3 ⟨rfl, hb3⟩
      go_wp2
      go_ret
      exact ⟨rfl, gbonq hb hb3⟩
    | false =>
      obtain ⟨hn20, hs400⟩ := hb0.out rfl
      have HS := Lib.hid hs400
      have HB := Lib.hid hb
      clear hb0 hs400 hb
      go_wp2_with fail
      refine (HPa.out _).mono ?_
      rintro e w3 ⟨rfl, hb3⟩
      have HB3 := Lib.hid (gbonq HB.out hb3)
      clear hb3 HB
      go_wp2_with fail
      refine (HNw.out _).mono ?_
      rintro e w4 ⟨⟨v, rfl, hv⟩, hb4⟩
      have P := Lib.hid (hv.1 rfl)
      have HB4 := Lib.hid (gbonq HB3.out hb4)
      have HMa := Lib.hid (match_any v _ a len cap l w4 P.out (by decide) (HR.out.below HB4.out) HL.out (by omega) (fun x hx => by have := HS.out x hx; omega))
      have HMy := Lib.hid (fun w (hb : Below w4.heap.size w4 w) => may_any v _ a len cap l w (P.out.below hb) (by decide) (HR.out.below (gbonq HB4.out hb)) HL.out (by omega) (fun x hx => by have := HS.out x hx; omega))
      rw [stars2_pk, cv_many1] at HMa
      rw [stars2_pk] at HMy
      simp only [cv_many1] at HMy
      clear hv hb4 HB3
      go_wp2_with fail
      refine HMa.out.mono ?_
      rintro e w5 ⟨rfl, hb5⟩
      have HB5 := Lib.hid (gbonq HB4.out hb5)
      go_wp2_with fail
      refine (HMy.out w5 hb5).mono ?_
      rintro e w6 ⟨rfl, hb6⟩
      have HB6 := Lib.hid (gbonq HB5.out hb6)
      clear hb5 hb6
      go_wp2_with fail
      refine (match_nil _ _).mono ?_
      rintro e w7 ⟨rfl, rfl⟩
      go_wp2_with fail
      refine (may_nil _ _).mono ?_
      rintro e w8 ⟨rfl, hb8⟩
      have HB8 := Lib.hid (gbonq HB6.out hb8)
      clear hb8
      go_wp2_with fail
      refine (psize_nil _).mono ?_
      rintro e w9 ⟨rfl, rfl⟩
      go_wp2_with fail
      refine (gknown_any _).mono ?_
      rintro e w10 ⟨rfl, hb10⟩
      go_wp2
      go_ret
      exact ⟨rfl, gbonq HB8.out hb10⟩
end Go.Proofs.Ytaielamimkigmaa
