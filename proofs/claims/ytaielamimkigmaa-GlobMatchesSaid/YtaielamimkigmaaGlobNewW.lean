/-
  The program's New, walked.
-/
import Derived.Test.YtaielamimkigmaaGlobNew
import Derived.Test.YtaielamimkigmaaStrName
namespace Go.Proofs.Ytaielamimkigmaa
open Go.RowKit Go.ChangeShapes Globm Go.ChangeMaps

def okP (L : List ByteArray) : Bool := L.all fun t => (marks (by8 t)).isSome
/-- New's error -/
def nwE (s : ByteArray) : Int := if 255 < s.size ∨ slB s = false then 30 else if 16 < (parts s).length then 30 else if okP (parts s) then 0 else 31
theorem own_atS {w : World} {base n c : Nat} {a : Option Addr} {xs : List Value} {e : TypeId} (h : w.ownsRow base e 1 (.slice a n c) n xs) (j : Nat) (hj : j < n) : ∃ g, a = some ⟨g, 0, none⟩ ∧ n ≤ c ∧ w.cell? ⟨g, j, none⟩ = xs[j]? := by
  have h2 := h.2
  rcases h2 with ⟨h', h0⟩ | ⟨g, cap, cur, h', _, _, hn, _⟩
  · simp at h'; omega
  · injection h' with e1 e2 e3
    subst e1 e3
    exact ⟨g, rfl, hn, h.cellAt j (by simpa using hj)⟩
theorem take_map {ps : List Pe} {L : List ByteArray} {k : Nat} (h : ps.map (·.t) = L.take k) (hk : k ≤ L.length) : ps.length = k := by
  have := congrArg List.length h
  rw [List.length_map, List.length_take] at this
  omega
theorem okP_take {ps : List Pe} {L : List ByteArray} (h : ps.map (·.t) = L) (hm : ∀ e ∈ ps, marks (by8 e.t) = some e.m) : okP L = true := by
  subst h
  unfold okP
  rw [List.all_eq_true]
  intro t ht
  obtain ⟨e, he, rfl⟩ := List.mem_map.1 ht
  rw [hm e he]; rfl

theorem own_formN {w : World} {base k sz : Nat} {v : Value} {xs : List Value} {e : TypeId} (h : w.ownsRow base e sz v k xs) : ∃ a c, v = .slice a k c := by
  rcases h.2 with ⟨rfl, h0⟩ | ⟨g, cap, cur, rfl, _⟩
  · exact ⟨none, 0, by rw [h0]⟩
  · exact ⟨_, cap, rfl⟩
/-- what New hands back -/
def NwP (E : Int) (v : Value) (L : List ByteArray) (w' : World) : Prop := (E = 0 → Pt w' v L) ∧ (E ≠ 0 → v = .pointer none)
theorem NwP.err {E : Int} (h : E ≠ 0) {L : List ByteArray} {w' : World} : NwP E (.pointer none) L w' := ⟨fun h0 => absurd h0 h, fun _ => rfl⟩
theorem NwP.ok {v : Value} {L : List ByteArray} {w' : World} (h : Pt w' v L) : NwP 0 v L w' := ⟨fun _ => h, fun h0 => absurd rfl h0⟩

set_option maxRecDepth 100000 in
set_option maxHeartbeats 4000000 in
theorem new_any (s : ByteArray) (w : World) (hs : s.size ≤ 100000) :
    Calls Try.prog 14 #[.string s] w fun e w' => (∃ v, e = .returned (.tuple #[v, .int .i64 (nwE s)]) ∧ NwP (nwE s) v (parts s) w') ∧ Below w.heap.size w w' := by
  have HPre := Lib.hid (fun w => stringsHasPrefix_any s w)
  by_cases h255 : 255 < s.size
  · have hE : nwE s = 30 := by unfold nwE; rw [if_pos (.inl h255)]
    have t1 : decide ((255 : Int) < (s.size : Int)) = true := by simp; omega
    rw [hE]
    clear hE h255
    go_enter Try.func14, Try.ntmps14
    go_wp2_with fail
    go_ret2
    exact ⟨⟨_, rfl, NwP.err (by decide)⟩, Below.refl _ _⟩
  · have t1 : decide ((255 : Int) < (s.size : Int)) = false := by simp; omega
    cases hsl : slB s with
    | false =>
      have hE : nwE s = 30 := by unfold nwE; rw [if_pos (.inr hsl)]
      rw [hsl] at HPre
      rw [hE]
      clear hE h255 hsl
      go_enter Try.func14, Try.ntmps14
      go_wp2_with fail
      refine (HPre.out _).mono ?_
      rintro e w2 ⟨rfl, rfl⟩
      go_wp2_with fail
      go_ret2
      exact ⟨⟨_, rfl, NwP.err (by decide)⟩, Below.refl _ _⟩
    | true =>
      rw [hsl] at HPre
      have hE0 : nwE s = if 16 < (parts s).length then 30 else if okP (parts s) then 0 else 31 := by unfold nwE; rw [if_neg (by rw [hsl]; simp; omega)]
      have hB := Blk.new w 9 #[.string s]
      have HCo := Lib.hid (collect_any s w.heap.size (w.alloc (.cells #[.string s] 9)) (by omega) hB.lt (hB.cell 0))
      rw [yl_parts hsl] at HCo
      have HPa := Lib.hid (fun w => (callsIn_wide (n := 5)).1 (partsOf_in 5 s w))
      obtain ⟨L, hL⟩ : ∃ L, parts s = L := ⟨_, rfl⟩
      obtain ⟨E, hE⟩ : ∃ E, nwE s = E := ⟨_, rfl⟩
      rw [hL] at hE0 HCo ⊢
      rw [hE] at hE0 ⊢
      have HE := Lib.hid hE0
      have HB1 : Hid (Below w.heap.size w (w.alloc (.cells #[.string s] 9))) := Lib.hid ((Below.refl _ _).alloc (Nat.le_refl _) _)
      clear hE0 hL hE hsl h255 hB
      go_enter Try.func14, Try.ntmps14
      go_wp2_with fail
      refine (HPre.out _).mono ?_
      rintro e w2 ⟨rfl, rfl⟩
      go_wp2_with fail
      refine (HPa.out _).mono ?_
      rintro e w2 ⟨rfl, rfl⟩
      go_wp2_with fail
      refine HCo.out.mono ?_
      rintro e w2 ⟨⟨a, n, c, rfl, ho, hn⟩, hb2⟩
      have HB2 := Lib.hid (HB1.out.trans (hb2.mono (by simp)))
      have HO2 := Lib.hid (own_base0 ho (show w.heap.size ≤ (w.alloc (.cells #[.string s] 9)).heap.size by simp))
      have hnI : (n : Int) ≤ 9223372036854775807 := by have := own_caps ho; omega
      have HN := Lib.hid hn
      clear ho hb2 HCo HPre HPa
      by_cases h16 : 16 < L.length
      · have HE1 : Hid (E = 30) := Lib.hid (by rw [HE.out, if_pos h16])
        have t2 : decide ((16 : Int) < (n : Int)) = true := by simp; omega
        clear h16 hn
        go_wp2_with fail
        go_ret2
        rw [HE1.out]
        exact ⟨⟨_, rfl, NwP.err (by decide)⟩, HB2.out⟩
      · have HE1 : Hid (E = if okP L then 0 else 31) := Lib.hid (by rw [HE.out, if_neg h16])
        have t2 : decide ((16 : Int) < (n : Int)) = false := by simp; omega
        have hn16 : n ≤ 16 := by omega
        clear h16 hn hnI
        go_wp2_with fail
        have P0 : NewSt w w.heap.size w2.heap.size [] (.slice none 0 0) (w2.alloc (.cells #[.slice none 0 0] 55)) := ⟨Blk.new _ _ _, World.ownsRow_nil _ _ _ _, fun e he => by simp at he, HB2.out.alloc HB2.out.size _⟩
        have HP0 := Lib.hid P0
        have HO3 := Lib.hid (HO2.out.alloc (.cells #[.slice none 0 0] 55))
        have hgl : w.heap.size ≤ w2.heap.size := HB2.out.size
        clear P0
        go_loopw [28] (fun i wr => ∃ (k : Nat) (A : Option Addr) (ca : Nat), i = .int .i64 k ∧ k ≤ n ∧ Hid (∃ ps : List Pe, ps.map (·.t) = L.take k ∧ NewSt w w.heap.size w2.heap.size ps (.slice A k ca) wr) ∧ Hid (wr.ownsRow w.heap.size 9 1 (.slice a n c) n (L.map Value.string))) (fun i _ => n - (intOf i).toNat)
        case atStart => exact ⟨0, none, 0, rfl, by omega, Lib.hid ⟨[], rfl, HP0.out⟩, HO3⟩
        case round =>
          obtain ⟨k, A, ca, rfl, hkn, hps, hO⟩ := hrel
          by_cases hlt : k < n
          · obtain ⟨b, rfl, hnc, hcell⟩ := own_atS hO.out k hlt
            have hkL : k < L.length := by have := HN.out; omega
            have hcell2 : wr.cell? ⟨b, k, none⟩ = some (.string L[k]) := by rw [hcell, List.getElem?_map, List.getElem?_eq_getElem hkL]; rfl
            have hkL2 : L[k]? = some L[k] := List.getElem?_eq_getElem hkL
            have htk := List.take_add_one (l := L) (i := k)
            rw [hkL2] at htk
            obtain ⟨t, ht⟩ : ∃ t, L[k] = t := ⟨_, rfl⟩
            rw [ht] at hcell2 htk
            have HTk : Hid (L.take (k + 1) = L.take k ++ [t]) := Lib.hid htk
            have hltI : (k : Int) < (n : Int) := by omega
            have HR := Lib.hid (read_any t wr)
            have hmem : t ∈ L := by rw [← ht]; exact List.getElem_mem hkL
            rcases hm : marks (by8 t) with _ | m
            · rw [hm] at HR
              simp only [rdV] at HR
              have HE2 : Hid (E = 31) := Lib.hid (by
                rw [HE1.out, if_neg (by
                  intro h
                  unfold okP at h
                  rw [List.all_eq_true] at h
                  have := h t hmem
                  rw [hm] at this; cases this)])
              have HBr : Hid (Below w.heap.size w wr) := Lib.hid (by obtain ⟨ps, _, h⟩ := hps.out; exact h.bel)
              clear hcell hkL2 htk ht hm hmem hkL hps hO hkn
              go_wp2_with fail
              refine HR.out.mono ?_
              rintro e w3 ⟨⟨v, rfl, rfl⟩, hb3⟩
              have HB3 := Lib.hid (HBr.out.trans (hb3.mono HBr.out.size))
              clear hb3
              go_wp2_with fail
              go_ret2
              rw [HE2.out]
              exact ⟨⟨_, rfl, NwP.err (by decide)⟩, HB3.out⟩
            · rw [hm] at HR
              simp only [rdV] at HR
              obtain ⟨N, hN⟩ : ∃ N, m.length = N := ⟨_, rfl⟩
              rw [hN] at HR
              have HM := Lib.hid (And.intro hm hN)
              clear hcell hkL2 htk ht hm hmem hkL hN
              go_wp2_with fail
              refine HR.out.mono ?_
              rintro e w3 ⟨⟨v, rfl, Z, cz, rfl, hoz, h64⟩, hb3⟩
              obtain ⟨ps, hpt, hst⟩ := hps.out
              have hst3 := hst.below hb3
              have hO3 := own_belowN hO.out hb3
              have hbw : w.heap.size ≤ wr.heap.size := hst.bel.size
              have hps2 := take_map hpt (by have := HN.out; omega)
              have HSt := Lib.hid hst3
              have HO5 := Lib.hid hO3
              have HZ := Lib.hid (own_base0 hoz hbw)
              have HPt := Lib.hid (And.intro hpt hps2)
              have hw3 : w.heap.size ≤ w3.heap.size := hst3.bel.size
              have p0 := hst3.pat.cell 0
              have pf := hst3.pat.frozen 0
              have HRow : Hid (w3.ownsRow w.heap.size 57 2 (.slice A k ca) k (ptl ps)) := Lib.hid (by have := hst3.row; rwa [hps2] at this)
              clear hoz hb3 hst hst3 hO3 hpt hps2 hps hO h64
              go_wp2_with (at_builtin; refine appT rfl _ _ rfl w.heap.size _ k _ rfl (HRow.out.alloc _) w3.heap.size 1 (t.toList == [42, 42]) Z N cz rfl (Blk.new w3 _ _) (by omega) (by simp; omega) ?_; intro v' w' hown' hb' hg'; obtain ⟨Y, cy, rfl⟩ := own_formN hown'; have hpa : Blk w' w2.heap.size 55 #[.slice A k ca] := (hg'.block w2.heap.size (by have := HSt.out.pat.lt; simp; omega) (fun q => own_type HSt.out.row HSt.out.pat (by decide) q.symm)).trans (HSt.out.pat.alloc _); have y0 := hpa.cell 0; have yf := hpa.frozen 0)
              have hm2 := HM.out
              have hP2 : NewSt w w.heap.size w2.heap.size (ps ++ [⟨t, m, Z, cz⟩]) (.slice Y (k + 1) cy) (w'.setCell ⟨w2.heap.size, 0, none⟩ (.slice Y (k + 1) cy)) := by
                refine (HSt.out.below ((Below.refl _ w3).alloc (Nat.le_refl _) (.cells #[.bool (t.toList == [42, 42]), .slice Z N cz] 57))).push hm2.1 (own_belowN (by rw [hm2.2]; exact HZ.out) ((Below.refl _ w3).alloc (Nat.le_refl _) _)) hg' hb' ?_ hgl
                rw [HPt.out.2]
                show w'.ownsRow w.heap.size 57 2 (.slice Y (k + 1) cy) (k + 1) (ptl ps ++ [.bool (t.toList == [42, 42]), .slice Z m.length cz])
                rw [hm2.2]
                exact hown'
              have hO2 : (w'.setCell ⟨w2.heap.size, 0, none⟩ (.slice Y (k + 1) cy)).ownsRow w.heap.size 9 1 (.slice (some ⟨b, 0, none⟩) n c) n (L.map Value.string) := by
                have h1 := (own_belowN HO5.out ((Below.refl _ w3).alloc (Nat.le_refl _) (.cells #[.bool (t.toList == [42, 42]), .slice Z N cz] 57)))
                have h2 := h1.kept hg' (own_type2 h1 (HRow.out.alloc _) (by decide))
                exact h2.kept (grownBy_setCell' w' w2.heap.size _) (.inr (own_type h2 hpa (by decide)))
              refine ⟨⟨k + 1, Y, cy, by go_num, by omega, Lib.hid ⟨ps ++ [⟨t, m, Z, cz⟩], by rw [List.map_append, HPt.out.1, HTk.out]; rfl, hP2⟩, Lib.hid hO2⟩, ?_⟩
              simp [intOf]; omega
          · have hk : k = n := by omega
            subst hk
            have hnI : ¬ (k : Int) < (k : Int) := by omega
            have HEnd : Hid (NwP 0 (.pointer (some ⟨w2.heap.size, 0, none⟩)) L wr ∧ Below w.heap.size w wr) := Lib.hid (by
              obtain ⟨ps, h1, h2⟩ := hps.out
              rw [List.take_of_length_le (by rw [HN.out]; omega)] at h1
              have hk := congrArg List.length h1
              rw [List.length_map, HN.out] at hk
              have := h2.pt hk
              rw [h1] at this
              exact ⟨NwP.ok this, h2.bel⟩)
            have HE3 : Hid (E = 0) := Lib.hid (by
              obtain ⟨ps, h1, h2⟩ := hps.out
              rw [List.take_of_length_le (by rw [HN.out]; omega)] at h1
              rw [HE1.out, okP_take h1 (fun e he => (h2.each e he).1)]; rfl)
            clear hps hO hlt
            go_wp2_with fail
            go_ret2
            rw [HE3.out]
            exact ⟨⟨_, rfl, HEnd.out.1⟩, HEnd.out.2⟩
end Go.Proofs.Ytaielamimkigmaa
