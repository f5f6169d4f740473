/-
  The program's call Pages: the pages of now, told in order.
-/
import Derived.Test.YtiaaeiefgnoiaaaNandAll
import Derived.Maps.AppendAt
import Derived.Deep.Cut
namespace Go.Proofs.Ytiaaeiefgnoiaaa
open Go.RowKit Crcm Go.ChangeShapes

set_option maxRecDepth 100000 in
set_option maxHeartbeats 1000000 in
theorem clonep_any (pb np : Nat) (cs : Array Value) (w : World) (h : Blk w pb 27 cs) (hs : cs.size = np) (hn : 0 < np ∧ np ≤ 100) (h1 : ∀ u ∈ cs.toList, u.oneCell' = true) :
    Calls Try.prog 49 #[.slice (some ⟨pb, 0, none⟩) np np] w fun e w' => (∃ g cap, e = .returned (.slice (some ⟨g, 0, none⟩) np cap) ∧ w.heap.size ≤ g ∧ g < w'.heap.size ∧ ∀ i, i < np → w'.cell? ⟨g, i, none⟩ = cs[i]?) ∧ Below w.heap.size w w' := by
  obtain ⟨i0, hi, hz0, hz1, hz2⟩ := info_parts Try.infoPg
  have en := fun W a n c => Lib.run_eql_slice_nil (P := Try.prog) W 24 27 a n c 0 0 Try.underlying24
  have HBk := Lib.hid h
  have HSz := Lib.hid hs
  have HN := Lib.hid hn
  have H1 := Lib.hid h1
  clear h hs hn h1
  go_enter Try.func49, Try.ntmps49
  have hown : Hid ((w.alloc (.cells #[] 27)).ownsRow w.heap.size 27 1 (.slice (some ⟨w.heap.size, 0, none⟩) 0 0) 0 []) := Lib.hid (World.ownsRow_lit w #[] 0 (Nat.le_refl _) (Nat.zero_le _) rfl)
  have HBX := Lib.hid ((Below.refl w.heap.size w).alloc (Nat.le_refl _) (.cells #[] 27))
  have HB2 := Lib.hid (HBk.out.alloc (.cells #[] 27))
  go_wp2_with (at_builtin; refine wpList_append_own _ rfl _ _ 24 rfl w.heap.size 27 i0 (.slice none 0 0) 1 24 Try.underlying24 hi hz0 hz1 hz2 rfl (by decide) _ _ _ rfl hown.out ⟨pb, 0, none⟩ np np cs.toList rfl (by rw [Array.length_toList, HSz.out, Nat.mul_one]) ?c1 ?c2 ?c3 ?c4 ?c5 ?_)
  case c1 =>
    intro j u hu
    rw [Addr.add_lit, Nat.zero_add]
    exact (HB2.out.cell j).trans (by rw [← hu, Array.getElem?_toList])
  case c2 => exact H1.out
  case c3 => have := HN.out; unfold maxLen; omega
  case c4 => have := HN.out; omega
  case c5 => simp
  intro v' w2 hown2 hgrow _
  have HBe := Lib.hid (HBX.out.grown hgrow (by simp) (fun g hg => (hown.out.lt g hg).1))
  obtain ⟨hlen, hrow⟩ := hown2
  rcases hrow with ⟨-, h0⟩ | ⟨g, cap, cur, rfl, hg, hheap, hcur, hcap, hsz, ht⟩
  · have := HN.out; omega
  have HC : Hid (g < w2.heap.size ∧ ∀ i, i < np → w2.cell? ⟨g, i, none⟩ = cs[i]?) := Lib.hid ⟨(show Blk w2 g 27 cur from hheap).lt, fun i hin => by
    refine ((show Blk w2 g 27 cur from hheap).cell i).trans ?_
    have e : cur[i]? = (cur.toList.take (np * 1))[i]? := by rw [List.getElem?_take, if_pos (by omega), Array.getElem?_toList]
    rw [e, ht]
    simp⟩
  have HG := Lib.hid hg
  clear hgrow hheap hcur hcap hsz ht hlen hg
  go_wp2
  go_ret
  refine ⟨⟨g, cap, by simp, HG.out, HC.out.1, HC.out.2⟩, HBe.out⟩

theorem size_set0 (w : World) (p : Addr) (u : Value) : w.heap.size ≤ (w.setCell p u).heap.size := ((Kp.refl (fun b => b = p.block) w).setCell (.inl rfl) u).size
theorem pg_one {w : World} {X : Nat → Prop} {v : Value} {wd : Nat} {p : Option (List Int)} (h : PgAt w X v wd p) : v.oneCell' = true := by
  cases p with
  | none => rw [show v = .slice none 0 0 from h]; rfl
  | some l => obtain ⟨b, off, c, rfl, -⟩ := h; rfl
theorem row_one {w : World} {X : Nat → Prop} {np wd : Nat} {f : Nat → Option (List Int)} {cs : Array Value} (h : PgV w X np wd f cs) : ∀ u ∈ cs.toList, u.oneCell' = true := by
  intro u hu
  obtain ⟨i, hi, rfl⟩ := List.getElem_of_mem hu
  have hi2 : i < cs.size := by simpa using hi
  obtain ⟨v, h1, h2⟩ := h.2 i (by rw [← h.1]; exact hi2)
  have e : cs.toList[i] = v := by
    rw [Array.getElem?_eq_getElem hi2] at h1
    injection h1
  rw [e]
  exact pg_one h2

set_option maxRecDepth 100000 in
set_option maxHeartbeats 1000000 in
theorem gpages_yes {w : World} {X : Nat → Prop} {o : Own} {c : Ch} (h : ChAt w X o c) (k : Nat) (hk : reE c k = 0) :
    Calls Try.prog 17 #[o.p, .int .i64 k] w fun e w' => (∃ g cap, e = .returned (.func (.func 50) #[] #[.pointer (some ⟨w.heap.size, 0, none⟩)]) ∧
      Blk w' w.heap.size 24 #[.slice (some ⟨g, 0, none⟩) c.np cap] ∧ w.heap.size < g ∧ g < w'.heap.size ∧ ∀ i, i < c.np → ∃ v, w'.cell? ⟨g, i, none⟩ = some v ∧ PgAt w' X v (c.sz + 32) (c.pg k i)) ∧ Below w.heap.size w w' := by
  obtain ⟨s1, s2, s3⟩ := reE_zero hk
  have hkn : k < c.nb := by omega
  have hg3 : 3 < c.np ∧ c.np < 33 := by have := h.good; unfold Gd at this; omega
  obtain ⟨cs, hb, hv⟩ := h.pages k hkn
  have hbx := (Below.refl w.heap.size w).alloc (Nat.le_refl _) (.cells #[.slice none 0 0] 24)
  have HR := Lib.hid (reach_yes (h.below hbx) k hk)
  have HCl := Lib.hid (clonep_any (o.pb k) c.np cs _ (hb.below hbx hb.lt) hv.1 ⟨by omega, by omega⟩ (row_one hv))
  obtain ⟨p0, -⟩ := h.bcell hkn
  have p1 := (hbx.cell (block_lt_of_cell p0)).trans p0
  have HB := Lib.hid hbx
  have HBk := Lib.hid (Blk.new w 24 #[.slice none 0 0])
  have H := Lib.hid h
  have HV := Lib.hid hv
  have HG3 := Lib.hid hg3
  clear h hk s1 s2 s3 hb hv hbx p0
  go_enter Try.func17, Try.ntmps17
  go_upto_region 2 with (fail)
  generalize (w.alloc (.cells #[.slice none 0 0] 24)) = W at HR HCl p1 HB HBk ⊢
  obtain ⟨q, hq⟩ : ∃ q, w.heap.size = q := ⟨_, rfl⟩
  have HQ := Lib.hid hq
  rw [hq] at HBk ⊢
  clear hq
  go_wp2_with fail
  refine HR.out.mono ?_
  rintro e w' ⟨rfl, rfl⟩
  go_wp2_with fail
  refine HCl.out.mono ?_
  rintro e w2 ⟨⟨g, cap, rfl, hg, hgl, hc⟩, hb2⟩
  have hbq := HBk.out.below hb2 HBk.out.lt
  have z0 : w2.cell? ⟨q, 0, none⟩ = some (.slice none 0 0) := hbq.cell 0
  have zf : w2.frozen? ⟨q, 0, none⟩ = false := hbq.frozen 0
  have hqg : q < g := Nat.lt_of_lt_of_le HBk.out.lt hg
  have hB3 := HB.out.trans (hb2.mono HB.out.size)
  have B3 := Lib.hid (hB3.setCell (p := ⟨q, 0, none⟩) (by show w.heap.size ≤ q; have := HQ.out; omega) (.slice (some ⟨g, 0, none⟩) c.np cap))
  have K3 := Lib.hid (hbq.put 0 (.slice (some ⟨g, 0, none⟩) c.np cap))
  have C3 : Hid (∀ i, i < c.np → ∃ v, (w2.setCell ⟨q, 0, none⟩ (.slice (some ⟨g, 0, none⟩) c.np cap)).cell? ⟨g, i, none⟩ = some v ∧ PgAt (w2.setCell ⟨q, 0, none⟩ (.slice (some ⟨g, 0, none⟩) c.np cap)) X v (c.sz + 32) (c.pg k i)) := Lib.hid (fun i hi => by
    obtain ⟨v, h1, h2⟩ := HV.out.2 i hi
    refine ⟨v, ?_, (h2.kp (F := fun _ => False) (Kp.of_below B3.out) (fun _ g => g.elim))⟩
    have hne : g ≠ q := by omega
    refine (World.cell?_of_block (w := w2) (a := ⟨g, i, none⟩) (Below.heap_setCell w2 ⟨q, 0, none⟩ _ g hne)).trans ?_
    rw [hc i hi]; exact h1)
  have G3 : Hid (g < (w2.setCell ⟨q, 0, none⟩ (.slice (some ⟨g, 0, none⟩) c.np cap)).heap.size) := Lib.hid (Nat.lt_of_lt_of_le hgl (size_set0 ..))
  have HQG := Lib.hid hqg
  clear hbq hB3 hb2 hc hqg hg hgl
  go_wp2
  go_ret
  refine ⟨⟨g, cap, by rw [HQ.out]; rfl, ?_, by rw [HQ.out]; exact HQG.out, G3.out, C3.out⟩, B3.out⟩
  rw [HQ.out]
  exact K3.out

end Go.Proofs.Ytiaaeiefgnoiaaa
