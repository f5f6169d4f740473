/-
  The copies that are taken, handed on one by one: the program's iterator. Nothing of one statement alone stands here.
-/
import Derived.Test.YtaohkakefdhecaaSqMap
import Derived.Test.YtaohkakefdhecaaSqWalk
import Derived.Laws.Cover3
import Derived.Deep.RegionWith
import Derived.Deep.RegionHeld3
namespace Go.Proofs.Ytaohkakefdhecaa
open Go.RowKit Go.Shelf Crcm Sqm Tagm Inom Roomm Go.ChangeShapes Go.Maps Go.WideElems Go.MapKept

attribute [local go_sem] Oper.semAt_some

theorem Rows.lt {W : World} {M met : Nat} {l : List Int} (h : Rows W M l met) : M < W.heap.size := by
  obtain ⟨D, ⟨es, clock, hb, _⟩, _⟩ := h
  exact (Array.getElem?_eq_some_iff.1 hb).1
/-- it lies as it lay where its block and the rows of numbers behind it lie as they lay -/
theorem Rows.keep {W X : World} {M met : Nat} {l : List Int} (h : Rows W M l met) (hM : X.heap[M]? = W.heap[M]?) (hI : ∀ r cs fr, M < r → W.heap[r]? = some (.cells cs 3 fr) → X.heap[r]? = W.heap[r]?) : Rows X M l met := by
  obtain ⟨D, ⟨es, clock, hb, F, hs, rfl, hbb, hlen, hap⟩, hD⟩ := h
  have hoi : ∀ v zs, W.ownsInts (M + 1) 3 .i64 v zs → X.ownsInts (M + 1) 3 .i64 v zs := fun v zs ho => by
    obtain ⟨⟨h1, h2⟩, h3⟩ := ho
    refine ⟨⟨h1, ?_⟩, h3⟩
    rcases h2 with h2 | ⟨g, cap, cur, e, hg, hh, r⟩
    · exact .inl h2
    · exact .inr ⟨g, cap, cur, e, hg, (hI g _ _ (by omega) hh).trans hh, r⟩
  have hst : ∀ x ∈ es.toList, ∀ z, rowElem (H := Unit) W (M + 1) 3 .i64 x.val = some z → rowElem X (M + 1) 3 .i64 x.val = some z := fun x hx z hz => by
    obtain ⟨zs, ho, rfl⟩ := rowElem_inv hz
    exact rowElem_mk (hoi _ _ ho)
  obtain ⟨F1, hmap, _⟩ := F.stay hst
  refine ⟨_, ⟨es, clock, hM.trans hb, F1, hs, rfl, hbb, fun x hx zs ho => ?_, hap⟩, by rw [hmap]; exact hD⟩
  obtain ⟨y, hy⟩ := F.reads x hx
  obtain ⟨z, hz, _⟩ := rd_val hy
  obtain ⟨zs0, ho0, _⟩ := rowElem_inv hz
  rw [ho.unique (hoi _ _ ho0)]
  exact hlen x hx zs0 ho0
theorem Rows.below {W X : World} {M met : Nat} {l : List Int} (h : Rows W M l met) (hb : Below W.heap.size W X) : Rows X M l met :=
  h.keep (hb.block _ h.lt) (fun r _ _ _ hr => hb.block r (Array.getElem?_eq_some_iff.1 hr).1)
/-- a look-up -/
theorem Rows.look {W : World} {M met : Nat} {l : List Int} (h : Rows W M l met) (hn : met < maxLen) {x y z : Int} (hx : U8 x) (hy : U8 y) (hz : U8 z) :
    ∃ a c, (∀ X : World, X.heap[M]? = W.heap[M]? → (Instr.lookup 55 (.map (some M)) (v3 x y z) false).run Try.prog X = .ok (.slice a (ri3 l (x, y, z) met).length c) X) ∧
      Ri W a (ri3 l (x, y, z) met) ∧ (ri3 l (x, y, z) met).length ≤ c := by
  obtain ⟨D, ho, hD⟩ := h
  have hkey := keyOf_three (U8_lit hx) (U8_lit hy) (U8_lit hz)
  obtain ⟨v, zs, hrun, hat, hoi, hzl, -⟩ := ho.at threeKeyed Try.underlying55 (zero_ints W) hn hkey
  have hzs := rdat_inj hoi ((hD x y z hx hy hz).symm.trans hat)
  subst hzs
  obtain ⟨a, c, rfl⟩ := own_slice hoi.1
  obtain ⟨a', c', he, hri, -, hc⟩ := Ri.of_own hoi.1 (fun m hm => I64_wf (hoi.2 m hm))
  injection he with e1 _ e3
  subst e1 e3
  refine ⟨a, c, fun X hX => ?_, hri, hc⟩
  obtain ⟨es, clock, hb, F, _⟩ := ho
  exact look_like threeKeyed Try.underlying55 zero_ints hb (hX.trans hb) F hkey hrun
/-- a place more -/
theorem Rows.push {W : World} {M met : Nat} {l : List Int} (h : Rows W M l met) (hn : met < 1000000) {x y z : Int} (hx : U8 x) (hy : U8 y) (hz : U8 z) (hthr : thr l met = (x, y, z)) :
    ∃ (v : Value) (st : Nat) (w1 : World) (zs : List Int), (Instr.mapEntry 55 (.map (some M)) (v3 x y z)).run Try.prog W = .ok (.tuple #[v, goInt st]) w1 ∧ W.grownBy w1 (some M) ∧ w1.ownsRow (M + 1) 3 1 v zs.length (zs.map (Value.int .i64)) ∧ (∀ m ∈ zs, I64 m) ∧ zs.length ≤ met ∧
      ∀ (w2 : World) (v' : Value), w1.grownBy w2 v.ownBlock → w2.ownsRow (M + 1) 3 1 v' (zs.length + 1) ((zs ++ [(met : Int)]).map (Value.int .i64)) → (v'.ownBlock = v.ownBlock ∨ v'.ownBlock = some w1.heap.size) →
        ∃ w3, (Instr.entryStore 55 (.map (some M)) (goInt st) v').run Try.prog w2 = .ok () w3 ∧ Rows w3 M l (met + 1) ∧ w2.grownBy w3 (some M) := by
  obtain ⟨D, ho, hD⟩ := h
  have hkey := keyOf_three (U8_lit hx) (U8_lit hy) (U8_lit hz)
  obtain ⟨v, zs, st, w1, hE, hg1, hat, hoi, hzl, hvb, hbb, hS⟩ := push_any threeLaw threeKeyed Try.underlying55 zero_ints ho (by unfold maxLen; omega) hkey
  have hzs := rdat_inj hoi ((hD x y z hx hy hz).symm.trans hat)
  refine ⟨v, st, w1, zs, hE, hg1, hoi.1, fun m hm => I64_wf (hoi.2 m hm), hzl, fun w2 v' hg hown hloc => ?_⟩
  have hmet : (Lit.int .i64 (met : Int)).wf = true := I64_lit (by unfold I64; omega)
  have hown' : w2.ownsInts (M + 1) 3 .i64 v' (zs ++ [(met : Int)]) := ⟨by simpa using hown, fun m hm => by
    rcases List.mem_append.1 hm with h1 | h1
    · exact hoi.2 m h1
    · rw [List.mem_singleton.1 h1]; exact hmet⟩
  obtain ⟨w3, hr3, ho3, hg3⟩ := hS w2 v' _ hg hown' (by simp; omega) (by rcases hloc with h1 | h1; exact .inl h1; exact .inr ⟨_, h1, Nat.le_refl _⟩)
  refine ⟨w3, hr3, ⟨_, ho3, fun a b c ha hb hc => ?_⟩, hg3⟩
  have hrow : ri3 l (a, b, c) (met + 1) = if (x, y, z) = (a, b, c) then ri3 l (a, b, c) met ++ [(met : Int)] else ri3 l (a, b, c) met := by
    unfold ri3
    rw [row_succ, hthr]
    split <;> simp
  rw [hrow]
  by_cases e : (x, y, z) = (a, b, c)
  · injection e with e1 e
    injection e with e2 e3
    subst e1 e2 e3
    have hmap : IsMap D := by obtain ⟨_, _, _, _, _, e, _⟩ := ho; exact ⟨_, e⟩
    rw [if_pos rfl, Maps.atKey_put_same hmap (threeKeyed.key hkey), hown'.datum_pos (by simp), hzs]
    unfold rdat
    rw [if_neg (by simp)]
  · rw [if_neg e, Maps.atKey_put_other (fun h => e (by
      obtain ⟨e1, e2, e3⟩ := k3_inj (U8_lit ha) (U8_lit hb) (U8_lit hc) (U8_lit hx) (U8_lit hy) (U8_lit hz) h
      rw [e1, e2, e3]))]
    exact hD a b c ha hb hc

/-- what a round keeps: what holds no bytes, behind a place; and two blocks -/
def Kc (Bn b q : Nat) (X Y : World) : Prop := (∀ r o, q ≤ r → X.heap[r]? = some o → (∀ cs fr, o ≠ .cells cs 5 fr) → Y.heap[r]? = some o) ∧ Y.heap[Bn]? = X.heap[Bn]? ∧ Y.heap[b]? = X.heap[b]? ∧ X.heap.size ≤ Y.heap.size
theorem Kc.trans {Bn b q : Nat} {A B C : World} (h : Kc Bn b q A B) (k : Kc Bn b q B C) : Kc Bn b q A C :=
  ⟨fun r o hq ho hn => k.1 r o hq (h.1 r o hq ho hn) hn, k.2.1.trans h.2.1, k.2.2.1.trans h.2.2.1, Nat.le_trans h.2.2.2 k.2.2.2⟩
theorem ty_ne : (3 : TypeId) ≠ 5 := by decide
theorem Rows.kc {X Y : World} {Bn b M met : Nat} {l : List Int} (h : Rows X M l met) (hk : Kc Bn b M X Y) : Rows Y M l met :=
  h.keep (by
    obtain ⟨D, ⟨es, clock, hb, _⟩, _⟩ := h
    rw [hk.1 M _ (Nat.le_refl _) hb (fun cs fr e => by cases e), hb]) (fun r cs fr hr ho => by
    rw [hk.1 r _ (Nat.le_of_lt hr) ho (fun cs' fr' e => by injection e with _ e2; exact ty_ne e2), ho])

/-- what lies in memory between the rounds -/
structure CSt (Bn b : Nat) (W : World) (l : List Int) (met : Nat) (X : World) : Prop where
  rows : Rows X W.heap.size l met
  bn : X.heap[Bn]? = W.heap[Bn]?
  bb : X.heap[b]? = W.heap[b]?
  sz : W.heap.size + 1 ≤ X.heap.size
theorem CSt.below {Bn b : Nat} {W X Y : World} {l : List Int} {met : Nat} (h : CSt Bn b W l met X) (hn : Bn < W.heap.size) (hb : b < W.heap.size) (hB : Below X.heap.size X Y) : CSt Bn b W l met Y :=
  ⟨h.rows.below hB, (hB.block _ (by have := h.sz; omega)).trans h.bn, (hB.block _ (by have := h.sz; omega)).trans h.bb, Nat.le_trans h.sz hB.size⟩

/-- the blocks that the iterator turns: its map, and its rows of numbers -/
def Tc (q : Nat) (A : World) (r : Nat) : Prop := r = q ∨ (q ≤ r ∧ ∃ cs fr, A.heap[r]? = some (.cells cs 3 fr))
/-- a copy, as it is handed on -/
def cpv (l : List Int) (i : Nat) : Value := .agg #[.int .i64 (cpn l i : Int), .int .i64 (cpd l i : Int), .slice none 0 0]

theorem ri_one (w : World) (x : Int) (hx : I64 x) : Ri (w.alloc (.cells #[.int .i64 x] 3)) (some ⟨w.heap.size, 0, none⟩) [x] := by
  refine ⟨fun n hn => by simp at hn; subst hn; exact hx, by simp [maxLen], .inr ⟨_, 0, rfl, fun j hj => ?_⟩⟩
  simp at hj; subst hj
  exact (Blk.new w 3 #[.int .i64 x]).cell 0
theorem new3 {w w2 : World} {x y z : Value} {t : TypeId} (h : Below (w.alloc (.cells #[x, y, z] t)).heap.size (w.alloc (.cells #[x, y, z] t)) w2) :
    w2.cell? ⟨w.heap.size, 0, none⟩ = some x ∧ w2.cell? ⟨w.heap.size, 1, none⟩ = some y ∧ w2.cell? ⟨w.heap.size, 2, none⟩ = some z ∧ w2.frozen? ⟨w.heap.size, 0, none⟩ = false ∧ w2.frozen? ⟨w.heap.size, 1, none⟩ = false ∧ w2.frozen? ⟨w.heap.size, 2, none⟩ = false ∧ Blk w2 w.heap.size t #[x, y, z] := by
  have := (Blk.new w t #[x, y, z]).below h (by simp)
  exact ⟨this.cell 0, this.cell 1, this.cell 2, this.frozen 0, this.frozen 1, this.frozen 2, this⟩
theorem Tc_own {q k : Nat} {A : World} {v : Value} {xs : List Value} (h : A.ownsRow (q + 1) 3 1 v k xs) : ∀ r, v.ownBlock = some r → Tc q A r := fun r e => by
  rcases h.2 with ⟨h0, _⟩ | ⟨g, cap, cur, h0, hb, hg, _⟩
  · rw [h0] at e; simp [Value.ownBlock] at e
  · rw [h0] at e
    simp [Value.ownBlock] at e
    subst e
    exact .inr ⟨by omega, _, _, hg⟩

theorem meetA {wr w2 : World} {x y z : Value} (hb2 : Below wr.heap.size wr w2) : ∃ p : Nat, Value.pointer (some ⟨w2.heap.size, 0, none⟩) = .pointer (some ⟨p, 0, none⟩) ∧ wr.heap.size ≤ p ∧ Hid (Blk (w2.alloc (.cells #[x, y, z] 43)) p 43 #[x, y, z]) ∧ Hid (Below wr.heap.size wr (w2.alloc (.cells #[x, y, z] 43))) :=
  ⟨w2.heap.size, rfl, hb2.size, Lib.hid (Blk.new _ _ _), Lib.hid (hb2.alloc hb2.size _)⟩
theorem meetB {wr w2 : World} {x y z : Value} (hb2 : Below wr.heap.size wr w2) (q6 : Hid (Blk w2 wr.heap.size 43 #[.int .i64 0, .int .i64 0, .slice none 0 0])) : ∃ p : Nat, Value.pointer (some ⟨wr.heap.size, 0, none⟩) = .pointer (some ⟨p, 0, none⟩) ∧ wr.heap.size ≤ p ∧ Hid (Blk (((w2.setCell ⟨wr.heap.size, 0, none⟩ x).setCell ⟨wr.heap.size, 1, none⟩ y).setCell ⟨wr.heap.size, 2, none⟩ z) p 43 #[x, y, z]) ∧ Hid (Below wr.heap.size wr (((w2.setCell ⟨wr.heap.size, 0, none⟩ x).setCell ⟨wr.heap.size, 1, none⟩ y).setCell ⟨wr.heap.size, 2, none⟩ z)) :=
  ⟨wr.heap.size, rfl, Nat.le_refl _, Lib.hid (it3_blk q6.out), Lib.hid (it3_below hb2 (Nat.le_refl _))⟩
theorem meetC {wr w2 : World} {x y z : Value} (hb2 : Below wr.heap.size wr w2) : ∃ p : Nat, Value.pointer (some ⟨w2.heap.size, 0, none⟩) = .pointer (some ⟨p, 0, none⟩) ∧ wr.heap.size ≤ p ∧ Hid (Blk ((w2.alloc (.cells #[x, y, z] 43)).drew) p 43 #[x, y, z]) ∧ Hid (Below wr.heap.size wr ((w2.alloc (.cells #[x, y, z] 43)).drew)) :=
  ⟨w2.heap.size, rfl, hb2.size, Lib.hid (Blk.new _ _ _), Lib.hid (hb2.alloc hb2.size _).drew⟩
theorem meetD {wr w2 : World} {x y z : Value} (hb2 : Below wr.heap.size wr w2) (q6 : Hid (Blk w2 wr.heap.size 43 #[.int .i64 0, .int .i64 0, .slice none 0 0])) : ∃ p : Nat, Value.pointer (some ⟨wr.heap.size, 0, none⟩) = .pointer (some ⟨p, 0, none⟩) ∧ wr.heap.size ≤ p ∧ Hid (Blk ((((w2.setCell ⟨wr.heap.size, 0, none⟩ x).setCell ⟨wr.heap.size, 1, none⟩ y).setCell ⟨wr.heap.size, 2, none⟩ z).drew) p 43 #[x, y, z]) ∧ Hid (Below wr.heap.size wr ((((w2.setCell ⟨wr.heap.size, 0, none⟩ x).setCell ⟨wr.heap.size, 1, none⟩ y).setCell ⟨wr.heap.size, 2, none⟩ z).drew)) :=
  ⟨wr.heap.size, rfl, Nat.le_refl _, Lib.hid (it3_blk q6.out), Lib.hid (it3_below hb2 (Nat.le_refl _)).drew⟩

set_option maxRecDepth 100000 in
set_option maxHeartbeats 16000000 in
theorem copies_in (n : Nat) (_hn : 1 ≤ n) (Bn b off m c : Nat) (a : Option Addr) (l : List Int) (hl : l.length = m) (hmc : m ≤ c) (hm : m ≤ 65536) (ha : l = [] ∨ a = some ⟨b, off, none⟩) (w : World)
    (hbk : Blk w Bn 22 #[.slice a m c]) (hr : Rw w a l) (hbl : b < w.heap.size) :
    SeqAt Fence.wide n Try.prog 28 #[.pointer (some ⟨Bn, 0, none⟩)] (fun k => #[.int .i64 ((cps l).getD k 0 : Nat), cpv l ((cps l).getD k 0)]) Tc 1 (Kc Bn b) (cps l).length w := by
  intro y J Jx W hW hJ _ hY h0
  have hbkW := hbk.below hW hbk.lt
  have hrW := hr.below hW
  have hblW : b < W.heap.size := Nat.lt_of_lt_of_le hbl hW.size
  clear hbk hr hW hbl w
  have HJ := Lib.hid hJ
  have HL := Lib.hid hl
  have HA := Lib.hid ha
  have HR : Hid (∀ wr : World, wr.heap[b]? = W.heap[b]? → Rw wr a l) := Lib.hid fun wr hk => hrW.kb (by rcases ha with h | h; exact .inl h; exact .inr ⟨off, h⟩) hk
  have HBk : Hid (∀ wr : World, wr.heap[Bn]? = W.heap[Bn]? → wr.cell? ⟨Bn, 0, none⟩ = some (.slice a m c)) := Lib.hid fun wr hk => Blk.cell (cs := #[.slice a m c]) (hk.trans hbkW) 0
  have hBnW := hbkW.lt
  have HY := Lib.hid hY
  have HM := Lib.hid hm
  have hmI : (m : Int) ≤ 4611686018427380000 := by omega
  clear hJ hY hrW ha hbkW hm
  refine callsIn_of_wp Try.func28 rfl trivial ?_ rfl
  simp only [Try.ntmps28, List.size_toArray, List.length_cons, List.length_nil, Nat.reduceAdd, Nat.reduceSub, Array.replicate_succ, Array.replicate_zero, List.push_toArray, List.append_toArray, List.nil_append, List.cons_append]
  have hmm := @run_makeMap Try.prog
  gi_wp2_with fail
  gi_loopw [4, 5] (fun s4 s5 wr => ∃ t met at_ : Nat, s4 = .int .i64 (met : Int) ∧ s5 = .int .i64 (at_ : Int) ∧ met ≤ at_ ∧ at_ ≤ m ∧ Hid (at_ = wk l t) ∧ Hid (J (cs l t).length wr) ∧ Hid (CSt Bn b W l met wr)) (fun _ s5 _ => m - (intOf s5).toNat)
  case atStart => exact ⟨0, 0, 0, rfl, rfl, Nat.le_refl _, Nat.zero_le _, Lib.hid rfl, Lib.hid (HJ.out _ _ _ none h0 (World.grownBy_alloc W _ none) (fun r e => by cases e)), Lib.hid ⟨Rows.new W l, Below.heap_alloc _ _ _ hBnW, Below.heap_alloc _ _ _ hblW, by simp⟩⟩
  case round =>
    obtain ⟨t, met, at_, rfl, rfl, hma, ham, hat, hJt, hC⟩ := hrel
    have hcl := HBk.out wr hC.out.bn
    by_cases h3 : at_ + 3 ≤ m
    · have h3I : (at_ : Int) + 3 ≤ (m : Int) := by omega
      have hae : a = some ⟨b, off, none⟩ := by
        rcases HA.out with h | h
        · have := HL.out; rw [h] at this; simp at this; omega
        · exact h
      subst hae
      refine wpIn_wide.2 ?_
      go_wp2_with fail
      go_loopw [4] (fun s4 wr => ∃ met : Nat, s4 = .int .i64 (met : Int) ∧ met ≤ at_ ∧ Hid (J (cs l t).length wr) ∧ Hid (CSt Bn b W l met wr)) (fun s4 _ => at_ - (intOf s4).toNat)
      case atStart => exact ⟨met, rfl, hma, hJt, hC⟩
      case round =>
        obtain ⟨mt, rfl, hmt, hJ2, hC2⟩ := hrel
        by_cases hlt : mt < at_
        · have hcl2 := HBk.out wr hC2.out.bn
          have hltI : (mt : Int) < (at_ : Int) := by omega
          have hRw := HR.out wr hC2.out.bb
          have g0 := hRw.get (j := mt) (by have := HL.out; omega)
          have g1 : wr.cell? ⟨b, off + mt + 1, none⟩ = some (.int .u8 (l.getD (mt + 1) 0)) := hRw.get (j := mt + 1) (by have := HL.out; omega)
          have g2 : wr.cell? ⟨b, off + mt + 2, none⟩ = some (.int .u8 (l.getD (mt + 2) 0)) := hRw.get (j := mt + 2) (by have := HL.out; omega)
          have hu : ∀ i, i < m → U8 (l.getD i 0) := fun i hi => hRw.1 _ (by rw [List.getD_eq_getElem?_getD, List.getElem?_eq_getElem (by have := HL.out; omega : i < l.length)]; exact List.getElem_mem _)
          have hu0 := hu mt (by omega)
          have hu1 := hu (mt + 1) (by omega)
          have hu2 := hu (mt + 2) (by omega)
          have hthr : thr l mt = (l.getD mt 0, l.getD (mt + 1) 0, l.getD (mt + 2) 0) := rfl
          generalize l.getD mt 0 = x at *
          generalize l.getD (mt + 1) 0 = y1 at *
          generalize l.getD (mt + 2) 0 = z at *
          have hat3 : ∀ w, (Instr.arrayAt 57 (.slice (some ⟨b, off + mt, none⟩) (m - mt) (c - mt))).run Try.prog w = .ok (.pointer (some ⟨b, off + mt, none⟩)) w := fun w => run_arrayAt w 57 _ 3 _ (m - mt) (c - mt) Try.underlying57 (by omega)
          have hb7 : Below wr.heap.size wr ((wr.alloc (.cells #[.int .u8 x, .int .u8 y1, .int .u8 z] 57)).alloc (.cells #[.int .i64 (mt : Int)] 3)) := ((Below.refl _ _).alloc (Nat.le_refl _) _).alloc (by simp) _
          have hC7 := hC2.out.below hBnW hblW hb7
          have hri := ri_one (wr.alloc (.cells #[.int .u8 x, .int .u8 y1, .int .u8 z] 57)) (mt : Int) (by unfold I64; have := HM.out; omega)
          obtain ⟨v, st, w1, zs, hE, hg1, hown, hzI, hzl, hS⟩ := hC7.rows.push (by have := HM.out; omega) hu0 hu1 hu2 hthr
          obtain ⟨va, vc, rfl⟩ := own_slice hown
          unfold v3 goInt at hE
          have HS := Lib.hid hS
          have HOwn := Lib.hid hown
          have HG1 := Lib.hid hg1
          have HC7 := Lib.hid hC7
          have HB7 := Lib.hid hb7
          have HZ := Lib.hid (And.intro hzI hzl)
          have HRI := Lib.hid hri
          have hri1 := hri.kb (wr := w1) (b := wr.heap.size + 1) (.inr ⟨0, by simp⟩) (hg1.block _ (by simp) (fun e => by injection e with e; have := hC2.out.sz; omega))
          rw [World.size_alloc] at hri1
          have HRI1 := Lib.hid hri1
          have hsz1 : W.heap.size + 1 ≤ w1.heap.size := Nat.le_trans hC7.sz hg1.size
          have hmt : zs.length + 1 ≤ 1000000 := by have := HM.out; omega
          clear hS hown hg1 hC7 hb7 hzI hzl hri hu hRw hthr hri1
          go_wp2_with (at_builtin; refine append_ints rfl _ _ rfl (W.heap.size + 1) _ zs.length zs rfl HOwn.out (some ⟨wr.heap.size + 1, 0, none⟩) 1 1 [(mt : Int)] rfl rfl HRI1.out (fun e => by cases e) hmt hsz1 ?_; intro v' w2 hown2 hb2 hg2 hloc; obtain ⟨w3, hr3, hR3, hg3⟩ := HS.out w2 v' hg2 hown2 hloc; obtain ⟨va2, vc2, rfl⟩ := own_slice hown2; unfold goInt at hr3)
          have hJ3 : J (cs l t).length w3 := HJ.out _ w2 w3 _ (HJ.out _ w1 w2 _ (HJ.out _ _ w1 _ (HJ.out _ _ _ none hJ2.out (grown_below1 HB7.out none) (fun r e => by cases e)) HG1.out (fun r e => by cases e; exact .inl (.inl rfl))) hg2 (fun r e => .inl (Tc_own HOwn.out r e))) hg3 (fun r e => by cases e; exact .inl (.inl rfl))
          have hblk : ∀ r, r < W.heap.size → w3.heap[r]? = wr.heap[r]? := fun r hr => by
            have hr1 : r < wr.heap.size := by have := hC2.out.sz; omega
            have h1 := HB7.out.block r hr1
            have h2 := HG1.out.block r (Nat.lt_of_lt_of_le hr1 HB7.out.size) (fun e => by injection e with e; omega)
            have h3 := hb2.block r (by omega)
            have h4 := hg3.block r (by have := hg2.size; omega) (fun e => by injection e with e; omega)
            exact h4.trans (h3.trans (h2.trans h1))
          have HC3 : Hid (CSt Bn b W l (mt + 1) w3) := Lib.hid ⟨hR3, (hblk _ hBnW).trans hC2.out.bn, (hblk _ hblW).trans hC2.out.bb, Nat.le_trans hsz1 (Nat.le_trans hg2.size hg3.size)⟩
          have HJ3 := Lib.hid hJ3
          clear hblk hJ3 hR3 hg3 hb2 hg2 hown2
          go_wp2
          go_roundw
          case rel => exact ⟨mt + 1, by go_num, by omega, HJ3, HC3⟩
          case measure => simp [intOf]; omega
        · have hmt2 : mt = at_ := by omega
          subst hmt2
          have hRw := HR.out wr hC2.out.bb
          have g0 := hRw.get (j := mt) (by have := HL.out; omega)
          have g1 : wr.cell? ⟨b, off + mt + 1, none⟩ = some (.int .u8 (l.getD (mt + 1) 0)) := hRw.get (j := mt + 1) (by have := HL.out; omega)
          have g2 : wr.cell? ⟨b, off + mt + 2, none⟩ = some (.int .u8 (l.getD (mt + 2) 0)) := hRw.get (j := mt + 2) (by have := HL.out; omega)
          have hu : ∀ i, i < m → U8 (l.getD i 0) := fun i hi => hRw.1 _ (by rw [List.getD_eq_getElem?_getD, List.getElem?_eq_getElem (by have := HL.out; omega : i < l.length)]; exact List.getElem_mem _)
          have hu0 := hu mt (by omega)
          have hu1 := hu (mt + 1) (by omega)
          have hu2 := hu (mt + 2) (by omega)
          obtain ⟨ra, rc, hlook, hri, hrc⟩ := hC2.out.rows.look (by have := HM.out; unfold maxLen; omega) hu0 hu1 hu2
          have HLong : Hid (∀ X : World, Below wr.heap.size wr X → Calls Try.prog 29 #[.slice (some ⟨b, off, none⟩) m c, .int .i64 (mt : Int), .slice ra (ri3 l (thr l mt) mt).length rc] X fun e w' => e = .returned (cpv l mt) ∧ Below wr.heap.size wr w' ∧ Below X.heap.size X w') := Lib.hid (fun (X : World) (h : Below wr.heap.size wr X) => (longest_any b off m c mt (ri3 l (thr l mt) mt).length rc ra l X (hRw.below h) HL.out hmI (by omega) (hri.below h) rfl hrc).mono fun _ _ hh => ⟨hh.1, h.trans (hh.2.mono h.size), hh.2⟩)
          have hcl2 := HBk.out wr hC2.out.bn
          have hrl : Hid ((ri3 l (l.getD mt 0, l.getD (mt + 1) 0, l.getD (mt + 2) 0) mt).length = (ri3 l (thr l mt) mt).length) := Lib.hid rfl
          rw [hrl.out] at hlook
          unfold v3 at hlook
          generalize (ri3 l (thr l mt) mt).length = rn at hlook HLong
          generalize l.getD mt 0 = x at *
          generalize l.getD (mt + 1) 0 = y1 at *
          generalize l.getD (mt + 2) 0 = z at *
          have hat3 : ∀ w, (Instr.arrayAt 57 (.slice (some ⟨b, off + mt, none⟩) (m - mt) (c - mt))).run Try.prog w = .ok (.pointer (some ⟨b, off + mt, none⟩)) w := fun w => run_arrayAt w 57 _ 3 _ (m - mt) (c - mt) Try.underlying57 (by omega)
          have hMlt := hC2.out.rows.lt
          have HSof : Hid (∀ X : World, Below wr.heap.size wr X → X.cell? ⟨Bn, 0, none⟩ = some (.slice (some ⟨b, off, none⟩) m c) ∧ X.cell? ⟨b, off + mt, none⟩ = some (.int .u8 x) ∧ X.cell? ⟨b, off + mt + 1, none⟩ = some (.int .u8 y1) ∧ X.cell? ⟨b, off + mt + 2, none⟩ = some (.int .u8 z) ∧
              (Instr.lookup 55 (.map (some W.heap.size)) (.agg #[.int .u8 x, .int .u8 y1, .int .u8 z]) false).run Try.prog X = .ok (.slice ra rn rc) X ∧ Below wr.heap.size wr X) := Lib.hid fun X h =>
            ⟨(h.cell (block_lt_of_cell hcl2)).trans hcl2, (h.cell (block_lt_of_cell g0)).trans g0, (h.cell (block_lt_of_cell g1)).trans g1, (h.cell (block_lt_of_cell g2)).trans g2, hlook X (h.block _ hMlt), h⟩
          have hnl : ¬ (mt : Int) < (mt : Int) := by omega
          have hBr : Below wr.heap.size wr wr := Below.refl _ _
          have hlookD := hlook wr.drew rfl
          have hlookE := hlook (wr.alloc (.cells #[.int .i64 0, .int .i64 0, .slice none 0 0] 43)) (Below.heap_alloc _ _ _ hMlt)
          have hlookF := hlook (wr.alloc (.cells #[.int .i64 0, .int .i64 0, .slice none 0 0] 43)).drew (Below.heap_alloc _ _ _ hMlt)
          have hlookG := hlook wr rfl
          clear hu hRw hri hrc hrl hlook hMlt
          go_wp2_with fail
          unfold cpv at HLong
          go_cut [7] from 32 to 41 (fun s7 wx => ∃ p : Nat, s7 = .pointer (some ⟨p, 0, none⟩) ∧ wr.heap.size ≤ p ∧ Hid (Blk wx p 43 #[.int .i64 (cpn l mt : Int), .int .i64 (cpd l mt : Int), .slice none 0 0]) ∧ Hid (Below wr.heap.size wr wx))
          case first =>
            have hBa : Below wr.heap.size wr (wr.alloc (.cells #[.int .i64 0, .int .i64 0, .slice none 0 0] 43)) := (Below.refl _ _).alloc (Nat.le_refl _) _
            obtain ⟨y0, y1', y2, y3, y4, -⟩ := HSof.out _ hBa
            clear HSof
            have hLA := (HLong.out _ hBa.drew).mono (R' := fun e w' => e = .returned (.agg #[.int .i64 (cpn l mt : Int), .int .i64 (cpd l mt : Int), .slice none 0 0]) ∧ Below wr.heap.size wr w' ∧ w'.cell? ⟨wr.heap.size, 0, none⟩ = some (.int .i64 0) ∧ w'.cell? ⟨wr.heap.size, 1, none⟩ = some (.int .i64 0) ∧ w'.cell? ⟨wr.heap.size, 2, none⟩ = some (.slice none 0 0) ∧ w'.frozen? ⟨wr.heap.size, 0, none⟩ = false ∧ w'.frozen? ⟨wr.heap.size, 1, none⟩ = false ∧ w'.frozen? ⟨wr.heap.size, 2, none⟩ = false ∧ Hid (Blk w' wr.heap.size 43 #[.int .i64 0, .int .i64 0, .slice none 0 0]))
              (fun e w' hh => by obtain ⟨q0, q1, q2, q3, q4, q5, q6⟩ := new3 (w := wr) (w2 := w') (x := .int .i64 0) (y := .int .i64 0) (z := .slice none 0 0) (t := 43) (((Below.refl _ _).drew).trans hh.2.2); exact ⟨hh.1, hh.2.1, q0, q1, q2, q3, q4, q5, Lib.hid q6⟩)
            have HLA := Lib.hid hLA
            clear hLA
            go_region_with (first
              | (go_at_call 29; refine HLA.out.mono ?_; rintro e w2 ⟨rfl, hb2, q0, q1, q2, q3, q4, q5, q6⟩)
              | (go_at_call 29; refine (HLong.out _ ?_).mono ?_; (first | exact hBr.drew | exact hBr | exact hBa | exact hBa.drew); rintro e w2 ⟨rfl, hb2, hbx⟩))
            all_goals
              go_wp2_with fail
              go_meet
              first
                | with_reducible exact meetA hb2
                | with_reducible exact meetB hb2 q6
                | with_reducible exact meetC hb2
                | with_reducible exact meetD hb2 q6
          case rest =>
            obtain ⟨p, rfl, hp, hBlk, hBw⟩ := hcut
            have HJc := Lib.hid (HJ.out _ _ wc none hJ2.out (grown_below1 hBw.out none) (fun r e => by cases e))
            have HCc := Lib.hid (hC2.out.below hBnW hblW hBw.out)
            have k0 := hBlk.out.cell 0
            have k1 := hBlk.out.cell 1
            have k2 := hBlk.out.cell 2
            have hlt : wk l t < l.length := by have := hat.out; have := HL.out; omega
            by_cases hc0 : cpn l mt = 0
            · have t0 : (((cpn l mt : Nat) : Int) == 0) = true := by simp [hc0]
              have HWk : Hid (mt + 1 = wk l (t + 1)) := Lib.hid (by rw [wk_succ, if_pos hlt, ← hat.out, if_pos hc0])
              have HCs : Hid (cs l (t + 1) = cs l t) := Lib.hid (cs_skip (by rw [← hat.out]; exact hc0))
              clear hlt hc0
              go_wp2
              go_roundw
              case rel => exact ⟨t + 1, mt, mt + 1, rfl, by go_num, by omega, by omega, HWk, by rw [HCs.out]; exact HJc, HCc⟩
              case measure => simp [intOf]; omega
            · have t0 : (((cpn l mt : Nat) : Int) == 0) = false := by simp [hc0]
              have hc0' : cpn l (wk l t) ≠ 0 := by rw [← hat.out]; exact hc0
              obtain ⟨hkN, hgk, hk1⟩ := cs_at hlt hc0'
              obtain ⟨-, -, hkm, -⟩ := cpn_spec hc0
              rw [HL.out] at hkm
              have HWk : Hid (mt + cpn l mt = wk l (t + 1)) := Lib.hid (by rw [wk_succ, if_pos hlt, ← hat.out, if_neg hc0])
              have HK1 := Lib.hid hk1
              have HKN := Lib.hid hkN
              have HYk := Lib.hid (HY.out _ wc hkN HJc.out HCc.out.sz)
              rw [hgk, ← hat.out] at HYk
              unfold cpv at HYk
              obtain ⟨fn, tmps, assign, body, hy, hR⟩ := HYk.out
              have hc1 : 1 ≤ cpn l mt := by omega
              have hcI : ((cpn l mt : Nat) : Int) ≤ 130 := by have := (cpn_spec hc0).2.1; omega
              clear hlt hc0 hc0' hkN hgk hk1 HYk
              go_upto_region 11 with (fail)
              refine (wpIn_wide (n := n)).1 ?_
              gi_wp2_with fail
              refine hR.mono ?_
              rintro e W3 (⟨rfl, hJ3, hk3⟩ | ⟨rfl, hJx3, -⟩)
              · have j0 : W3.cell? ⟨p, 0, none⟩ = some (.int .i64 (cpn l mt : Int)) := Blk.cell (cs := #[.int .i64 (cpn l mt : Int), .int .i64 (cpd l mt : Int), .slice none 0 0]) (t := 43) (hk3.1 p _ (by have := hC2.out.sz; omega) hBlk.out (fun cs fr e => by injection e with _ e2; exact absurd e2 (by decide))) 0
                have HC3 : Hid (CSt Bn b W l mt W3) := Lib.hid ⟨HCc.out.rows.kc hk3, hk3.2.1.trans HCc.out.bn, hk3.2.2.1.trans HCc.out.bb, Nat.le_trans HCc.out.sz hk3.2.2.2⟩
                have HJ3 := Lib.hid hJ3
                clear hJ3 hk3 hy hR
                gi_wp2_with fail
                go_wp2
                go_roundw
                case rel => exact ⟨t + 1, mt, mt + cpn l mt, rfl, by go_num, by omega, by omega, HWk, by rw [HK1.out]; exact HJ3, HC3⟩
                case measure => simp [intOf]; omega
              · have HJx := Lib.hid hJx3
                clear hJx3
                gi_wp2_with fail
                try go_wp2
                refine bodyPost_ret (results_none rfl _ _ _) rfl ?_
                exact ⟨⟨_, rfl⟩, .inr ⟨_, HKN.out, HJx.out⟩⟩
    · have hEnd : Hid (J (cps l).length wr) := Lib.hid (by rw [← cs_end (t := t) (by rw [← hat.out, HL.out]; omega)]; exact hJt.out)
      have h3I : ¬ (at_ : Int) + 3 ≤ (m : Int) := by omega
      clear hl
      gi_wp2
      go_end0
      exact ⟨⟨_, rfl⟩, .inl hEnd.out⟩
end Go.Proofs.Ytaohkakefdhecaa
