/-
  Pages loaded: the program's calls loadable and Load, exactly. Nothing of one statement alone stands here.
-/
import Derived.Test.YtiaaeiefgnoiaaaLdRef
import Derived.Test.YtiaaeiefgnoiaaaNandCopied
import Derived.Deep.RegionWith
namespace Go.Proofs.Ytiaaeiefgnoiaaa
open Go.RowKit Crcm Go.ChangeShapes

/-- the chip's own blocks so far -/
def LX (bb bc : Nat) (pb : Nat → Nat) (k b : Nat) : Prop := b = bb ∨ b = bc ∨ ∃ j, j < k ∧ b = pb j
/-- the program's chip while its blocks are loaded -/
structure LdI (w wr : World) (gb bb bc nb np sz k : Nat) (ls : List (List Int)) (bs : List Bool) (ws : List Int) : Prop where
  geo : Blk wr gb 23 #[.int .i64 nb, .int .i64 np, .int .i64 sz]
  chip : Blk wr bc 72 #[.int .i64 nb, .int .i64 np, .int .i64 sz, .slice (some ⟨bb, 0, none⟩) nb nb, .bool true, .slice none 0 0, .int .i64 0, .int .i64 0, .int .i64 0]
  bel : Below w.heap.size w wr
  lt : w.heap.size ≤ gb ∧ gb < bb ∧ bb < bc
  rest : ∃ pb : Nat → Nat, (∃ cs, Blk wr bb 75 cs ∧ cs.size = 4 * nb ∧ ∀ j, j < nb → ∃ v0 v1 v2 v3, cs[j * 4]? = some v0 ∧ cs[j * 4 + 1]? = some v1 ∧ cs[j * 4 + 2]? = some v2 ∧ cs[j * 4 + 3]? = some v3 ∧ (j < k → v0 = .slice (some ⟨pb j, 0, none⟩) np np ∧ v1 = .bool false ∧ v2 = .bool bs[j]! ∧ v3 = .int .i64 ws[j]!)) ∧
    (∀ j, j < k → bc < pb j ∧ ∃ cs, Blk wr (pb j) 27 cs ∧ cs.size = np ∧ ∀ i, i < np → ∃ v, cs[i]? = some v ∧ PgX wr (LX bb bc pb k) v ls[j * np + i]! ∧ (ls[j * np + i]! = [] → v = .slice none 0 0)) ∧ ∀ i j, i < k → j < k → pb i = pb j → i = j
theorem put4_get {cs : Array Value} {n k j : Nat} (hs : cs.size = 4 * n) (hk : k < n) (v0 v1 v2 v3 : Value) {u0 u1 u2 u3 : Value} (h0 : cs[j * 4]? = some u0) (h1 : cs[j * 4 + 1]? = some u1) (h2 : cs[j * 4 + 2]? = some u2) (h3 : cs[j * 4 + 3]? = some u3) :
    let c := (((cs.setIfInBounds (k * 4) v0).setIfInBounds (k * 4 + 1) v1).setIfInBounds (k * 4 + 2) v2).setIfInBounds (k * 4 + 3) v3
    if j = k then c[j * 4]? = some v0 ∧ c[j * 4 + 1]? = some v1 ∧ c[j * 4 + 2]? = some v2 ∧ c[j * 4 + 3]? = some v3 else c[j * 4]? = some u0 ∧ c[j * 4 + 1]? = some u1 ∧ c[j * 4 + 2]? = some u2 ∧ c[j * 4 + 3]? = some u3 := by
  intro c
  by_cases e : j = k
  · subst e
    rw [if_pos rfl]
    refine ⟨?_, ?_, ?_, ?_⟩
    · exact (set_ne (by omega)).trans ((set_ne (by omega)).trans ((set_ne (by omega)).trans (set_at (by omega))))
    · exact (set_ne (by omega)).trans ((set_ne (by omega)).trans (set_at (by simp; omega)))
    · exact (set_ne (by omega)).trans (set_at (by simp; omega))
    · exact set_at (by simp; omega)
  · rw [if_neg e]
    refine ⟨?_, ?_, ?_, ?_⟩
    · exact (set_ne (by omega)).trans ((set_ne (by omega)).trans ((set_ne (by omega)).trans ((set_ne (by omega)).trans h0)))
    · exact (set_ne (by omega)).trans ((set_ne (by omega)).trans ((set_ne (by omega)).trans ((set_ne (by omega)).trans h1)))
    · exact (set_ne (by omega)).trans ((set_ne (by omega)).trans ((set_ne (by omega)).trans ((set_ne (by omega)).trans h2)))
    · exact (set_ne (by omega)).trans ((set_ne (by omega)).trans ((set_ne (by omega)).trans ((set_ne (by omega)).trans h3)))
theorem blk_get (ls : List (List Int)) (np k i : Nat) (hi : i < np) (hl : k * np + np ≤ ls.length) : ((ls.drop (k * np)).take np)[i]! = ls[k * np + i]! := by
  rw [getElem!_pos _ _ (by rw [List.length_take, List.length_drop]; omega), getElem!_pos ls _ (by omega)]
  simp
theorem LdI.next {w wr wn W' : World} {gb bb bc nb np sz k g : Nat} {ls : List (List Int)} {bs : List Bool} {ws : List Int} (h : LdI w wr gb bb bc nb np sz k ls bs ws) (hk : k < nb) (hll : ls.length = nb * np) (hb : Below wr.heap.size wr wn) (hg : wr.heap.size ≤ g)
    (hr : Rn wn (g + 1) g np ((ls.drop (k * np)).take np)) (hkp : Kp (fun b => b = bb) wn W')
    (hst : ∀ cs, Blk wn bb 75 cs → Blk W' bb 75 ((((cs.setIfInBounds (k * 4) (.slice (some ⟨g, 0, none⟩) np np)).setIfInBounds (k * 4 + 1) (.bool false)).setIfInBounds (k * 4 + 2) (.bool bs[k]!)).setIfInBounds (k * 4 + 3) (.int .i64 ws[k]!))) :
    LdI w W' gb bb bc nb np sz (k + 1) ls bs ws := by
  obtain ⟨pb, ⟨cs, g1, g2, g3⟩, g4, g5⟩ := h.rest
  obtain ⟨l0, l1, l2⟩ := h.lt
  have hlt : bc < wr.heap.size := h.chip.lt
  have hkn : k * np + np ≤ ls.length := by rw [hll, ← Nat.succ_mul]; exact Nat.mul_le_mul_right _ hk
  have hK : Kp (fun b => b = bb) wr W' := (Kp.of_below hb).trans hkp
  have hpk : ∀ j, j < k → pb j < wr.heap.size := fun j hj => by obtain ⟨-, c2, f2, -⟩ := g4 j hj; exact f2.lt
  have hX : ∀ b, LX bb bc (up1 pb k g) (k + 1) b → LX bb bc pb k b ∨ wr.heap.size ≤ b := fun b q => by
    rcases q with q | q | ⟨j, hj, q⟩
    · exact .inl (.inl q)
    · exact .inl (.inr (.inl q))
    · by_cases e : j = k
      · subst e; rw [up1_at] at q; exact .inr (by omega)
      · rw [up1_ne _ _ e] at q; exact .inl (.inr (.inr ⟨j, by omega, q⟩))
  have hXg : ∀ b, LX bb bc (up1 pb k g) (k + 1) b → b < g + 1 := fun b q => by
    rcases q with q | q | ⟨j, hj, q⟩
    · omega
    · omega
    · by_cases e : j = k
      · subst e; rw [up1_at] at q; omega
      · rw [up1_ne _ _ e] at q; have := hpk j (by omega); omega
  refine ⟨h.geo.kp hK (by omega), h.chip.kp hK (by omega), h.bel.trans (hK.below (fun b e => by subst e; omega) h.bel.size), h.lt, up1 pb k g, ⟨_, hst cs (g1.below hb g1.lt), by simpa using g2, fun j hj => ?_⟩, fun j hj => ?_, fun i j hi hj e => ?_⟩
  · obtain ⟨u0, u1, u2, u3, f0, f1, f2, f3, f4⟩ := g3 j hj
    have hp := put4_get g2 hk (.slice (some ⟨g, 0, none⟩) np np) (.bool false) (.bool bs[k]!) (.int .i64 ws[k]!) f0 f1 f2 f3
    by_cases ej : j = k
    · subst ej
      rw [if_pos rfl] at hp
      exact ⟨_, _, _, _, hp.1, hp.2.1, hp.2.2.1, hp.2.2.2, fun _ => ⟨by rw [up1_at], rfl, rfl, rfl⟩⟩
    · rw [if_neg ej] at hp
      exact ⟨_, _, _, _, hp.1, hp.2.1, hp.2.2.1, hp.2.2.2, fun hj' => by rw [up1_ne _ _ ej]; exact f4 (by omega)⟩
  · by_cases ej : j = k
    · subst ej
      rw [up1_at]
      have hlen : ((ls.drop (j * np)).take np).length = np := by rw [List.length_take, List.length_drop]; omega
      obtain ⟨c2, f1, f2, f3⟩ := hr.all hlen.symm
      rw [hlen] at f2 f3
      refine ⟨by omega, c2, f1.kp hkp (by omega), f2, fun i hi => ?_⟩
      obtain ⟨v, q1, q2⟩ := f3 i hi
      rw [blk_get ls np j i hi hkn] at q2
      refine ⟨v, q1, (q2.pgx hXg).step hkp (fun b e => .inl (.inl e)) (fun b q => .inl q), fun e => ?_⟩
      rcases q2 with ⟨-, q3⟩ | ⟨q3, -⟩
      · exact q3
      · exact absurd e q3
    · rw [up1_ne _ _ ej]
      obtain ⟨f1, c2, f2, f3, f4⟩ := g4 j (by omega)
      refine ⟨f1, c2, f2.kp hK (by omega), f3, fun i hi => ?_⟩
      obtain ⟨v, q1, q2, q3⟩ := f4 i hi
      exact ⟨v, q1, q2.step hK (fun b e => .inl (.inl e)) hX, q3⟩
  · by_cases ei : i = k
    · by_cases ej : j = k
      · rw [ei, ej]
      · subst ei
        rw [up1_at, up1_ne _ _ ej] at e
        have := hpk j (by omega)
        omega
    · by_cases ej : j = k
      · subst ej
        rw [up1_at, up1_ne _ _ ei] at e
        have := hpk i (by omega)
        omega
      · rw [up1_ne _ _ ei, up1_ne _ _ ej] at e
        exact g5 i j (by omega) (by omega) e
theorem LdI.chAt {w wr : World} {gb bb bc nb np sz : Nat} {ls : List (List Int)} {bs : List Bool} {ws : List Int} (h : LdI w wr gb bb bc nb np sz nb ls bs ws) (hg : Gd nb np sz) (hok : LdOk nb np sz ls bs ws) :
    ∃ o : Own, o.bc = bc ∧ ChAt wr (o.F nb) o (ldC nb np sz ls bs ws) ∧ ∀ b, o.F nb b → w.heap.size ≤ b := by
  obtain ⟨pb, ⟨cs, g1, g2, g3⟩, g4, g5⟩ := h.rest
  obtain ⟨l0, l1, l2⟩ := h.lt
  refine ⟨⟨bc, bb, pb⟩, rfl, ⟨hg, fun b hb => ?_, fun b hb => hb, by show bc ≠ bb; omega, fun k hk => ?_, g5, ⟨.slice none 0 0, h.chip, FlAt.nil⟩, ⟨cs, g1, g2, fun j hj => ?_⟩, fun k hk => ?_⟩, fun b hb => ?_⟩
  · rcases hb with rfl | rfl | ⟨k, hk, rfl⟩
    · exact h.chip.lt
    · exact g1.lt
    · obtain ⟨_, cs2, f2, _⟩ := g4 k hk
      exact f2.lt
  · have := (g4 k hk).1
    exact ⟨by show pb k ≠ bc; omega, by show pb k ≠ bb; omega⟩
  · obtain ⟨v0, v1, v2, v3, e0, e1, e2, e3, e4⟩ := g3 j hj
    obtain ⟨rfl, rfl, rfl, rfl⟩ := e4 hj
    exact ⟨e0, e1, e2, e3⟩
  · obtain ⟨_, cs2, f2, f3, f4⟩ := g4 k hk
    refine ⟨cs2, f2, f3, fun i hi => ?_⟩
    obtain ⟨v, q1, q2, q3⟩ := f4 i hi
    refine ⟨v, q1, ?_⟩
    obtain ⟨A, c, hv, hc, hr⟩ := q2.step (X' := Own.F ⟨bc, bb, pb⟩ nb) (Kp.refl (fun _ => False) wr) (fun _ e => e.elim) (fun b q => by
      rcases q with q | q | ⟨j, hj, q⟩
      · exact .inl (.inr (.inl q))
      · exact .inl (.inl q)
      · exact .inl (.inr (.inr ⟨j, hj, q⟩)))
    show PgAt wr _ _ (sz + 32) (opt ls[k * np + i]!)
    have hsz := hok.2.2.2.1 (k * np + i) (by rw [hok.1]; exact page_ix hk hi)
    generalize ls[k * np + i]! = l at hv hc hr hsz q3 ⊢
    unfold opt
    by_cases e : l = []
    · rw [if_pos e]
      exact q3 e
    · rw [if_neg e]
      have hl : l.length = sz + 32 := hsz.resolve_left (fun q => e (List.eq_nil_of_length_eq_zero q))
      rcases hr.1.2.2 with q | ⟨b, off, rfl, -⟩
      · exact absurd q e
      · exact ⟨b, off, c, by rw [hv, hl], by omega, hl, hr⟩
  · rcases hb with e | e | ⟨k, hk, e⟩
    · have e : b = bc := e
      omega
    · have e : b = bb := e
      omega
    · have := (g4 k hk).1
      have e : b = pb k := e
      omega

theorem midB (b off n c i j : Nat) (hij : i < j) (hj : j ≤ c) (W : World) : (Instr.slice 24 (.slice (some ⟨b, off, none⟩) n c) (some (.int .i64 i)) (some (.int .i64 j)) none).run Try.prog W = .ok (.slice (some ⟨b, off + i, none⟩) (j - i) (c - i)) W := by
  have elem8 : Try.prog.elem 24 = 27 := by simp [Program.elem, Try.underlying24]
  have he : Try.prog.underlying 24 = some (.slice (Try.prog.elem 24)) := by rw [elem8, Try.underlying24]
  have hne : ¬ c = i := by omega
  rw [run_slice_lh W _ _ _ _ he .i64 .i64 _ _ (by omega) (by omega) (by omega), elem8, Try.sizeOf27]
  simp [Result.andThen, sliced, hne, Addr.add] <;> omega

set_option maxRecDepth 100000 in
set_option maxHeartbeats 4000000 in
theorem gloadable_any (nb np sz : Nat) (w : World) (hg : Gd nb np sz) (a1 : Option Addr) (n1 c1 : Nat) (ls : List (List Int)) (h1 : Rl w a1 ls) (l1 : ls.length = n1) (s1 : n1 ≤ 5000) (a2 : Option Addr) (n2 c2 : Nat) (bs : List Bool) (l2 : bs.length = n2) (s2 : n2 ≤ 5000)
    (a3 : Option Addr) (n3 c3 : Nat) (ws : List Int) (h3 : Ri w a3 ws) (l3 : ws.length = n3) (s3 : n3 ≤ 5000) :
    Calls Try.prog 32 #[geoV nb np sz, .slice a1 n1 c1, .slice a2 n2 c2, .slice a3 n3 c3] w fun e w' => ((LdOk nb np sz ls bs ws ∧ e = .returned (.bool true)) ∨ (¬ LdOk nb np sz ls bs ws ∧ e = .returned (.bool false))) ∧ Below w.heap.size w w' := by
  have HR := Lib.hid (fun W => gright_yes (a := nb) (b := np) (s := sz) (by unfold Gd at hg; unfold GdI; omega) W)
  have hnb : nb < 129 := hg.2.1
  have hnp : np < 33 := hg.2.2.2.1
  have hsz : sz ≤ 512 := by unfold Gd at hg; omega
  have hN2 : nb * np ≤ 128 * 33 := Nat.mul_le_mul (by omega) (by omega)
  obtain ⟨N, hN⟩ : ∃ N, nb * np = N := ⟨_, rfl⟩
  have hNi : IntKind.i64.wrap ((nb : Int) * (np : Int)) = (N : Int) := by
    have e : (nb : Int) * (np : Int) = (N : Int) := by rw [← hN]; push_cast; rfl
    rw [e]
    exact IntWalk.i64_in _ ⟨by omega, by omega⟩
  have HN := Lib.hid hN
  have H1 := Lib.hid h1
  have H3 := Lib.hid h3
  have L1 := Lib.hid l1
  have L2 := Lib.hid l2
  have L3 := Lib.hid l3
  have BG := Blk.new w 23 #[.int .i64 nb, .int .i64 np, .int .i64 sz]
  have HG1 := Lib.hid BG
  have q0 := BG.cell 0
  have q1 := BG.cell 1
  have q2 := BG.cell 2
  have HB0 := Lib.hid ((Below.refl w.heap.size w).alloc (Nat.le_refl _) (.cells #[.int .i64 nb, .int .i64 np, .int .i64 sz] 23))
  unfold geoV at HR ⊢
  clear h1 h3 l1 l2 l3 hg BG hN
  go_enter Try.func32, Try.ntmps32
  go_upto_region 1 with (fail)
  generalize (w.alloc (.cells #[.int .i64 nb, .int .i64 np, .int .i64 sz] 23)) = W at q0 q1 q2 HB0 HG1 ⊢
  obtain ⟨gb, hgb⟩ : ∃ gb, w.heap.size = gb := ⟨_, rfl⟩
  have HGb := Lib.hid hgb
  rw [hgb] at q0 q1 q2 HG1 ⊢
  clear hgb
  go_wp2_with fail
  refine (HR.out _).mono ?_
  rintro r w1 ⟨rfl, hb⟩
  have HB1 := Lib.hid (HB0.out.trans (hb.mono HB0.out.size))
  have HG2 := Lib.hid (HG1.out.below hb HG1.out.lt)
  clear hb q0 q1 q2 HG1 HR
  have q0 : w1.cell? ⟨gb, 0, none⟩ = some (.int .i64 nb) := HG2.out.cell 0
  have q1 : w1.cell? ⟨gb, 1, none⟩ = some (.int .i64 np) := HG2.out.cell 1
  have q2 : w1.cell? ⟨gb, 2, none⟩ = some (.int .i64 sz) := HG2.out.cell 2
  by_cases e1 : n1 = N
  case neg =>
    have t1 : ((n1 : Int) != (N : Int)) = true := by simp; omega
    have HNo : Hid (¬ LdOk nb np sz ls bs ws) := Lib.hid (fun h => e1 (by rw [← L1.out, h.1, HN.out]))
    clear e1
    go_wp2_with fail
    go_ret
    exact ⟨.inr ⟨HNo.out, rfl⟩, HB1.out⟩
  by_cases e2 : n2 = nb
  case neg =>
    have t1 : ((n1 : Int) != (N : Int)) = false := by simp; omega
    have t2 : ((n2 : Int) != (nb : Int)) = true := by simp; omega
    have HNo : Hid (¬ LdOk nb np sz ls bs ws) := Lib.hid (fun h => e2 (by rw [← L2.out, h.2.1]))
    clear e1 e2
    go_wp2_with fail
    go_ret
    exact ⟨.inr ⟨HNo.out, rfl⟩, HB1.out⟩
  by_cases e3 : n3 = nb
  case neg =>
    have t1 : ((n1 : Int) != (N : Int)) = false := by simp; omega
    have t2 : ((n2 : Int) != (nb : Int)) = false := by simp; omega
    have t3 : ((n3 : Int) != (nb : Int)) = true := by simp; omega
    have HNo : Hid (¬ LdOk nb np sz ls bs ws) := Lib.hid (fun h => e3 (by rw [← L3.out, h.2.2.1]))
    clear e1 e2 e3
    go_wp2_with fail
    go_ret
    exact ⟨.inr ⟨HNo.out, rfl⟩, HB1.out⟩
  subst e1 e2 e3
  have t1 : ((n1 : Int) != (n1 : Int)) = false := bne_self_eq_false _
  have t2 : ((n3 : Int) != (n3 : Int)) = false := bne_self_eq_false _
  go_wp2_with fail
  clear q0 q1 q2 t1 t2 hNi
  go_loopw [10, 42] (fun _ i wr => ∃ k : Nat, k ≤ n1 ∧ i = .int .i64 k ∧ wr = w1 ∧ Hid (∀ j, j < k → ls[j]!.length = 0 ∨ ls[j]!.length = sz + 32)) (fun _ i _ => n1 - (intOf i).toNat)
  case atStart => exact ⟨0, by omega, rfl, rfl, Lib.hid (fun j hj => by omega)⟩
  case round =>
    obtain ⟨k, hk, rfl, rfl, hA⟩ := hrel
    by_cases hlt : k < n1
    · have kl : (k : Int) < (n1 : Int) := by omega
      have k0 : (0 : Int) ≤ (k : Int) := by omega
      have hkl : k < ls.length := by rw [L1.out]; exact hlt
      obtain ⟨b, off, A, cc, rfl, hc, -, -⟩ := (H1.out.below HB1.out).at hkl
      have HNo : Hid (¬ (ls[k]!.length = 0 ∨ ls[k]!.length = sz + 32) → ¬ LdOk n3 np sz ls bs ws) := Lib.hid (fun h g => h (g.2.2.2.1 k hkl))
      have HYes : Hid ((ls[k]!.length = 0 ∨ ls[k]!.length = sz + 32) → ∀ j, j < k + 1 → ls[j]!.length = 0 ∨ ls[j]!.length = sz + 32) := Lib.hid (fun h j hj => by
        by_cases e : j = k
        · subst e; exact h
        · exact hA.out j (by omega))
      obtain ⟨m, hm⟩ : ∃ m, ls[k]!.length = m := ⟨_, rfl⟩
      rw [hm] at hc HNo HYes
      have q2 : wr.cell? ⟨gb, 2, none⟩ = some (.int .i64 sz) := HG2.out.cell 2
      clear hkl hm hA
      by_cases m0 : m = 0
      · have HY := Lib.hid (HYes.out (.inl m0))
        subst m0
        go_wp2
        go_roundw
        case rel => exact ⟨k + 1, by omega, by go_num, trivial, HY⟩
        case measure => simp [intOf]; omega
      have u0 : ((m : Int) != 0) = true := by simp; omega
      by_cases m1 : m = sz + 32
      · have u1 : ((m : Int) != (sz : Int) + 32) = false := by simp; omega
        have HY := Lib.hid (HYes.out (.inr m1))
        clear m0 m1
        go_wp2
        go_roundw
        case rel => exact ⟨k + 1, by omega, by go_num, trivial, HY⟩
        case measure => simp [intOf]; omega
      · have u1 : ((m : Int) != (sz : Int) + 32) = true := by simp; omega
        have HN' := Lib.hid (HNo.out (by omega))
        clear m0 m1
        go_wp2
        go_ret
        exact ⟨.inr ⟨HN'.out, rfl⟩, HB1.out⟩
    · have kl : ¬ (k : Int) < (n1 : Int) := by omega
      have HAll : Hid (∀ j, j < ls.length → ls[j]!.length = 0 ∨ ls[j]!.length = sz + 32) := Lib.hid (fun j hj => hA.out j (by have := L1.out; omega))
      clear hA
      go_wp2_with fail
      go_loopw [12, 60] (fun _ i wr2 => ∃ k : Nat, k ≤ n3 ∧ i = .int .i64 k ∧ wr2 = wr ∧ Hid (∀ j, j < k → 0 ≤ ws[j]! ∧ ws[j]! ≤ 1099511627776)) (fun _ i _ => n3 - (intOf i).toNat)
      case atStart => exact ⟨0, by omega, rfl, rfl, Lib.hid (fun j hj => by omega)⟩
      case round =>
        obtain ⟨q, hq, rfl, rfl, hA⟩ := hrel
        by_cases hlt2 : q < n3
        · have ql : (q : Int) < (n3 : Int) := by omega
          have q0 : (0 : Int) ≤ (q : Int) := by omega
          have hql : q < ws.length := by rw [L3.out]; exact hlt2
          obtain ⟨b, off, rfl, hc⟩ := (H3.out.below HB1.out).at hql
          have HNo : Hid (¬ (0 ≤ ws[q]! ∧ ws[q]! ≤ 1099511627776) → ¬ LdOk n3 np sz ls bs ws) := Lib.hid (fun h g => h (g.2.2.2.2 q hql))
          have HYes : Hid ((0 ≤ ws[q]! ∧ ws[q]! ≤ 1099511627776) → ∀ j, j < q + 1 → 0 ≤ ws[j]! ∧ ws[j]! ≤ 1099511627776) := Lib.hid (fun h j hj => by
            by_cases e : j = q
            · subst e; exact h
            · exact hA.out j (by omega))
          generalize ws[q]! = x at hc HNo HYes
          clear hql hA
          by_cases x0 : x < 0
          · have u0 : decide (x < 0) = true := decide_eq_true x0
            have HN' := Lib.hid (HNo.out (by omega))
            clear x0
            go_wp2
            go_ret
            exact ⟨.inr ⟨HN'.out, rfl⟩, HB1.out⟩
          have u0 : decide (x < 0) = false := decide_eq_false x0
          by_cases x1 : 1099511627776 < x
          · have u1 : decide (1099511627776 < x) = true := decide_eq_true x1
            have HN' := Lib.hid (HNo.out (by omega))
            clear x0 x1
            go_wp2
            go_ret
            exact ⟨.inr ⟨HN'.out, rfl⟩, HB1.out⟩
          have u1 : decide (1099511627776 < x) = false := decide_eq_false x1
          have HY := Lib.hid (HYes.out (by omega))
          clear x0 x1
          go_wp2
          go_roundw
          case rel => exact ⟨q + 1, by omega, by go_num, trivial, HY⟩
          case measure => simp [intOf]; omega
        · have ql : ¬ (q : Int) < (n3 : Int) := by omega
          have HYes : Hid (LdOk n3 np sz ls bs ws) := Lib.hid ⟨by rw [L1.out, HN.out], L2.out, L3.out, HAll.out, fun j hj => hA.out j (by have := L3.out; omega)⟩
          clear hA
          go_wp2
          go_ret
          exact ⟨.inl ⟨HYes.out, rfl⟩, HB1.out⟩

end Go.Proofs.Ytiaaeiefgnoiaaa
