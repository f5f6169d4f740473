/-
  Operations' bytes, there and back. Nothing of one statement alone stands here.
-/
import Derived.Test.YthngpmiclbbpnaaGreatHistRd
namespace Go.Proofs.YthngpmiclbbpnaaGreat
open Go.RowKit Crcm Tagm Go.ChangeShapes

theorem w64 (x : Int) : IntKind.i64.wrap x = (x + 9223372036854775808) % 18446744073709551616 - 9223372036854775808 := by
  simp [IntKind.wrap, IntKind.bits, IntKind.signed]
  split <;> omega
/-- an operation that can be told again -/
def Ok (o : Ho) : Prop := Rg o ∧ Bw o ∧ -9223372036854775808 ≤ o.off ∧ o.off ≤ 9223372036854775807

theorem nmB_le (n : Nat) (x : Int) (r : List Int) : nmB n (le n x ++ r) = some (x % 256 ^ n, r) := by
  unfold nmB
  rw [if_pos (by simp [le_length]), List.take_left' (le_length n x), List.drop_left' (le_length n x), nu_le]
theorem ctB_le (n k : Nat) (b r : List Int) (hk : b.length = k) (h : uw k % 256 ^ n = k) : ctB n (le n (uw k) ++ (b ++ r)) = some (b, r) := by
  unfold ctB
  rw [nmB_le, Option.bind_some]
  show tkB (uw k % 256 ^ n).toNat (b ++ r) = _
  rw [h, Int.toNat_natCast]
  unfold tkB
  rw [if_pos (by simp; omega), List.take_left' hk, List.drop_left' hk]
theorem sgn_back (x : Int) (h1 : -2147483648 ≤ x) (h2 : x ≤ 2147483647) : sgn (uw x % 256 ^ 4) = x := by
  unfold sgn uw
  rw [IntKind.wrap_u64, IntKind.wrap_i32, w64]
  omega
theorem op_ob {o : Ho} (h : Ok o) (r : List Int) : opB (ob o ++ r) = some (o, r) := by
  obtain ⟨⟨⟨a1, a2⟩, ⟨b1, b2, b3⟩, ⟨c1, c2⟩, d1, d2⟩, hb, e1, e2⟩ := h
  unfold opB ob
  simp only [List.append_assoc]
  rw [nmB_le, Option.bind_some]
  dsimp only
  rw [ctB_le 1 o.path.size _ _ (nb_length _) (by unfold uw; rw [IntKind.wrap_u64]; omega), Option.bind_some]
  dsimp only
  rw [ctB_le 1 o.to.size _ _ (nb_length _) (by unfold uw; rw [IntKind.wrap_u64]; omega), Option.bind_some]
  dsimp only
  rw [nmB_le, Option.bind_some]
  dsimp only
  rw [nmB_le, Option.bind_some]
  dsimp only
  rw [nmB_le, Option.bind_some]
  dsimp only
  rw [ctB_le 2 o.b.length _ _ rfl (by unfold uw; rw [IntKind.wrap_u64]; omega), Option.bind_some]
  dsimp only
  have e : (⟨uw o.kind % 256 ^ 1, strOfNums (nb o.path), strOfNums (nb o.to), sgn (uw o.handle % 256 ^ 4), sgn (uw o.n % 256 ^ 4), IntKind.i64.wrap (uw o.off % 256 ^ 8), o.b⟩ : Ho) = o := by
    have f1 : uw o.kind % 256 ^ 1 = o.kind := by unfold uw; rw [IntKind.wrap_u64]; omega
    have f2 : IntKind.i64.wrap (uw o.off % 256 ^ 8) = o.off := by unfold uw; rw [IntKind.wrap_u64, w64]; omega
    rw [f1, strOf_nb, strOf_nb, sgn_back _ c1 c2, sgn_back _ d1 d2, f2]
  rw [e, if_pos ⟨⟨a1, a2⟩, ⟨b1, b2, b3⟩, ⟨c1, c2⟩, d1, d2⟩]
theorem ops_obs {L : List Ho} (h : ∀ o ∈ L, Ok o) (r : List Int) : opsB L.length (obs L ++ r) = some (L, r) := by
  induction L with
  | nil => rfl
  | cons o L ih =>
    rw [obs, List.append_assoc, List.length_cons, opsB, op_ob (h o (by simp)), Option.bind_some]
    dsimp only
    rw [ih (fun x hx => h x (by simp [hx]))]
    rfl
theorem all_body {L : List Ho} (h : ∀ o ∈ L, Ok o) (hl : L.length ≤ 4096) : allB (body L) = some L := by
  have e1 : (body L).take 4 = [72, 73, 83, 84] := rfl
  have e2 : (body L).drop 4 = le 4 (uw L.length) ++ obs L := by unfold body; rfl
  have hle : ((le 4 (uw L.length)).length = 4) := le_length _ _
  have e3 : nu (((body L).drop 4).take 4) = L.length := by rw [e2, List.take_left' hle, nu_le]; unfold uw; rw [IntKind.wrap_u64]; omega
  rw [allB_4 (by rw [body_len]; omega) e1 (by rw [List.length_drop, body_len]; omega), e3, if_pos (by omega), Int.toNat_natCast, e2, List.drop_left' hle]
  have := ops_obs h []
  rw [List.append_nil] at this
  rw [this]
  rfl
/-- what is written is read as it was -/
theorem rd_wB {L : List Ho} (h : ∀ o ∈ L, Bw o ∧ -9223372036854775808 ≤ o.off ∧ o.off ≤ 9223372036854775807) (hE : wE L = 0) (hs : (obs L).length ≤ 8000000) : rdE (wB L) = 0 ∧ rdL (wB L) = L := by
  have hl : L.length ≤ 4096 ∧ ∀ o ∈ L, Rg o := by
    unfold wE at hE
    by_cases g : 4096 < L.length
    · rw [if_pos g] at hE; omega
    · rw [if_neg g] at hE
      by_cases g2 : ∀ o ∈ L, Rg o
      · exact ⟨by omega, g2⟩
      · rw [if_neg g2] at hE; omega
  have hok : ∀ o ∈ L, Ok o := fun o ho => ⟨hl.2 o ho, h o ho⟩
  have ha := all_body hok hl.1
  have e : wB L = body L ++ le 4 (uw (mo 0 (body L))) := by unfold wB; rw [if_pos hE]
  have el : (wB L).length = (body L).length + 4 := by rw [e, List.length_append, le_length]
  have et : (wB L).take ((wB L).length - 4) = body L := by rw [el, Nat.add_sub_cancel, e, List.take_left' rfl]
  have ed : (wB L).drop ((wB L).length - 4) = le 4 (uw (mo 0 (body L))) := by rw [el, Nat.add_sub_cancel, e, List.drop_left' rfl]
  have hbl := body_len L
  have r0 : rdE (wB L) = 0 := by rw [rdE_sum (by omega) (by omega), et, ed, if_pos rfl, ha]; rfl
  exact ⟨r0, by unfold rdL; rw [if_pos r0, et, ha]; rfl⟩

theorem nmB_some {n : Nat} {l r : List Int} {x : Int} (h : nmB n l = some (x, r)) (hu : ∀ b ∈ l, U8 b) : l = le n x ++ r ∧ (∀ b ∈ r, U8 b) ∧ 0 ≤ x ∧ x < 256 ^ n := by
  unfold nmB at h
  by_cases h1 : n ≤ l.length
  · rw [if_pos h1] at h
    obtain ⟨rfl, rfl⟩ := Prod.mk.inj (Option.some.inj h)
    have hlen : (l.take n).length = n := by rw [List.length_take]; omega
    have hut : ∀ b ∈ l.take n, U8 b := fun b hb => hu b (List.mem_of_mem_take hb)
    have := le_nu (l.take n) hut
    rw [hlen] at this
    have hbd := nu_bd (l.take n) hut
    rw [hlen] at hbd
    exact ⟨by rw [this, List.take_append_drop], fun b hb => hu b (List.mem_of_mem_drop hb), hbd⟩
  · rw [if_neg h1] at h; cases h
theorem ctB_back {n : Nat} {l b r : List Int} (h : ctB n l = some (b, r)) (hu : ∀ x ∈ l, U8 x) (hn : n ≤ 2) : l = le n (uw b.length) ++ (b ++ r) ∧ (∀ x ∈ r, U8 x) ∧ ∀ x ∈ b, U8 x := by
  unfold ctB at h
  cases h1 : nmB n l with
  | none => rw [h1] at h; cases h
  | some y =>
    obtain ⟨x, s⟩ := y
    rw [h1, Option.bind_some] at h
    obtain ⟨e1, e2, e3, e4⟩ := nmB_some h1 hu
    unfold tkB at h
    dsimp only at h
    by_cases h2 : x.toNat ≤ s.length
    · rw [if_pos h2] at h
      obtain ⟨rfl, rfl⟩ := Prod.mk.inj (Option.some.inj h)
      have hb : (s.take x.toNat).length = x.toNat := by rw [List.length_take]; omega
      refine ⟨?_, fun y hy => e2 y (List.mem_of_mem_drop hy), fun y hy => e2 y (List.mem_of_mem_take hy)⟩
      have hx : x < 65536 := by
        have h3 : n = 0 ∨ n = 1 ∨ n = 2 := by omega
        rcases h3 with rfl | rfl | rfl <;> simp at e4 <;> omega
      rw [hb, List.take_append_drop, show uw (x.toNat : Int) = x by unfold uw; rw [IntKind.wrap_u64]; omega]
      exact e1
    · rw [if_neg h2] at h; cases h
theorem le_mod (n : Nat) : ∀ x y : Int, x % 256 ^ n = y % 256 ^ n → le n x = le n y := by
  intro x y h
  have h1 := nu_le n x
  have h2 := nu_le n y
  have h3 := le_nu (le n x) (le_U8 n x)
  have h4 := le_nu (le n y) (le_U8 n y)
  rw [le_length] at h3 h4
  rw [← h3, ← h4, h1, h2, h]
theorem ob_op {l r : List Int} {o : Ho} (h : opB l = some (o, r)) (hu : ∀ x ∈ l, U8 x) : l = ob o ++ r ∧ Ok o ∧ ∀ x ∈ r, U8 x := by
  unfold opB at h
  cases h0 : nmB 1 l with
  | none => rw [h0] at h; cases h
  | some k =>
  rw [h0, Option.bind_some] at h
  obtain ⟨k, l1⟩ := k
  obtain ⟨e0, u0, k0, k1⟩ := nmB_some h0 hu
  dsimp only at h
  cases h1 : ctB 1 l1 with
  | none => rw [h1] at h; cases h
  | some p =>
  rw [h1, Option.bind_some] at h
  obtain ⟨p, l2⟩ := p
  obtain ⟨e1, u1, v1⟩ := ctB_back h1 u0 (by omega)
  dsimp only at h
  cases h2 : ctB 1 l2 with
  | none => rw [h2] at h; cases h
  | some t =>
  rw [h2, Option.bind_some] at h
  obtain ⟨t, l3⟩ := t
  obtain ⟨e2, u2, v2⟩ := ctB_back h2 u1 (by omega)
  dsimp only at h
  cases h3 : nmB 4 l3 with
  | none => rw [h3] at h; cases h
  | some x3 =>
  rw [h3, Option.bind_some] at h
  obtain ⟨x3, l4⟩ := x3
  obtain ⟨e3, u3', a3, b3⟩ := nmB_some h3 u2
  dsimp only at h
  cases h4 : nmB 4 l4 with
  | none => rw [h4] at h; cases h
  | some x4 =>
  rw [h4, Option.bind_some] at h
  obtain ⟨x4, l5⟩ := x4
  obtain ⟨e4, u4', a4, b4⟩ := nmB_some h4 u3'
  dsimp only at h
  cases h5 : nmB 8 l5 with
  | none => rw [h5] at h; cases h
  | some x5 =>
  rw [h5, Option.bind_some] at h
  obtain ⟨x5, l6⟩ := x5
  obtain ⟨e5, u5', a5, b5⟩ := nmB_some h5 u4'
  dsimp only at h
  cases h6 : ctB 2 l6 with
  | none => rw [h6] at h; cases h
  | some b =>
  rw [h6, Option.bind_some] at h
  obtain ⟨b, l7⟩ := b
  obtain ⟨e6, u6', v6⟩ := ctB_back h6 u5' (by omega)
  dsimp only at h
  by_cases hg : Rg ⟨k, strOfNums p, strOfNums t, sgn x3, sgn x4, IntKind.i64.wrap x5, b⟩
  · rw [if_pos hg] at h
    obtain ⟨rfl, rfl⟩ := Prod.mk.inj (Option.some.inj h)
    refine ⟨?_, ⟨hg, v6, by show _ ≤ IntKind.i64.wrap x5; rw [w64]; omega, by show IntKind.i64.wrap x5 ≤ _; rw [w64]; omega⟩, u6'⟩
    have hp : (strOfNums p).size = p.length := by rw [← nb_length, nb_strOf v1]
    have ht : (strOfNums t).size = t.length := by rw [← nb_length, nb_strOf v2]
    unfold ob
    dsimp only
    rw [nb_strOf v1, nb_strOf v2, hp, ht]
    have q1 : le 1 (uw k) = le 1 k := by rw [show uw k = k by unfold uw; rw [IntKind.wrap_u64]; omega]
    have q3 : le 4 (uw (sgn x3)) = le 4 x3 := le_mod 4 _ _ (by unfold uw sgn; rw [IntKind.wrap_u64, IntKind.wrap_i32, w64]; omega)
    have q4 : le 4 (uw (sgn x4)) = le 4 x4 := le_mod 4 _ _ (by unfold uw sgn; rw [IntKind.wrap_u64, IntKind.wrap_i32, w64]; omega)
    have q5 : le 8 (uw (IntKind.i64.wrap x5)) = le 8 x5 := le_mod 8 _ _ (by unfold uw; rw [IntKind.wrap_u64, w64]; omega)
    rw [q1, q3, q4, q5]
    simp only [List.append_assoc]
    rw [e0, e1, e2, e3, e4, e5, e6]
  · rw [if_neg hg] at h; cases h
theorem obs_ops {n : Nat} {l r : List Int} {L : List Ho} (h : opsB n l = some (L, r)) (hu : ∀ x ∈ l, U8 x) : l = obs L ++ r ∧ L.length = n ∧ ∀ o ∈ L, Ok o := by
  induction n generalizing l L with
  | zero =>
    unfold opsB at h
    obtain ⟨rfl, rfl⟩ := Prod.mk.inj (Option.some.inj h)
    exact ⟨rfl, rfl, by simp⟩
  | succ n ih =>
    rw [opsB] at h
    cases h0 : opB l with
    | none => rw [h0] at h; cases h
    | some y =>
      obtain ⟨o, l1⟩ := y
      rw [h0, Option.bind_some] at h
      dsimp only at h
      cases h1 : opsB n l1 with
      | none => rw [h1] at h; cases h
      | some z =>
        obtain ⟨L1, r1⟩ := z
        rw [h1] at h
        obtain ⟨rfl, rfl⟩ := Prod.mk.inj (Option.some.inj h)
        obtain ⟨e0, k0, u0⟩ := ob_op h0 hu
        obtain ⟨e1, e2, k1⟩ := ih h1 u0
        refine ⟨by dsimp only; rw [obs, List.append_assoc, ← e1, ← e0], by simp [e2], fun x hx => ?_⟩
        rcases List.mem_cons.1 hx with rfl | hx
        · exact k0
        · exact k1 x hx
theorem body_all {l : List Int} {L : List Ho} (h : allB l = some L) (hu : ∀ x ∈ l, U8 x) : l = body L ∧ L.length ≤ 4096 ∧ ∀ o ∈ L, Ok o := by
  by_cases h4 : 4 ≤ l.length
  · by_cases hh : l.take 4 = [72, 73, 83, 84]
    · by_cases h3 : 4 ≤ (l.drop 4).length
      · rw [allB_4 h4 hh h3] at h
        have ud : ∀ x ∈ l.drop 4, U8 x := fun x hx => hu x (List.mem_of_mem_drop hx)
        have hn : nmB 4 (l.drop 4) = some (nu ((l.drop 4).take 4), (l.drop 4).drop 4) := by unfold nmB; rw [if_pos h3]
        obtain ⟨e1, u1, a1, b1⟩ := nmB_some hn ud
        generalize nu ((l.drop 4).take 4) = x at *
        generalize (l.drop 4).drop 4 = s at *
        by_cases hx : x ≤ 4096
        · rw [if_pos hx] at h
          cases h5 : opsB x.toNat s with
          | none => rw [h5] at h; cases h
          | some z =>
            obtain ⟨L1, r⟩ := z
            rw [h5, Option.bind_some] at h
            dsimp only at h
            by_cases hr : r = []
            · rw [if_pos hr] at h
              obtain rfl := Option.some.inj h
              obtain ⟨e2, e3, k⟩ := obs_ops h5 u1
              refine ⟨?_, by omega, k⟩
              subst hr
              rw [List.append_nil] at e2
              have : l = l.take 4 ++ l.drop 4 := (List.take_append_drop 4 l).symm
              rw [this, hh, e1, e2]
              unfold body
              rw [e3, show uw (x.toNat : Int) = x by unfold uw; rw [IntKind.wrap_u64]; omega, List.append_assoc]
            · rw [if_neg hr] at h; cases h
        · rw [if_neg hx] at h; cases h
      · rw [allB_3 h4 hh h3] at h; cases h
    · rw [allB_2 h4 hh] at h; cases h
  · rw [allB_1 h4] at h; cases h
/-- what is read is written as the same bytes -/
theorem wB_rd {l : List Int} (hu : ∀ x ∈ l, U8 x) (h : rdE l = 0) : wE (rdL l) = 0 ∧ wB (rdL l) = l ∧ l = body (rdL l) ++ le 4 (uw (mo 0 (body (rdL l)))) := by
  have hE := h
  have h1 : ¬ 8388608 < l.length := fun g => by rw [rdE_long g] at h; omega
  have h2 : ¬ l.length < 12 := fun g => by rw [rdE_short h1 g] at h; omega
  rw [rdE_sum h1 h2] at h
  by_cases hs : le 4 (uw (mo 0 (l.take (l.length - 4)))) = l.drop (l.length - 4)
  · rw [if_pos hs] at h
    cases ha : allB (l.take (l.length - 4)) with
    | none => rw [ha] at h; simp at h
    | some L =>
      obtain ⟨e1, e2, e3⟩ := body_all ha (fun x hx => hu x (List.mem_of_mem_take hx))
      have eL : rdL l = L := by unfold rdL; rw [if_pos hE, ha]; rfl
      have w0 : wE L = 0 := by unfold wE; rw [if_neg (by omega), if_pos (fun o ho => (e3 o ho).1)]
      have e4 : l = body L ++ le 4 (uw (mo 0 (body L))) := by
        rw [e1] at hs
        rw [hs, ← e1, List.take_append_drop]
      rw [eL]
      exact ⟨w0, by unfold wB; rw [if_pos w0, ← e4], e4⟩
  · rw [if_neg hs] at h; omega

end Go.Proofs.YthngpmiclbbpnaaGreat
