/-
  The fixed chip that each statement on translations ends with, as numbers. Nothing of one statement alone stands here.
-/
import Derived.Test.YtbfifppdcmimaaaGreatNB
import Derived.KernelRfl
import Derived.Test.YtbfifppdcmimaaaGreatKB
namespace Go.Proofs.YtbfifppdcmimaaaGreat
open Go.RowKit Crcm Gcm Ftlm Go.ChangeShapes
def kn0 : Ch := newC 8 4 64 []
def kn1 : Ch := (eaF kn0 8).2.1
def knf : Nat → Bool := (eaF kn0 8).2.2
def kb0 : Bk := ⟨0, 0, 0, 0⟩
def kbl : List Bk := [kb0, kb0, kb0, kb0, kb0, kb0, kb0, kb0]
def kbl1 : List Bk := [⟨1, 1, 0, 1⟩, kb0, kb0, kb0, kb0, kb0, kb0, kb0]
def kbl2 : List Bk := [⟨1, 2, 0, 2⟩, kb0, kb0, kb0, kb0, kb0, kb0, kb0]
def kn2 (p : List Int) : Ch := prC kn1 0 0 p
def kn3 (p b : List Int) : Ch := prC (kn2 p) 0 1 b
theorem kn_ea : eaF kn0 8 = (0, kn1, knf) := by
  have h : (eaF kn0 8).1 = 0 := by kernel_rfl
  exact Prod.ext h rfl
theorem kn_rows : rows kn1.bad knf (fun _ => 0) 8 = kbl := by kernel_rfl
theorem kn1_nums : kn1.nb = 8 ∧ kn1.np = 4 ∧ kn1.sz = 64 ∧ kn1.up = true := ⟨by kernel_rfl, by kernel_rfl, by kernel_rfl, by kernel_rfl⟩
theorem kn2_nums (p : List Int) : (kn2 p).nb = 8 ∧ (kn2 p).np = 4 ∧ (kn2 p).sz = 64 ∧ (kn2 p).up = true := ⟨by kernel_rfl, by kernel_rfl, by kernel_rfl, by kernel_rfl⟩
theorem kn3_nums (p b : List Int) : (kn3 p b).nb = 8 ∧ (kn3 p b).np = 4 ∧ (kn3 p b).sz = 64 ∧ (kn3 p b).up = true := ⟨by kernel_rfl, by kernel_rfl, by kernel_rfl, by kernel_rfl⟩
theorem below8 {P : Nat → Prop} (h0 : P 0) (h1 : P 1) (h2 : P 2) (h3 : P 3) (h4 : P 4) (h5 : P 5) (h6 : P 6) (h7 : P 7) : ∀ k, k < 8 → P k := by
  intro k hk
  obtain rfl | rfl | rfl | rfl | rfl | rfl | rfl | rfl : k = 0 ∨ k = 1 ∨ k = 2 ∨ k = 3 ∨ k = 4 ∨ k = 5 ∨ k = 6 ∨ k = 7 := by omega
  all_goals assumption
theorem below4 {P : Nat → Prop} (h0 : P 0) (h1 : P 1) (h2 : P 2) (h3 : P 3) : ∀ k, k < 4 → P k := by
  intro k hk
  obtain rfl | rfl | rfl | rfl : k = 0 ∨ k = 1 ∨ k = 2 ∨ k = 3 := by omega
  all_goals assumption
theorem kn1_wear : ∀ k, k < 8 → kn1.wear k = 1 := below8 (by kernel_rfl) (by kernel_rfl) (by kernel_rfl) (by kernel_rfl) (by kernel_rfl) (by kernel_rfl) (by kernel_rfl) (by kernel_rfl)
theorem kn3_wear (p b : List Int) : ∀ k, k < 8 → (kn3 p b).wear k = 1 := below8 (by kernel_rfl) (by kernel_rfl) (by kernel_rfl) (by kernel_rfl) (by kernel_rfl) (by kernel_rfl) (by kernel_rfl) (by kernel_rfl)
theorem kn_p1 (b : List Int) (hb : b.length = 96) : prgT b kbl kn1 = ((0, 0, 0), kbl1, kn2 b) := by
  unfold prgT
  rw [if_pos kn1_nums.2.2.2, if_pos (by rw [hb, kn1_nums.2.2.1])]
  have h : obI kn1.wear kbl = (((0 : Nat) : Int), kbl.set 0 ⟨1, 0, 0, 0⟩) := by kernel_rfl
  have e := prgF_ok (b := b) (j := 8) (c := kn1) (p := 0) (e := 0) h (y := ⟨1, 0, 0, 0⟩) rfl rfl (by rw [hb]; kernel_rfl)
  have e2 : pgC kn1 0 0 b = kn2 b := by
    unfold pgC
    rw [hb, if_pos (by kernel_rfl)]
    rfl
  rw [show kbl.length + 1 = 8 + 1 from rfl, e, if_pos rfl]
  change ((((0 : Nat) : Int), (0 : Int), (0 : Int)), _, pgC kn1 0 0 b) = _
  have e3 : (kbl.set 0 ⟨1, 0, 0, 0⟩).set 0 (fillB kn1.np ⟨1, 0, 0, 0⟩) = kbl1 := by kernel_rfl
  rw [e2, e3]
  rfl
theorem kn_p2 (p b : List Int) (hb : b.length = 96) : prgT b kbl1 (kn2 p) = ((0, 1, 0), kbl2, kn3 p b) := by
  unfold prgT
  rw [if_pos (kn2_nums p).2.2.2, if_pos (by rw [hb, (kn2_nums p).2.2.1])]
  have h : obI (kn2 p).wear kbl1 = (((0 : Nat) : Int), kbl1) := by kernel_rfl
  have e := prgF_ok (b := b) (j := 8) (c := kn2 p) (p := 1) (e := 0) h (y := ⟨1, 1, 0, 1⟩) rfl rfl (by rw [hb]; kernel_rfl)
  have e2 : pgC (kn2 p) 0 1 b = kn3 p b := by
    unfold pgC
    rw [hb, if_pos (by kernel_rfl)]
    rfl
  rw [show kbl1.length + 1 = 8 + 1 from rfl, e, if_pos rfl]
  change ((((0 : Nat) : Int), (1 : Int), (0 : Int)), _, pgC (kn2 p) 0 1 b) = _
  have e3 : kbl1.set 0 (fillB (kn2 p).np ⟨1, 1, 0, 1⟩) = kbl2 := by kernel_rfl
  rw [e2, e3]
  rfl
theorem kn_bad : ∀ k, k < 8 → kn1.bad k = false := below8 (by kernel_rfl) (by kernel_rfl) (by kernel_rfl) (by kernel_rfl) (by kernel_rfl) (by kernel_rfl) (by kernel_rfl) (by kernel_rfl)
theorem kn3_bad (p b : List Int) : ∀ k, k < 8 → (kn3 p b).bad k = false := below8 (by kernel_rfl) (by kernel_rfl) (by kernel_rfl) (by kernel_rfl) (by kernel_rfl) (by kernel_rfl) (by kernel_rfl) (by kernel_rfl)
theorem kn3_p0 (p b : List Int) : rdL (kn3 p b) 0 0 = p := by kernel_rfl
theorem kn3_p1 (p b : List Int) : rdL (kn3 p b) 0 1 = b := by kernel_rfl
theorem kn3_p2 (p b : List Int) : rdL (kn3 p b) 0 2 = List.replicate 96 255 := by kernel_rfl
theorem kn3_p3 (p b : List Int) : rdL (kn3 p b) 0 3 = List.replicate 96 255 := by kernel_rfl
theorem kn3_up (p b : List Int) (k : Nat) (hk : 1 ≤ k) (hk8 : k < 8) : ∀ i, i < 4 → rdL (kn3 p b) k i = List.replicate 96 255 := by
  obtain rfl | rfl | rfl | rfl | rfl | rfl | rfl : k = 1 ∨ k = 2 ∨ k = 3 ∨ k = 4 ∨ k = 5 ∨ k = 6 ∨ k = 7 := by omega
  all_goals exact below4 (by kernel_rfl) (by kernel_rfl) (by kernel_rfl) (by kernel_rfl)
theorem kn_bw (x : Bk) (h : x = ⟨0, 0, 1, 0⟩ ∨ x = ⟨1, 1, 1, 1⟩ ∨ x = ⟨1, 2, 1, 2⟩) : Bw x := by
  rcases h with rfl | rfl | rfl <;> (unfold Bw I64; simp)
theorem kn_nomi (m : Mg) (v : Fv) (hl : m.l = kbl) (hr : m.r = 1) (hb : m.b = 0) (h1 : v.st = false) (h2 : v.bg = false) (h3 : v.n3 = 0) (h4 : ∀ z, v.d z = false) (h5 : ∀ j, v.lt j = false) : Nomi kn1 m v := by
  have e : wk kn1.wear kbl 8 = [⟨0, 0, 1, 0⟩, ⟨0, 0, 1, 0⟩, ⟨0, 0, 1, 0⟩, ⟨0, 0, 1, 0⟩, ⟨0, 0, 1, 0⟩, ⟨0, 0, 1, 0⟩, ⟨0, 0, 1, 0⟩, ⟨0, 0, 1, 0⟩] := by kernel_rfl
  have e4 : cnt 4 kbl 8 = 0 := by kernel_rfl
  have e5 : shB kn1 kbl (1 - (0 - 0)) = false := by kernel_rfl
  have el : kbl.length = 8 := rfl
  refine ⟨h1, h2, h3, h4, fun j _ => h5 j, ?_, ?_, ?_, ?_, ?_, ?_⟩
  · rw [hl, kn1_nums.1, e]
    intro x hx
    simp only [List.mem_cons, List.not_mem_nil, or_false, or_self] at hx
    exact kn_bw x (.inl hx)
  · rw [hl, el, e4]; omega
  · rw [hr]; omega
  · rw [hb]; omega
  · rw [hl, el, e4, hr, hb]; omega
  · rw [hl, el, e4, hr, hb]; exact e5
theorem kn_nomi2 (p : List Int) (m : Mg) (v : Fv) (hl : m.l = kbl1) (hr : m.r = 1) (hb : m.b = 0) (h1 : v.st = false) (h2 : v.bg = false) (h3 : v.n3 = 0) (h4 : ∀ z, v.d z = false) (h5 : ∀ j, v.lt j = false) : Nomi (kn2 p) m v := by
  have e : wk (kn2 p).wear kbl1 8 = [⟨1, 1, 1, 1⟩, ⟨0, 0, 1, 0⟩, ⟨0, 0, 1, 0⟩, ⟨0, 0, 1, 0⟩, ⟨0, 0, 1, 0⟩, ⟨0, 0, 1, 0⟩, ⟨0, 0, 1, 0⟩, ⟨0, 0, 1, 0⟩] := by kernel_rfl
  have e4 : cnt 4 kbl1 8 = 0 := by kernel_rfl
  have e5 : shB (kn2 p) kbl1 (1 - (0 - 0)) = false := by kernel_rfl
  have el : kbl1.length = 8 := rfl
  refine ⟨h1, h2, h3, h4, fun j _ => h5 j, ?_, ?_, ?_, ?_, ?_, ?_⟩
  · rw [hl, (kn2_nums p).1, e]
    intro x hx
    simp only [List.mem_cons, List.not_mem_nil, or_false, or_self] at hx
    exact kn_bw x (hx.elim (fun e => .inr (.inl e)) .inl)
  · rw [hl, el, e4]; omega
  · rw [hr]; omega
  · rw [hb]; omega
  · rw [hl, el, e4, hr, hb]; omega
  · rw [hl, el, e4, hr, hb]; exact e5
end Go.Proofs.YtbfifppdcmimaaaGreat
/-
  What a look at the fixed chip finds. Nothing of one statement alone stands here.
-/
namespace Go.Proofs.YtbfifppdcmimaaaGreat
open Go.RowKit Crcm Gcm Ftlm Go.ChangeShapes Go.Maps

theorem er96 : Tagm.Er (List.replicate 96 255) := fun _ hb => (List.mem_replicate.1 hb).2
theorem lkI_er (n k : Nat) (pg : Nat → List Int) (s : Sn) : ∀ i, (∀ j, j < i → Tagm.Er (pg j)) → lkI n k pg s i = s := by
  intro i
  induction i with
  | zero => intro _; rfl
  | succ i ih =>
    intro h
    rw [lkI, ih (fun j hj => h j (by omega)), lkP, if_pos (h i (by omega))]
theorem lkP_ok {n k : Nat} {s : Sn} {i : Nat} {l : List Int} {kd pg sq ep : Int} (hv : Tagm.Vl n l) (h1 : Tagm.tk n l = kd) (h2 : Tagm.tp n l = pg) (h3 : Tagm.ts n l = sq) (h4 : Tagm.te n l = ep) (hs : isSm kd pg = true) :
    lkP n k s i l = if kd = 2 then lkt (lkl (lke (lkf s k) k ep) ⟨k, i, kd, pg, sq, ep⟩) ep else lkl (lke (lkf s k) k ep) ⟨k, i, kd, pg, sq, ep⟩ := by
  rw [lkP, if_neg (Tagm.Vl_not_Er hv), if_pos hv, lkW, h1, h2, h3, h4, if_pos hs]
/-- what is found: a seal, and a page that is not sealed -/
def knS : Sn := ⟨[⟨0, 0, 2, 0, 1, 1⟩, ⟨0, 1, 1, 3, 2, 2⟩], fun j => if j = 7 then true else if j = 6 then true else if j = 5 then true else if j = 4 then true else if j = 3 then true else if j = 2 then true else if j = 1 then true else false, fun j => if j = 0 then 2 else 0, 1⟩
theorem kn_look {p b : List Int} (hp : Tagm.Vl 64 p) (p1 : Tagm.tk 64 p = 2) (p2 : Tagm.tp 64 p = 0) (p3 : Tagm.ts 64 p = 1) (p4 : Tagm.te 64 p = 1)
    (hb : Tagm.Vl 64 b) (b1 : Tagm.tk 64 b = 1) (b2 : Tagm.tp 64 b = 3) (b3 : Tagm.ts 64 b = 2) (b4 : Tagm.te 64 b = 2) : ∃ s, lkA 64 4 (kn3 p b).bad (rdL (kn3 p b)) 8 = s ∧ s.L = knS.L ∧ s.last = 1 ∧ s.fr 0 = false := by
  refine ⟨_, rfl, ?_⟩
  have hup : ∀ k (s : Sn), 1 ≤ k → k < 8 → lkI 64 k (rdL (kn3 p b) k) s 4 = s := fun k s h1 h2 => lkI_er 64 k _ s 4 (fun j hj => by rw [kn3_up p b k h1 h2 j hj]; exact er96)
  have h0 : lkI 64 0 (rdL (kn3 p b) 0) (lk0 ⟨[], fun _ => false, fun _ => 0, 0⟩ 0) 4 = lkl (lke (lkf (lkt (lkl (lke (lkf (lk0 ⟨[], fun _ => false, fun _ => 0, 0⟩ 0) 0) 0 1) ⟨0, 0, 2, 0, 1, 1⟩) 1) 0) 0 2) ⟨0, 1, 1, 3, 2, 2⟩ := by
    rw [lkI, lkI, lkI, lkI, lkI, kn3_p0, kn3_p1, kn3_p2, kn3_p3, lkP_ok hp p1 p2 p3 p4 rfl, if_pos rfl, lkP_ok hb b1 b2 b3 b4 rfl, if_neg (by decide), lkP, if_pos er96, lkP, if_pos er96]
    rfl
  rw [lkA, kn3_bad p b 7 (by omega), if_neg (by decide), hup 7 _ (by omega) (by omega)]
  rw [lkA, kn3_bad p b 6 (by omega), if_neg (by decide), hup 6 _ (by omega) (by omega)]
  rw [lkA, kn3_bad p b 5 (by omega), if_neg (by decide), hup 5 _ (by omega) (by omega)]
  rw [lkA, kn3_bad p b 4 (by omega), if_neg (by decide), hup 4 _ (by omega) (by omega)]
  rw [lkA, kn3_bad p b 3 (by omega), if_neg (by decide), hup 3 _ (by omega) (by omega)]
  rw [lkA, kn3_bad p b 2 (by omega), if_neg (by decide), hup 2 _ (by omega) (by omega)]
  rw [lkA, kn3_bad p b 1 (by omega), if_neg (by decide), hup 1 _ (by omega) (by omega)]
  rw [lkA, kn3_bad p b 0 (by omega), if_neg (by decide), lkA, h0]
  exact ⟨rfl, by kernel_rfl, by kernel_rfl⟩
theorem kn_qn (p b : List Int) : qn 4 (kn3 p b).bad 8 = 32 := by kernel_rfl
theorem kn_fil : knS.L.filter (slK 1 (nwF 1 knS.L)) = [⟨0, 0, 2, 0, 1, 1⟩] := by kernel_rfl
theorem kn_slF (inn : Nat → Int) : slF inn [⟨0, 0, 2, 0, 1, 1⟩] = fun z => if z = 0 then some (((0 : Nat) : Int), ((0 : Nat) : Int)) else none := by
  funext z
  rfl
theorem kn_mx : mxs knS.L 0 = 2 ∧ mxe knS.L 0 = 2 := ⟨by kernel_rfl, by kernel_rfl⟩
theorem kn_ok : ∀ f ∈ knS.L, f.ok := by
  intro f hf
  simp only [knS, List.mem_cons, List.not_mem_nil, or_false] at hf
  rcases hf with rfl | rfl <;> (unfold Fo.ok; simp)
theorem kn_k (f : Fo) (hf : f ∈ knS.L) : f.k < 8 := by
  simp only [knS, List.mem_cons, List.not_mem_nil, or_false] at hf
  rcases hf with rfl | rfl <;> decide
theorem kn_ah (p b : List Int) : ahF (kn3 p b).bad (lv0 0) 8 = false := by kernel_rfl
theorem kn_nbd (p b : List Int) : nbd (kn3 p b).bad 8 = 0 := by kernel_rfl
theorem mp_one {w : World} {b n : Nat} {u : Int × Int} (h : MpAt w b (plM (fun z => if z = 0 then some u else none)) n) : n = 1 := by
  obtain ⟨es, clock, h1, h2, h3, h4, h5, -⟩ := h.es
  obtain ⟨e, he, -, -⟩ := h5 0 (pv u) rfl
  rw [← h2, ← Array.length_toList]
  have hk : ∀ x ∈ es.toList, x.key = .int .u32 0 := fun x hx => by
    obtain ⟨z, -, e1, e2⟩ := h4 x hx
    unfold plM at e2
    by_cases hz : z = 0
    · rw [e1, hz]
    · simp only [if_neg hz] at e2
      cases e2
  generalize es.toList = l at he hk h3
  match l, he, hk, h3 with
  | [x], _, _, _ => rfl
  | x :: y :: r, _, hk, h3 =>
    exfalso
    have := (List.pairwise_cons.1 h3).1 y (by simp)
    exact this ((hk x (by simp)).trans (hk y (by simp)).symm)
end Go.Proofs.YtbfifppdcmimaaaGreat
/-
  The fixed chip opened. Nothing of one statement alone stands here.
-/
namespace Go.Proofs.YtbfifppdcmimaaaGreat
open Go.RowKit Crcm Gcm Ftlm Go.ChangeShapes Go.Maps

/-- a seal's page and another one, as the fixed calls write them -/
structure KnP (p b tx : List Int) : Prop where
  vp : Tagm.Vl 64 p
  p1 : Tagm.tk 64 p = 2
  p2 : Tagm.tp 64 p = 0
  p3 : Tagm.ts 64 p = 1
  p4 : Tagm.te 64 p = 1
  pt : p.take 64 = 1 :: 0 :: 0 :: 0 :: 0 :: 0 :: 0 :: 0 :: tx
  vb : Tagm.Vl 64 b
  b1 : Tagm.tk 64 b = 1
  b2 : Tagm.tp 64 b = 3
  b3 : Tagm.ts 64 b = 2
  b4 : Tagm.te 64 b = 2
theorem kn_pages (tx z : List Int) (ht : tx.length = 56) (hz : z.length = 64) : KnP (Tagm.pg 2 0 1 1 (slB 1 0 tx)) (Tagm.pg 1 3 2 2 z) tx := by
  have hs : (slB 1 0 tx).length = 64 := by simp [slB, ht]
  have v1 := Tagm.Vl_pg (slB 1 0 tx) (show Tagm.Rt 2 0 1 1 by unfold Tagm.Rt; omega)
  have v2 := Tagm.Vl_pg z (show Tagm.Rt 1 3 2 2 by unfold Tagm.Rt; omega)
  have a5 := Tagm.pg_take 2 0 1 1 (slB 1 0 tx)
  rw [hs] at v1 a5
  rw [hz] at v2
  obtain ⟨a1, a2, a3, a4, v1⟩ := v1
  obtain ⟨c1, c2, c3, c4, v2⟩ := v2
  exact ⟨v1, a1, a2, a3, a4, a5, v2, c1, c2, c3, c4⟩

theorem kn_open {w : World} {X : Nat → Prop} {o : Own} {p b tx : List Int} {t : Nat} (h : ChAt w X o (chR (kn3 p b) t)) (hk : KnP p b tx) :
    Calls Tryz.prog 6 #[.pointer (some ⟨o.bc, 0, none⟩)] w fun e w' => (∃ a m v X', e = .returned (.tuple #[.pointer (some ⟨a.F, 0, none⟩), .int .i64 0]) ∧ FtAt w' X' o (chR (kn3 p b) (t + 33)) m a v ∧ v.cap = 22 ∧ v.wr 3 = none ∧ v.d 3 = false ∧ v.se 3 = none) ∧ RdS o (chR (kn3 p b) t) 33 w w' := by
  obtain ⟨n1, n2, n3, n4⟩ := kn3_nums p b
  obtain ⟨s, hs, hL, hlast, hfr⟩ := kn_look hk.vp hk.p1 hk.p2 hk.p3 hk.p4 hk.vb hk.b1 hk.b2 hk.b3 hk.b4
  have e1 : (chR (kn3 p b) t).nb = 8 := n1
  have e2 : (chR (kn3 p b) t).np = 4 := n2
  have e3 : (chR (kn3 p b) t).sz = 64 := n3
  have e4 : (chR (kn3 p b) t).up = true := n4
  have e5 : (chR (kn3 p b) t).bad = (kn3 p b).bad := rfl
  have e6 : rdL (chR (kn3 p b) t) = rdL (kn3 p b) := rfl
  have e7 : (chR (kn3 p b) t).wear = (kn3 p b).wear := rfl
  have q := fopen_ok h e4 (fun k hk => by rw [e7, kn3_wear p b k (by omega)]; unfold I64; omega) (s := s) (by rw [e3, e2, e5, e6, e1]; exact hs) (q := 32) (by rw [e2, e5, e1]; exact kn_qn p b) (by rw [hL]; decide) (by rw [hL]; exact kn_ok) (by rw [hL, e1]; exact kn_k)
    (by rw [hlast]; decide) (by rw [hL, kn_mx.1]; omega) (by rw [hL, kn_mx.2]; omega) (k0 := 0) (i0 := 0) (by rw [e1]; omega) (by rw [hL, hlast, kn_fil]; exact kn_slF _)
    (rpE_ok e4 (by rw [e1]; omega) (by rw [e2]; omega)) (by rw [e3, e6, kn3_p0]; exact hk.vp) (p0 := 1) (p1 := 0) (p2 := 0) (p3 := 0) (r := tx) (by rw [e3, e6, kn3_p0]; exact hk.pt) (res := 1) (bad := 0) (by omega) (by omega) (by omega) (by omega) (by omega) (by rw [e1]; omega) (by rw [e1, e2]; omega) hfr
  refine q.mono ?_
  rintro e w' ⟨⟨a, m, n1, ta, tc, X', rfl, hft, -⟩, hrd⟩
  rw [chR_add] at hft
  exact ⟨⟨a, m, _, X', rfl, hft, by rw [e1, e2]; rfl, rfl, rfl, rfl⟩, hrd⟩
end Go.Proofs.YtbfifppdcmimaaaGreat
/-
  The fixed chip formatted and written to. Nothing of one statement alone stands here.
-/
namespace Go.Proofs.YtbfifppdcmimaaaGreat
open Go.RowKit Crcm Gcm Ftlm Go.ChangeShapes Go.Maps

def knT : List Int := List.replicate 56 0
def knZ : List Int := List.replicate 64 0
def knPp : List Int := Tagm.pg 2 0 1 1 (slB 1 0 knT)
def knBb : List Int := Tagm.pg 1 3 2 2 knZ
theorem knPp_len : knPp.length = 96 := by unfold knPp knT; rw [Tagm.pg_length]; simp [slB]
theorem knBb_len : knBb.length = 96 := by unfold knBb knZ; rw [Tagm.pg_length]; simp
theorem knP_all : KnP knPp knBb knT := kn_pages knT knZ (by simp [knT]) (by simp [knZ])
/-- the formatted translation's numbers -/
structure KnV (m : Mg) (v : Fv) : Prop where
  cap : v.cap = 22
  st : v.st = false
  bg : v.bg = false
  n3 : v.n3 = 0
  d : ∀ z, v.d z = false
  lt : ∀ j, v.lt j = false
  seq : v.seq = 1
  ep : v.ep = 1
  wr : v.wr = fun _ => none
  n1 : v.n1 = 1
  n2 : v.n2 = 0
  ml : m.l = kbl1
  mr : m.r = 1
  mb : m.b = 0
theorem kn_format {w : World} {X : Nat → Prop} {o : Own} (h : ChAt w X o kn0) {b off cp : Nat} (hr : RwX w X (some ⟨b, off, none⟩) knT) :
    Calls Tryz.prog 5 #[.pointer (some ⟨o.bc, 0, none⟩), .int .i64 1, .slice (some ⟨b, off, none⟩) 56 cp] w fun e w' => (∃ a m v X', e = .returned (.tuple #[.pointer (some ⟨a.F, 0, none⟩), .int .i64 0]) ∧ FtAt w' X' o (kn2 knPp) m a v ∧ KnV m v ∧ (∀ b, X' b → X b ∨ w.heap.size ≤ b)) ∧ Kp (o.F 8) w w' := by
  have e0 : kn0.nb = 8 := rfl
  have z0 : nbd kn0.bad 8 = 0 := by kernel_rfl
  have z1 : nbd kn1.bad 8 = 0 := by kernel_rfl
  have q := fformat_ok h rfl (res := 1) (by omega) (cp := cp) hr (n := 56) (by simp [knT]) rfl (by rw [e0, z0]; omega) (c1 := kn1) (f1 := knf) (by rw [e0]; exact kn_ea) ⟨kn1_nums.2.1, kn1_nums.2.2.1, kn1_nums.2.2.2⟩ (z1 := 0) (by rw [e0]; exact z1) (by rw [e0]; omega) (l1 := kbl) (by rw [e0]; exact kn_rows)
    (fun k hk => by rw [kn1_wear k hk]; unfold I64; omega) (fun m v h1 h2 h3 h4 h5 h6 h7 h8 => kn_nomi m v h1 h2 h3 h4 h5 h6 h7 h8) (k := 0) (i := 0) (l2 := kbl1) (c2 := kn2 knPp) (kn_p1 knPp knPp_len) (kn2_nums _).1 rfl
  refine q.mono ?_
  rintro e w' ⟨⟨a, m, n1, ta, tc, X', rfl, hft, h1, h2, h3, -, h5⟩, hk⟩
  have hn : n1 = 1 := mp_one hft.m1
  exact ⟨⟨a, m, _, X', rfl, hft, ⟨rfl, rfl, rfl, rfl, fun _ => rfl, fun _ => rfl, rfl, rfl, rfl, hn, rfl, h1, h2, h3⟩, h5⟩, hk⟩
/-- the numbers behind the writing -/
structure KnW (m : Mg) (v : Fv) : Prop where
  cap : v.cap = 22
  st : v.st = false
  us : (v.n1 : Int) + v.n2 = 2
  sm : v.n1 + v.n2 < 1000000
  th : thP v.wr v.se v.d 3 = some (((0 : Nat) : Int), ((1 : Nat) : Int))
  ml : m.l = kbl2
  mr : m.r = 1
  mb : m.b = 0
theorem kn_write {w : World} {X : Nat → Prop} {o : Own} {m : Mg} {a : Fa} {v : Fv} (h : FtAt w X o (kn2 knPp) m a v) (hv : KnV m v) {b off cp : Nat} (hr : RwX w X (some ⟨b, off, none⟩) knZ) :
    Calls Tryz.prog 10 #[.pointer (some ⟨a.F, 0, none⟩), .int .u32 3, .slice (some ⟨b, off, none⟩) 64 cp] w fun e w' => e = .returned (.int .i64 0) ∧ (∃ m2 v2, FtAt w' X o (kn3 knPp knBb) m2 a v2 ∧ KnW m2 v2) ∧ Kp (fun b => o.F 8 b ∨ FO a m.g b) w w' := by
  have n1 := (kn2_nums knPp).1
  have n3 := (kn2_nums knPp).2.2.1
  have n4 := (kn2_nums knPp).2.2.2
  have q := fWrite_ok h (kn_nomi2 knPp m v hv.ml hv.mr hv.mb hv.st hv.bg hv.n3 hv.d hv.lt) n4 (p := 3) (by rw [hv.cap]; omega) hr (n := 64) (cap := cp) (by simp [knZ]) n3.symm (by rw [hv.seq, hv.ep]; unfold Tagm.Rt; omega) (by rw [hv.wr]) (by rw [hv.n1, hv.n2, hv.cap]; omega) (by rw [hv.cap]; omega)
    (k := 0) (i := 1) (l2 := kbl2) (c2 := kn3 knPp knBb) (by rw [hv.seq, hv.ep, hv.ml]; exact kn_p2 knPp knBb knBb_len) (by rw [n1]; exact (kn3_nums _ _).1) (by rw [hv.ml]; rfl)
  rw [n1] at q
  refine q.mono ?_
  rintro e w' ⟨rfl, hft, hk⟩
  exact ⟨rfl, ⟨_, _, hft, ⟨hv.cap, hv.st, by show (v.n1 : Int) + ((v.n2 + 1 : Nat) : Int) = 2; rw [hv.n1, hv.n2]; omega, by show v.n1 + (v.n2 + 1) < 1000000; rw [hv.n1, hv.n2]; omega, rfl, rfl, hv.mr, hv.mb⟩⟩, hk⟩
end Go.Proofs.YtbfifppdcmimaaaGreat
/-
  The fixed calls that each statement on translations ends with. Nothing of one statement alone stands here.
-/
namespace Go.Proofs.YtbfifppdcmimaaaGreat
open Go.RowKit Crcm Gcm Ftlm Go.ChangeShapes Go.Maps

theorem rw_made {w : World} {g n : Nat} (h : Blk w g 5 (madeCells #[.int .u8 0] n)) (hn : n ≤ 1000) : Rw w (some ⟨g, 0, none⟩) (List.replicate n 0) := by
  refine ⟨fun x hx => by rw [(List.mem_replicate.1 hx).2]; unfold U8; omega, by rw [List.length_replicate]; unfold maxLen; omega, .inr ⟨g, 0, rfl, fun j hj => ?_⟩⟩
  rw [List.length_replicate] at hj
  rw [Nat.zero_add, h.cell, made_get hj]
  simp [hj]

theorem kn_chip {w : World} {o : Own} {X : Nat → Prop} (h : ChAt w X o (newC 8 4 64 [])) : ChAt w X o kn0 := h
theorem rw_T {w : World} {a : Option Addr} (h : Rw w a (List.replicate 56 0)) : Rw w a knT := h
theorem rw_Z {w : World} {a : Option Addr} (h : Rw w a (List.replicate 64 0)) : Rw w a knZ := h
attribute [local irreducible] kn0 kn1 kn2 kn3 knPp knBb knT knZ
set_option maxRecDepth 100000 in
set_option maxHeartbeats 1000000 in
theorem knownF_any (w : World) : Calls Tryz.prog 17 #[] w fun e w' => e = .returned (.bool true) ∧ Below w.heap.size w w' := by
  obtain ⟨i8, hi8, hy0, hy1, hy2⟩ := info_parts Tryz.info8
  have hmk := fun (n : Nat) (hn : n < 1000) W => run_make (P := Tryz.prog) W 23 5 i8 _ Tryz.underlying23 hi8 hy0 .i64 .i64 n n (by omega) (Int.le_refl _) (by rw [hy2]; omega) (by omega)
  have eI : (Value.int .u8 0).cells = #[.int .u8 0] := rfl
  simp only [Int.toNat_natCast, hy1, Nat.mul_one, eI] at hmk
  have hm56 := hmk 56 (by omega)
  have hm64 := hmk 64 (by omega)
  have e56 : ((56 : Nat) : Int) = 56 := rfl
  have e64 : ((64 : Nat) : Int) = 64 := rfl
  rw [e56] at hm56
  rw [e64] at hm64
  clear hmk hi8 hy0 hy1 hy2 eI e56 e64
  have HNew := Lib.hid (new_any 8 4 64 w (show Gd 8 4 64 from ⟨by omega, by omega, by omega, by omega, .inl rfl⟩) [] none 0 0 Ri.nil rfl)
  unfold geoV at HNew
  go_enter Tryz.func17, Tryz.ntmps17
  go_wp2_with fail
  refine HNew.out.mono ?_
  rintro r w1 ⟨hB, ⟨-, o, rfl, hC, hF⟩ | ⟨⟨x, hx, -⟩, -⟩⟩
  rotate_left
  · cases hx
  have hC : ChAt w1 (o.F 8) o kn0 := kn_chip hC
  have hbA : Below w1.heap.size w1 (w1.alloc (.cells (madeCells #[.int .u8 0] 56) 5)) := (Below.refl _ _).alloc (Nat.le_refl _) _
  obtain ⟨B1, hB1⟩ : ∃ b, w1.heap.size = b := ⟨_, rfl⟩
  have hBk : Blk (w1.alloc (.cells (madeCells #[.int .u8 0] 56) 5)) B1 5 (madeCells #[.int .u8 0] 56) := by rw [← hB1]; exact heap_alloc_new w1 _
  have HFo := Lib.hid (kn_format (hC.below hbA) (cp := 56) ((rw_T (rw_made hBk (by omega))).toX (fun e => by have := hC.old _ e; omega)))
  have HB2 := Lib.hid (hB.trans (hbA.mono hB.size))
  have HF := Lib.hid hF
  clear hC hB hF hBk hbA HNew
  have hop : o.p = .pointer (some ⟨o.bc, 0, none⟩) := rfl
  go_wp2_with fail
  clear hop
  generalize w1.alloc (.cells (madeCells #[.int .u8 0] 56) 5) = W2 at HFo HB2 ⊢
  refine HFo.out.mono ?_
  rintro e w3 ⟨⟨a, m, v, X', rfl, hft, hkv, hX'⟩, hk3⟩
  have hX3 : ∀ b, X' b → w.heap.size ≤ b := fun b hb => (hX' b hb).elim (fun e => HF.out b e) (fun e => Nat.le_trans HB2.out.size e)
  have HX3 := Lib.hid hX3
  have HB3 := Lib.hid (HB2.out.trans (hk3.below (B := w.heap.size) (fun b e => HF.out b e) HB2.out.size))
  have hcp := fcapacity_any (hft.ft.cell 4)
  rw [hkv.cap] at hcp
  have HCp := Lib.hid hcp
  have hus := fused_at hft (by rw [hkv.n1, hkv.n2]; omega)
  rw [show ((v.n1 : Int) + v.n2) = 1 from by rw [hkv.n1, hkv.n2]; omega] at hus
  have HUs := Lib.hid hus
  have HFt := Lib.hid hft
  have HKv := Lib.hid hkv
  clear hX' hk3 hX3 hcp hus hft hkv HFo
  go_wp2_with fail
  refine HCp.out.mono ?_
  rintro e w' ⟨rfl, rfl⟩
  go_wp2_with fail
  refine HUs.out.mono ?_
  rintro e w4 ⟨rfl, hb4⟩
  have hft4 := HFt.out.below hb4
  have hbA : Below w4.heap.size w4 (w4.alloc (.cells (madeCells #[.int .u8 0] 64) 5)) := (Below.refl _ _).alloc (Nat.le_refl _) _
  obtain ⟨B2, hB2⟩ : ∃ b, w4.heap.size = b := ⟨_, rfl⟩
  have hBk : Blk (w4.alloc (.cells (madeCells #[.int .u8 0] 64) 5)) B2 5 (madeCells #[.int .u8 0] 64) := by rw [← hB2]; exact heap_alloc_new w4 _
  have HWr := Lib.hid (kn_write (hft4.below hbA) HKv.out (cp := 64) ((rw_Z (rw_made hBk (by omega))).toX (fun e => by have := hft4.ch.old _ e; omega)))
  have hb34 := hb4.trans (hbA.mono hb4.size)
  have HB5 := Lib.hid (HB3.out.trans (hb34.mono HB3.out.size))
  have HSub : Hid (∀ b, (o.F 8 b ∨ FO a m.g b) → w.heap.size ≤ b) := Lib.hid (fun b hb => hb.elim (fun e => HF.out b e) (fun e => HX3.out b (hft4.inX b e)))
  clear hft4 hbA hBk hb34 hb4 HUs HCp HFt
  go_wp2_with fail
  generalize w4.alloc (.cells (madeCells #[.int .u8 0] 64) 5) = W5 at HWr HB5 ⊢
  refine HWr.out.mono ?_
  rintro e w6 ⟨rfl, ⟨m2, v2, hft6, hkw⟩, hk6⟩
  rw [← chR_zero (kn3 knPp knBb)] at hft6
  have HB6 := Lib.hid (HB5.out.trans (hk6.below (B := w.heap.size) (fun b e => HSub.out b e) HB5.out.size))
  have HO1 := Lib.hid (kn_open (t := 0) (p := knPp) (b := knBb) hft6.ch knP_all)
  have HFt6 := Lib.hid hft6
  have HKw := Lib.hid hkw
  clear hft6 hk6 hkw HWr
  go_wp2_with fail
  refine HO1.out.mono ?_
  rintro e w7 ⟨⟨a7, m7, v7, X7, rfl, -⟩, hrd7⟩
  have hft7 := HFt6.out.chip (hrd7.kp _) (HFt6.out.ch.rds0 hrd7) rfl
  rw [chR_add, show 0 + 33 = 33 from rfl] at hft7
  have HB7 := Lib.hid (HB6.out.trans ((hrd7.kp 8).below (B := w.heap.size) (fun b e => HF.out b e) HB6.out.size))
  have HO2 := Lib.hid (kn_open (t := 33) (p := knPp) (b := knBb) hft7.ch knP_all)
  have HFt7 := Lib.hid hft7
  clear hft7 hrd7 HO1
  go_wp2_with fail
  refine HO2.out.mono ?_
  rintro e w8 ⟨⟨a8, m8, v8, X8, rfl, hft8, hcap, hwr8, hd8, hse8⟩, hrd8⟩
  have hf8 := HFt7.out.chip (hrd8.kp _) (HFt7.out.ch.rds0 hrd8) rfl
  rw [chR_add, show 33 + 33 = 66 from rfl] at hf8
  have HB8 := Lib.hid (HB7.out.trans ((hrd8.kp 8).below (B := w.heap.size) (fun b e => HF.out b e) HB7.out.size))
  have hu8 : (chR (kn3 knPp knBb) 66).up = true := (kn3_nums knPp knBb).2.2.2
  have HRn := Lib.hid (fRead_none hft8 hu8 (p := 3) (by rw [hcap]; omega) (by omega) (by unfold thP; rw [hwr8, hd8, hse8]; rfl))
  have HF8 := Lib.hid hf8
  clear hft8 hf8 hcap hwr8 hd8 hse8 hrd8 hu8 HO2
  go_wp2_with fail
  refine HRn.out.mono ?_
  rintro e w9 ⟨rfl, hb9⟩
  have hf9 := HF8.out.below hb9
  have HB9 := Lib.hid (HB8.out.trans (hb9.mono HB8.out.size))
  have hu9 : (chR (kn3 knPp knBb) 66).up = true := (kn3_nums knPp knBb).2.2.2
  have n1 : (chR (kn3 knPp knBb) 66).nb = 8 := (kn3_nums knPp knBb).1
  have n2 : (chR (kn3 knPp knBb) 66).np = 4 := (kn3_nums knPp knBb).2.1
  have n3 : (chR (kn3 knPp knBb) 66).sz = 64 := (kn3_nums knPp knBb).2.2.1
  have hrs := fRead_some hf9 hu9 (p := 3) (by rw [HKw.out.cap]; omega) (by omega) (k := 0) (i := 1) HKw.out.th (rpE_ok hu9 (by rw [n1]; omega) (by rw [n2]; omega)) (l := knBb) (kn3_p1 knPp knBb) (by rw [n3]; exact knP_all.vb) (by rw [n3]; exact knP_all.b2)
  rw [n3, n1] at hrs
  have HRs := Lib.hid hrs
  clear hf9 hu9 n1 n2 n3 hb9 hrs HRn
  go_wp2_with fail
  refine HRs.out.mono ?_
  rintro e w10 ⟨⟨g, cc, rfl, -, -, -⟩, hft10, hk10⟩
  have HB10 := Lib.hid (HB9.out.trans (hk10.below (B := w.heap.size) (fun b e => HF.out b e) HB9.out.size))
  have hus := fused_at hft10 HKw.out.sm
  rw [HKw.out.us] at hus
  have HUs := Lib.hid hus
  have HFt10 := Lib.hid hft10
  clear hft10 hk10 hus HRs
  go_wp2_with fail
  refine HUs.out.mono ?_
  rintro e w11 ⟨rfl, hb11⟩
  have hm4 : cnt 4 m2.l m2.l.length = 0 := by rw [HKw.out.ml]; kernel_rfl
  have HRo := Lib.hid (fro_at (HFt10.out.below hb11) HKw.out.st (by rw [hm4]; omega) (by rw [HKw.out.mr]; omega) (by rw [HKw.out.mb]; omega) (by rw [hm4, HKw.out.mr, HKw.out.mb]; omega))
  have HB11 := Lib.hid (HB10.out.trans (hb11.mono HB10.out.size))
  clear hb11 hm4 HUs
  go_wp2_with fail
  refine HRo.out.mono ?_
  rintro e w12 ⟨rfl, hb12⟩
  have HB12 := Lib.hid (HB11.out.trans (hb12.mono HB11.out.size))
  clear hb12 HRo
  go_wp2
  go_ret
  exact ⟨rfl, HB12.out⟩
end Go.Proofs.YtbfifppdcmimaaaGreat
