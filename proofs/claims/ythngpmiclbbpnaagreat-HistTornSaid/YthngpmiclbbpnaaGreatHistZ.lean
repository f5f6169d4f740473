/-
  Operations' bytes read: an operation taken. Nothing of one statement alone stands here.
-/
import Derived.Test.YthngpmiclbbpnaaGreatHistY
namespace Go.Proofs.YthngpmiclbbpnaaGreat
open Go.RowKit Crcm Tagm Go.ChangeShapes

theorem ctB_some {n : Nat} {l b r : List Int} (h : ctB n l = some (b, r)) : n ≤ l.length ∧ (nu (l.take n)).toNat ≤ (l.drop n).length ∧ b = (l.drop n).take (nu (l.take n)).toNat ∧ r = (l.drop n).drop (nu (l.take n)).toNat := by
  unfold ctB nmB at h
  by_cases h1 : n ≤ l.length
  · rw [if_pos h1] at h
    simp only [Option.bind_some, tkB] at h
    by_cases h2 : (nu (l.take n)).toNat ≤ (l.drop n).length
    · rw [if_pos h2] at h
      injection h with h
      injection h with h3 h4
      exact ⟨h1, h2, h3.symm, h4.symm⟩
    · rw [if_neg h2] at h; cases h
  · rw [if_neg h1] at h; cases h
theorem ctB_none {n : Nat} {l : List Int} (h : ctB n l = none) : ¬ n ≤ l.length ∨ (n ≤ l.length ∧ ¬ (nu (l.take n)).toNat ≤ (l.drop n).length) := by
  unfold ctB nmB at h
  by_cases h1 : n ≤ l.length
  · rw [if_pos h1] at h
    simp only [Option.bind_some, tkB] at h
    by_cases h2 : (nu (l.take n)).toNat ≤ (l.drop n).length
    · rw [if_pos h2] at h; cases h
    · exact .inr ⟨h1, h2⟩
  · exact .inl h1

set_option maxRecDepth 100000 in
set_option maxHeartbeats 1000000 in
theorem hcnt_yes {w : World} {R : Nat} {l b r : List Int} (h : Rd w R l) (n : Nat) (hn : n ≤ 2) (hc : ctB n l = some (b, r)) :
    Calls Tryz.prog 91 #[.pointer (some ⟨R, 0, none⟩), .int .i64 n] w fun e w' => (∃ a c, e = .returned (.slice a b.length c) ∧ b.length ≤ c ∧ Rq w' R a b) ∧ Rd w' R r ∧ Ko R w w' := by
  obtain ⟨h1, h2, rfl, rfl⟩ := ctB_some hc
  have hs := nu_small h.len.2 hn
  have HN := Lib.hid (hnum_yes h n (by omega) h1)
  obtain ⟨z, hz⟩ : ∃ z : Nat, nu (l.take n) = z := ⟨(nu (l.take n)).toNat, by omega⟩
  rw [hz] at HN h2 hs ⊢
  rw [Int.toNat_natCast] at h2 ⊢
  have eZ : IntKind.i64.wrap (z : Int) = (z : Int) := IntWalk.i64_in _ (by omega)
  have HT := Lib.hid (fun w' (hd : Rd w' R (l.drop n)) => take_yes hd z h2)
  have hbl : ((l.drop n).take z).length = z := by rw [List.length_take]; omega
  have HL := Lib.hid hbl
  clear h hc h1 h2 hs hz hbl
  go_enter Tryz.func91, Tryz.ntmps91
  go_wp2_with fail
  refine HN.out.mono ?_
  rintro e w1 ⟨rfl, hd, hk⟩
  have HK := Lib.hid hk
  have HT2 := Lib.hid (HT.out w1 hd)
  clear hd hk HT HN
  go_wp2_with fail
  refine HT2.out.mono ?_
  rintro e w2 ⟨⟨a, c, rfl, hc, hr⟩, hd, hk⟩
  have HR := Lib.hid hr
  have HD := Lib.hid hd
  have HK2 := Lib.hid (HK.out.trans hk)
  clear hr hd hk HT2
  go_wp2
  go_ret
  exact ⟨⟨a, c, by rw [HL.out]; rfl, by rw [HL.out]; exact hc, HR.out⟩, HD.out, HK2.out⟩
set_option maxRecDepth 100000 in
set_option maxHeartbeats 1000000 in
theorem hcnt_no {w : World} {R : Nat} {l : List Int} (h : Rd w R l) (n : Nat) (hn : n ≤ 2) (hc : ctB n l = none) :
    Calls Tryz.prog 91 #[.pointer (some ⟨R, 0, none⟩), .int .i64 n] w fun e w' => e = pE ∧ Ko R w w' := by
  rcases ctB_none hc with h1 | ⟨h1, h2⟩
  · have HN := Lib.hid (hnum_no h n h1)
    clear h hc h1
    go_enter Tryz.func91, Tryz.ntmps91
    go_wp2_with fail
    refine HN.out.mono ?_
    rintro e w1 ⟨rfl, hk⟩
    exact ⟨rfl, rfl, hk⟩
  · have hs := nu_small h.len.2 hn
    have HN := Lib.hid (hnum_yes h n (by omega) h1)
    obtain ⟨z, hz⟩ : ∃ z : Nat, nu (l.take n) = z := ⟨(nu (l.take n)).toNat, by omega⟩
    rw [hz] at HN h2 hs
    rw [Int.toNat_natCast] at h2
    have eZ : IntKind.i64.wrap (z : Int) = (z : Int) := IntWalk.i64_in _ (by omega)
    have HT := Lib.hid (fun w' (hd : Rd w' R (l.drop n)) => take_no hd z h2)
    clear h hc h1 h2 hs hz
    go_enter Tryz.func91, Tryz.ntmps91
    go_wp2_with fail
    refine HN.out.mono ?_
    rintro e w1 ⟨rfl, hd, hk⟩
    have HK := Lib.hid hk
    have HT2 := Lib.hid (HT.out w1 hd)
    clear hd hk HT HN
    go_wp2_with fail
    refine HT2.out.mono ?_
    rintro e w2 ⟨rfl, hk⟩
    exact ⟨rfl, rfl, HK.out.trans hk⟩

/-- bytes in a block of their own -/
def Ry (w : World) (B : Nat) (a : Option Addr) (l : List Int) : Prop := Rw w a l ∧ (l ≠ [] → ∃ b off cs, a = some ⟨b, off, none⟩ ∧ B ≤ b ∧ Blk w b 5 cs)
theorem Ry.nil {w : World} {B : Nat} {a : Option Addr} : Ry w B a [] := ⟨Rw.nil, fun h => absurd rfl h⟩
theorem Ry.mono {w : World} {B B' : Nat} {a : Option Addr} {l : List Int} (h : Ry w B a l) (hb : B' ≤ B) : Ry w B' a l :=
  ⟨h.1, fun g => by obtain ⟨b, off, cs, e, h1, h2⟩ := h.2 g; exact ⟨b, off, cs, e, Nat.le_trans hb h1, h2⟩⟩
theorem Ry.keep {w w' : World} {B : Nat} {a : Option Addr} {l : List Int} (h : Ry w B a l) (hk : ∀ b cs, B ≤ b → Blk w b 5 cs → w'.heap[b]? = w.heap[b]?) : Ry w' B a l := by
  by_cases hl : l = []
  · subst hl; exact Ry.nil
  obtain ⟨b, off, cs, e, h1, h2⟩ := h.2 hl
  have hq := hk b cs h1 h2
  refine ⟨⟨h.1.1, h.1.2.1, ?_⟩, fun _ => ⟨b, off, cs, e, h1, hq.trans h2⟩⟩
  rcases h.1.2.2 with h3 | ⟨b', off', e', h3⟩
  · exact .inl h3
  · rw [e] at e'
    injection e' with e'
    injection e' with e1 e2
    subst e1 e2
    exact .inr ⟨b, off, e, fun i hi => (World.cell?_of_block (w := w) hq).trans (h3 i hi)⟩
theorem Ry.below {w w' : World} {B : Nat} {a : Option Addr} {l : List Int} (h : Ry w B a l) (hb : Below w.heap.size w w') : Ry w' B a l := h.keep fun b _ _ h2 => hb.block b h2.lt
theorem Ry.ko {R : Nat} {w w' : World} {B : Nat} {a : Option Addr} {l : List Int} (h : Ry w B a l) (hk : Ko R w w') (hR : R < B) : Ry w' B a l := h.keep fun b _ h1 h2 => hk.block b h2.lt (by omega)
theorem Ry.of_own {w : World} {B n : Nat} {v : Value} {l : List Int} (h : w.ownsRow B 5 1 v n (l.map (Value.int .u8))) {a : Option Addr} {c : Nat} (hv : v = .slice a n c) (hw : Rw w a l) : Ry w B a l := by
  refine ⟨hw, fun hl => ?_⟩
  obtain ⟨hlen, h⟩ := h
  rcases h with ⟨h0, h1⟩ | ⟨g, cap, cur, h0, hg, hh, -⟩
  · simp [h1] at hlen; exact absurd hlen hl
  · rw [hv] at h0
    injection h0 with h0
    exact ⟨g, 0, cur, h0, hg, hh⟩

set_option maxRecDepth 100000 in
set_option maxHeartbeats 1000000 in
/-- a copy of bytes, nil, empty or not -/
theorem hclone_all (a : Option Addr) (n c : Nat) (l : List Int) (w : World) (hr : Rw w a l) (hl : l.length = n) (hn : n ≤ 100000) :
    Calls Tryz.prog 35 #[.slice a n c] w fun e w' => (∃ a' cc, e = .returned (.slice a' n cc) ∧ n ≤ cc ∧ Ry w' w.heap.size a' l) ∧ Below w.heap.size w w' := by
  have HL := Lib.hid hl
  have HR := Lib.hid hr
  have en := fun W a n c => Lib.run_eql_slice_nil (P := Tryz.prog) W 23 5 a n c 0 0 Tryz.underlying23
  cases a with
  | none =>
    have h0 : l = [] := by
      rcases hr.2.2 with h | ⟨b, off, h, _⟩
      · exact h
      · cases h
    subst h0
    simp at hl
    subst hl
    clear hr
    go_enter Tryz.func35, Tryz.ntmps35
    go_wp2
    go_ret
    exact ⟨⟨none, 0, rfl, Nat.le_refl _, Ry.nil⟩, Below.refl _ _⟩
  | some ad =>
    clear hl hr
    go_enter Tryz.func35, Tryz.ntmps35
    have hown : Hid ((w.alloc (.cells #[] 5)).ownsRow w.heap.size 5 1 (.slice (some ⟨w.heap.size, 0, none⟩) 0 0) 0 (([] : List Int).map (Value.int .u8))) := Lib.hid (World.ownsRow_lit w #[] 0 (Nat.le_refl _) (Nat.zero_le _) rfl)
    have hbx : Below w.heap.size w (w.alloc (.cells #[] 5)) := (Below.refl _ _).alloc (Nat.le_refl _) _
    have HBX := Lib.hid hbx
    have hsrc := Lib.hid (HR.out.src.below hbx)
    clear hbx
    go_wp2_with (at_builtin; refine append_bytes rfl _ _ rfl w.heap.size _ 0 [] rfl hown.out (some ad) n c l rfl HL.out hsrc.out (by omega) (by simp) ?_)
    intro v' w2 hown2 hb2
    have HB2 := Lib.hid (HBX.out.trans hb2)
    obtain ⟨a2, cap2, rfl, hrw, hlen, hcap⟩ := Rw.of_own hown2 HR.out.1
    have HY : Hid (Ry w2 w.heap.size a2 l) := Lib.hid (by have h9 := Ry.of_own hown2 rfl hrw; simpa using h9)
    clear hown2 hb2 hrw hlen
    go_wp2
    go_ret
    exact ⟨⟨a2, cap2, by simp, by simpa using hcap, HY.out⟩, HB2.out⟩

/-- what stands while an operation is taken: its block, the result's, the reader -/
structure OpS (w0 W : World) (R Q P : Nat) (cs : Array Value) (l : List Int) : Prop where
  box : Blk W P 41 cs
  res : Blk W Q 41 #[.int .i64 0, .string ⟨#[]⟩, .string ⟨#[]⟩, .int .i64 0, .int .i64 0, .int .i64 0, .slice none 0 0]
  rd : Rd W R l
  ko : Ko R w0 W
  lt : R < w0.heap.size
  q : w0.heap.size = Q
  p : Q + 1 = P
theorem OpS.step {w0 W W' : World} {R Q P : Nat} {cs : Array Value} {l l' : List Int} (h : OpS w0 W R Q P cs l) (hr : Rd W' R l') (hk : Ko R W W') : OpS w0 W' R Q P cs l' :=
  ⟨h.box.ko hk (by have := h.lt; have := h.q; have := h.p; omega), h.res.ko hk (by have := h.lt; have := h.q; omega), hr, h.ko.trans hk, h.lt, h.q, h.p⟩
theorem OpS.below {w0 W W' : World} {R Q P : Nat} {cs : Array Value} {l : List Int} (h : OpS w0 W R Q P cs l) (hb : Below W.heap.size W W') : OpS w0 W' R Q P cs l :=
  h.step (h.rd.above (hb.mono (by have := h.rd.lt; omega))) (Ko.of_below hb)
theorem OpS.put {w0 W : World} {R Q P : Nat} {cs cs' : Array Value} {l : List Int} (h : OpS w0 W R Q P cs l) (i : Nat) (v : Value) (hc : cs.setIfInBounds i v = cs') : OpS w0 (W.setCell ⟨P, i, none⟩ v) R Q P cs' l := by
  have h1 := h.lt
  have h2 := h.q
  have h3 := h.p
  have hb : Below (R + 1) W (W.setCell ⟨P, i, none⟩ v) := (Below.refl _ _).setCell (p := ⟨P, i, none⟩) (by show R + 1 ≤ P; omega) v
  subst hc
  refine ⟨h.box.put i v, h.res.far (p := ⟨P, i, none⟩) (by show Q ≠ P; omega) v, h.rd.above hb, ⟨h.ko.os, h.ko.tape, h.ko.output, by have := h.ko.size; simpa [World.setCell] using this, fun k hk hr => ?_⟩, h1, h2, h3⟩
  rw [Below.heap_setCell W ⟨P, i, none⟩ v k (by show k ≠ P; omega)]
  exact h.ko.block k hk hr
theorem OpS.fill {w0 W : World} {R Q P : Nat} {cs : Array Value} {l : List Int} (h : OpS w0 W R Q P cs l) {a : Option Addr} {b : List Int} (hr : Ry W (Q + 1) a b) (v0 v1 v2 v3 v4 v5 v6 : Value) :
    Rd (((((((W.setCell ⟨Q, 0, none⟩ v0).setCell ⟨Q, 1, none⟩ v1).setCell ⟨Q, 2, none⟩ v2).setCell ⟨Q, 3, none⟩ v3).setCell ⟨Q, 4, none⟩ v4).setCell ⟨Q, 5, none⟩ v5).setCell ⟨Q, 6, none⟩ v6) R l ∧
      Ko R w0 (((((((W.setCell ⟨Q, 0, none⟩ v0).setCell ⟨Q, 1, none⟩ v1).setCell ⟨Q, 2, none⟩ v2).setCell ⟨Q, 3, none⟩ v3).setCell ⟨Q, 4, none⟩ v4).setCell ⟨Q, 5, none⟩ v5).setCell ⟨Q, 6, none⟩ v6) ∧
      Ry (((((((W.setCell ⟨Q, 0, none⟩ v0).setCell ⟨Q, 1, none⟩ v1).setCell ⟨Q, 2, none⟩ v2).setCell ⟨Q, 3, none⟩ v3).setCell ⟨Q, 4, none⟩ v4).setCell ⟨Q, 5, none⟩ v5).setCell ⟨Q, 6, none⟩ v6) (Q + 1) a b := by
  have h1 := h.lt
  have h2 := h.q
  have h7 : ∀ (A B : World) (k : Nat) (v : Value), Below Q A B → Below Q A (B.setCell ⟨Q, k, none⟩ v) := fun A B k v hb => hb.setCell (p := ⟨Q, k, none⟩) (Nat.le_refl _) v
  have hb := h7 _ _ 6 v6 (h7 _ _ 5 v5 (h7 _ _ 4 v4 (h7 _ _ 3 v3 (h7 _ _ 2 v2 (h7 _ _ 1 v1 (h7 W W 0 v0 (Below.refl _ _)))))))
  have hs := h.ko.size
  refine ⟨h.rd.above (hb.mono (by omega)), ⟨hb.os.trans h.ko.os, hb.tape.trans h.ko.tape, hb.output.trans h.ko.output, Nat.le_trans hs hb.size, fun k hk hr => (hb.block k (by omega)).trans (h.ko.block k hk hr)⟩, hr.keep fun x cs h1 h2 => ?_⟩
  have hn : ∀ (A : World) (k : Nat) (v : Value), (A.setCell ⟨Q, k, none⟩ v).heap[x]? = A.heap[x]? := fun A k v => Below.heap_setCell A ⟨Q, k, none⟩ v x (by show x ≠ Q; omega)
  rw [hn, hn, hn, hn, hn, hn, hn]
/-- what taking an operation comes to -/
def OpP (w : World) (R : Nat) (l : List Int) (e : Ending) (w' : World) : Prop :=
  (∀ o r, opB l = some (o, r) → (∃ A c, e = .returned (.agg #[.int .i64 o.kind, .string o.path, .string o.to, .int .i64 o.handle, .int .i64 o.n, .int .i64 o.off, .slice A o.b.length c]) ∧ o.b.length ≤ c ∧ Ry w' w.heap.size A o.b) ∧ Rd w' R r) ∧ (opB l = none → e = pE) ∧ Ko R w w'
theorem OpP.yes {w w' : World} {R m : Nat} {l r : List Int} {o : Ho} {A : Option Addr} {c : Nat} (h : opB l = some (o, r)) (hm : o.b.length = m) (hc : o.b.length ≤ c) (hr : Ry w' w.heap.size A o.b) (hd : Rd w' R r) (hk : Ko R w w') :
    OpP w R l (.returned (.agg #[.int .i64 o.kind, .string o.path, .string o.to, .int .i64 o.handle, .int .i64 o.n, .int .i64 o.off, .slice A m c])) w' := by
  subst hm
  refine ⟨fun o' r' g => ?_, fun g => ?_, hk⟩
  · obtain ⟨rfl, rfl⟩ := Prod.mk.inj (Option.some.inj (h.symm.trans g))
    exact ⟨⟨A, c, rfl, hc, hr⟩, hd⟩
  · rw [h] at g; cases g
theorem OpP.no {w w' : World} {R : Nat} {l : List Int} (h : opB l = none) (hk : Ko R w w') : OpP w R l pE w' := ⟨fun o r g => (by rw [h] at g; cases g), fun _ => rfl, hk⟩

set_option maxRecDepth 100000 in
set_option maxHeartbeats 4000000 in
theorem hop_any {w : World} {R : Nat} {l : List Int} (h : Rd w R l) : Calls Tryz.prog 56 #[.pointer (some ⟨R, 0, none⟩)] w (OpP w R l) := by
  have hb1 := (Below.refl w.heap.size w).alloc (Nat.le_refl _) (.cells #[.int .i64 0, .string ⟨#[]⟩, .string ⟨#[]⟩, .int .i64 0, .int .i64 0, .int .i64 0, .slice none 0 0] 41)
  have hb2 := hb1.alloc hb1.size (.cells #[.int .i64 0, .string ⟨#[]⟩, .string ⟨#[]⟩, .int .i64 0, .int .i64 0, .int .i64 0, .slice none 0 0] 41)
  have HS : Hid (OpS w ((w.alloc (.cells #[.int .i64 0, .string ⟨#[]⟩, .string ⟨#[]⟩, .int .i64 0, .int .i64 0, .int .i64 0, .slice none 0 0] 41)).alloc (.cells #[.int .i64 0, .string ⟨#[]⟩, .string ⟨#[]⟩, .int .i64 0, .int .i64 0, .int .i64 0, .slice none 0 0] 41)) R w.heap.size (w.heap.size + 1) #[.int .i64 0, .string ⟨#[]⟩, .string ⟨#[]⟩, .int .i64 0, .int .i64 0, .int .i64 0, .slice none 0 0] l) := Lib.hid
    ⟨by have := Blk.new (w.alloc (.cells #[.int .i64 0, .string ⟨#[]⟩, .string ⟨#[]⟩, .int .i64 0, .int .i64 0, .int .i64 0, .slice none 0 0] 41)) 41 #[.int .i64 0, .string ⟨#[]⟩, .string ⟨#[]⟩, .int .i64 0, .int .i64 0, .int .i64 0, .slice none 0 0]; simpa using this,
     (Blk.new w 41 _).alloc _, h.above (hb2.mono (by have := h.lt; omega)), Ko.of_below hb2, h.lt, rfl, rfl⟩
  have HB0 := Lib.hid (opB.eq_1 l)
  clear h hb1 hb2
  go_enter Tryz.func56, Tryz.ntmps56
  go_upto_region 2 with (fail)
  generalize ((w.alloc (.cells #[.int .i64 0, .string ⟨#[]⟩, .string ⟨#[]⟩, .int .i64 0, .int .i64 0, .int .i64 0, .slice none 0 0] 41)).alloc (.cells #[.int .i64 0, .string ⟨#[]⟩, .string ⟨#[]⟩, .int .i64 0, .int .i64 0, .int .i64 0, .slice none 0 0] 41)) = W0 at HS ⊢
  obtain ⟨Q, hQ⟩ : ∃ Q, w.heap.size = Q := ⟨_, rfl⟩
  rw [hQ] at HS ⊢
  obtain ⟨P, hP⟩ : ∃ P, Q + 1 = P := ⟨_, rfl⟩
  rw [hP] at HS ⊢
  clear hQ hP
  -- 0
  by_cases hn0 : 1 ≤ l.length
  case neg =>
    have hnone : opB l = none := by have g := HB0.out; rw [g, nmB, if_neg hn0]; rfl
    have HNo := Lib.hid hnone
    have HN := Lib.hid (hnum_no HS.out.rd 1 hn0)
    clear hn0 hnone
    go_wp2_with fail
    refine HN.out.mono ?_
    rintro e w9 ⟨rfl, hk⟩
    exact ⟨rfl, OpP.no HNo.out (HS.out.ko.trans hk)⟩
  have hB0 := HB0.out
  rw [nmB, if_pos hn0] at hB0
  simp only [Option.bind_some] at hB0
  have hsm0 := nu_bd (l.take 1) (fun x hx => HS.out.rd.len.2 x (List.mem_of_mem_take hx))
  rw [show (l.take 1).length = 1 by rw [List.length_take]; omega] at hsm0
  have HN := Lib.hid (hnum_yes HS.out.rd 1 (by omega) hn0)
  obtain ⟨K, hK⟩ : ∃ z, nu (l.take 1) = z := ⟨_, rfl⟩
  obtain ⟨l1, hl1⟩ : ∃ z, l.drop 1 = z := ⟨_, rfl⟩
  rw [hK, hl1] at HN
  rw [hK] at hsm0
  simp only [hK, hl1] at hB0
  have HB1 := Lib.hid hB0
  have eK : IntKind.i64.wrap K = K := IntWalk.i64_in _ (by have := hsm0.1; have := hsm0.2; simp at this; omega)
  have UK := Lib.hid hsm0
  clear hB0 hsm0 hn0 hK hl1
  go_wp2_with fail
  refine HN.out.mono ?_
  rintro e V0 ⟨rfl, hd, hk⟩
  have hS := HS.out.step hd hk
  have z0 := hS.box.cell 0
  have f0 := hS.box.frozen 0
  simp only [List.getElem?_toArray, List.getElem?_cons_zero] at z0
  have HS0 : Hid (OpS w (V0.setCell ⟨P, 0, none⟩ (.int .i64 K)) R Q P #[.int .i64 K, .string ⟨#[]⟩, .string ⟨#[]⟩, .int .i64 0, .int .i64 0, .int .i64 0, .slice none 0 0] l1) := Lib.hid (hS.put 0 (.int .i64 K) rfl)
  clear hd hk HN hS HS
  go_upto_region 3 with (fail)
  generalize (V0.setCell ⟨P, 0, none⟩ (.int .i64 K)) = W1 at HS0 ⊢
  clear z0 f0 eK
  -- 1
  cases hc1 : ctB 1 l1 with
  | none =>
    have hnone : opB l = none := by have g := HB1.out; rw [hc1] at g; exact g
    have HNo := Lib.hid hnone
    have HN := Lib.hid (hcnt_no HS0.out.rd 1 (by omega) hc1)
    clear hc1 hnone
    go_wp2_with fail
    refine HN.out.mono ?_
    rintro e w9 ⟨rfl, hk⟩
    exact ⟨rfl, OpP.no HNo.out (HS0.out.ko.trans hk)⟩
  | some x1 =>
  obtain ⟨p, l2⟩ := x1
  have hB1 := HB1.out
  rw [hc1] at hB1
  simp only [Option.bind_some] at hB1
  have HB2 := Lib.hid hB1
  have HN := Lib.hid (hcnt_yes HS0.out.rd 1 (by omega) hc1)
  have Mp : Hid ((strOfNums p).size ≤ maxLen) := Lib.hid (by
    obtain ⟨g1, g2, g3, -⟩ := ctB_some hc1
    have := nu_small HS0.out.rd.len.2 (n := 1) (by omega)
    have hu : ∀ x ∈ p, U8 x := by rw [g3]; exact fun x hx => HS0.out.rd.len.2 x (List.mem_of_mem_drop (List.mem_of_mem_take hx))
    rw [← nb_length, nb_strOf hu, g3, List.length_take]
    unfold maxLen
    omega)
  clear hB1 hc1
  go_wp2_with fail
  refine HN.out.mono ?_
  rintro e V1 ⟨⟨axp, cxp, rfl, -, hq⟩, hd, hk⟩
  have hS := HS0.out.step hd hk
  have hx := hq.1.text p.length cxp rfl
  have z1 := hS.box.cell 1
  have f1 := hS.box.frozen 1
  simp only [List.getElem?_toArray, List.getElem?_cons_succ, List.getElem?_cons_zero] at z1
  have HS1 : Hid (OpS w (V1.setCell ⟨P, 1, none⟩ (.string (strOfNums p))) R Q P #[.int .i64 K, .string (strOfNums p), .string ⟨#[]⟩, .int .i64 0, .int .i64 0, .int .i64 0, .slice none 0 0] l2) := Lib.hid (hS.put 1 (.string (strOfNums p)) rfl)
  clear hd hk HN hS hq HS0
  go_upto_region 4 with (fail)
  generalize (V1.setCell ⟨P, 1, none⟩ (.string (strOfNums p))) = W2 at HS1 ⊢
  clear z1 f1 hx
  -- 2
  cases hc2 : ctB 1 l2 with
  | none =>
    have hnone : opB l = none := by have g := HB2.out; rw [hc2] at g; exact g
    have HNo := Lib.hid hnone
    have HN := Lib.hid (hcnt_no HS1.out.rd 1 (by omega) hc2)
    clear hc2 hnone
    go_wp2_with fail
    refine HN.out.mono ?_
    rintro e w9 ⟨rfl, hk⟩
    exact ⟨rfl, OpP.no HNo.out (HS1.out.ko.trans hk)⟩
  | some x2 =>
  obtain ⟨t, l3⟩ := x2
  have hB2 := HB2.out
  rw [hc2] at hB2
  simp only [Option.bind_some] at hB2
  have HB3 := Lib.hid hB2
  have HN := Lib.hid (hcnt_yes HS1.out.rd 1 (by omega) hc2)
  have Mt : Hid ((strOfNums t).size ≤ maxLen) := Lib.hid (by
    obtain ⟨g1, g2, g3, -⟩ := ctB_some hc2
    have := nu_small HS1.out.rd.len.2 (n := 1) (by omega)
    have hu : ∀ x ∈ t, U8 x := by rw [g3]; exact fun x hx => HS1.out.rd.len.2 x (List.mem_of_mem_drop (List.mem_of_mem_take hx))
    rw [← nb_length, nb_strOf hu, g3, List.length_take]
    unfold maxLen
    omega)
  clear hB2 hc2
  go_wp2_with fail
  refine HN.out.mono ?_
  rintro e V2 ⟨⟨axt, cxt, rfl, -, hq⟩, hd, hk⟩
  have hS := HS1.out.step hd hk
  have hx := hq.1.text t.length cxt rfl
  have z2 := hS.box.cell 2
  have f2 := hS.box.frozen 2
  simp only [List.getElem?_toArray, List.getElem?_cons_succ, List.getElem?_cons_zero] at z2
  have HS2 : Hid (OpS w (V2.setCell ⟨P, 2, none⟩ (.string (strOfNums t))) R Q P #[.int .i64 K, .string (strOfNums p), .string (strOfNums t), .int .i64 0, .int .i64 0, .int .i64 0, .slice none 0 0] l3) := Lib.hid (hS.put 2 (.string (strOfNums t)) rfl)
  clear hd hk HN hS hq HS1
  go_upto_region 5 with (fail)
  generalize (V2.setCell ⟨P, 2, none⟩ (.string (strOfNums t))) = W3 at HS2 ⊢
  clear z2 f2 hx
  -- 3
  by_cases hn3 : 4 ≤ l3.length
  case neg =>
    have hnone : opB l = none := by have g := HB3.out; rw [g, nmB, if_neg hn3]; rfl
    have HNo := Lib.hid hnone
    have HN := Lib.hid (hnum_no HS2.out.rd 4 hn3)
    clear hn3 hnone
    go_wp2_with fail
    refine HN.out.mono ?_
    rintro e w9 ⟨rfl, hk⟩
    exact ⟨rfl, OpP.no HNo.out (HS2.out.ko.trans hk)⟩
  have hB3 := HB3.out
  rw [nmB, if_pos hn3] at hB3
  simp only [Option.bind_some] at hB3
  have hsm3 := nu_bd (l3.take 4) (fun x hx => HS2.out.rd.len.2 x (List.mem_of_mem_take hx))
  rw [show (l3.take 4).length = 4 by rw [List.length_take]; omega] at hsm3
  have HN := Lib.hid (hnum_yes HS2.out.rd 4 (by omega) hn3)
  obtain ⟨H, hH⟩ : ∃ z, nu (l3.take 4) = z := ⟨_, rfl⟩
  obtain ⟨l4, hl4⟩ : ∃ z, l3.drop 4 = z := ⟨_, rfl⟩
  rw [hH, hl4] at HN
  rw [hH] at hsm3
  simp only [hH, hl4] at hB3
  have HB4 := Lib.hid hB3
  obtain ⟨yH, hyH⟩ : ∃ z, IntKind.i32.wrap H = z := ⟨_, rfl⟩
  obtain ⟨sH, hsH⟩ : ∃ z, IntKind.i64.wrap yH = z := ⟨_, rfl⟩
  have EH : Hid (sgn H = sH) := Lib.hid (by unfold sgn; rw [hyH, hsH])
  clear hB3 hsm3 hn3 hH hl4
  go_wp2_with fail
  refine HN.out.mono ?_
  rintro e V3 ⟨rfl, hd, hk⟩
  have hS := HS2.out.step hd hk
  have z3 := hS.box.cell 3
  have f3 := hS.box.frozen 3
  simp only [List.getElem?_toArray, List.getElem?_cons_succ, List.getElem?_cons_zero] at z3
  have HS3 : Hid (OpS w (V3.setCell ⟨P, 3, none⟩ (.int .i64 sH)) R Q P #[.int .i64 K, .string (strOfNums p), .string (strOfNums t), .int .i64 sH, .int .i64 0, .int .i64 0, .slice none 0 0] l4) := Lib.hid (hS.put 3 (.int .i64 sH) rfl)
  clear hd hk HN hS HS2
  go_upto_region 6 with (fail)
  generalize (V3.setCell ⟨P, 3, none⟩ (.int .i64 sH)) = W4 at HS3 ⊢
  clear z3 f3 hyH hsH
  -- 4
  by_cases hn4 : 4 ≤ l4.length
  case neg =>
    have hnone : opB l = none := by have g := HB4.out; rw [g, nmB, if_neg hn4]; rfl
    have HNo := Lib.hid hnone
    have HN := Lib.hid (hnum_no HS3.out.rd 4 hn4)
    clear hn4 hnone
    go_wp2_with fail
    refine HN.out.mono ?_
    rintro e w9 ⟨rfl, hk⟩
    exact ⟨rfl, OpP.no HNo.out (HS3.out.ko.trans hk)⟩
  have hB4 := HB4.out
  rw [nmB, if_pos hn4] at hB4
  simp only [Option.bind_some] at hB4
  have hsm4 := nu_bd (l4.take 4) (fun x hx => HS3.out.rd.len.2 x (List.mem_of_mem_take hx))
  rw [show (l4.take 4).length = 4 by rw [List.length_take]; omega] at hsm4
  have HN := Lib.hid (hnum_yes HS3.out.rd 4 (by omega) hn4)
  obtain ⟨N, hN⟩ : ∃ z, nu (l4.take 4) = z := ⟨_, rfl⟩
  obtain ⟨l5, hl5⟩ : ∃ z, l4.drop 4 = z := ⟨_, rfl⟩
  rw [hN, hl5] at HN
  rw [hN] at hsm4
  simp only [hN, hl5] at hB4
  have HB5 := Lib.hid hB4
  obtain ⟨yN, hyN⟩ : ∃ z, IntKind.i32.wrap N = z := ⟨_, rfl⟩
  obtain ⟨sN, hsN⟩ : ∃ z, IntKind.i64.wrap yN = z := ⟨_, rfl⟩
  have EN : Hid (sgn N = sN) := Lib.hid (by unfold sgn; rw [hyN, hsN])
  clear hB4 hsm4 hn4 hN hl5
  go_wp2_with fail
  refine HN.out.mono ?_
  rintro e V4 ⟨rfl, hd, hk⟩
  have hS := HS3.out.step hd hk
  have z4 := hS.box.cell 4
  have f4 := hS.box.frozen 4
  simp only [List.getElem?_toArray, List.getElem?_cons_succ, List.getElem?_cons_zero] at z4
  have HS4 : Hid (OpS w (V4.setCell ⟨P, 4, none⟩ (.int .i64 sN)) R Q P #[.int .i64 K, .string (strOfNums p), .string (strOfNums t), .int .i64 sH, .int .i64 sN, .int .i64 0, .slice none 0 0] l5) := Lib.hid (hS.put 4 (.int .i64 sN) rfl)
  clear hd hk HN hS HS3
  go_upto_region 7 with (fail)
  generalize (V4.setCell ⟨P, 4, none⟩ (.int .i64 sN)) = W5 at HS4 ⊢
  clear z4 f4 hyN hsN
  -- 5
  by_cases hn5 : 8 ≤ l5.length
  case neg =>
    have hnone : opB l = none := by have g := HB5.out; rw [g, nmB, if_neg hn5]; rfl
    have HNo := Lib.hid hnone
    have HN := Lib.hid (hnum_no HS4.out.rd 8 hn5)
    clear hn5 hnone
    go_wp2_with fail
    refine HN.out.mono ?_
    rintro e w9 ⟨rfl, hk⟩
    exact ⟨rfl, OpP.no HNo.out (HS4.out.ko.trans hk)⟩
  have hB5 := HB5.out
  rw [nmB, if_pos hn5] at hB5
  simp only [Option.bind_some] at hB5
  have hsm5 := nu_bd (l5.take 8) (fun x hx => HS4.out.rd.len.2 x (List.mem_of_mem_take hx))
  rw [show (l5.take 8).length = 8 by rw [List.length_take]; omega] at hsm5
  have HN := Lib.hid (hnum_yes HS4.out.rd 8 (by omega) hn5)
  obtain ⟨F, hF⟩ : ∃ z, nu (l5.take 8) = z := ⟨_, rfl⟩
  obtain ⟨l6, hl6⟩ : ∃ z, l5.drop 8 = z := ⟨_, rfl⟩
  rw [hF, hl6] at HN
  rw [hF] at hsm5
  simp only [hF, hl6] at hB5
  have HB6 := Lib.hid hB5
  obtain ⟨sF, hsF⟩ : ∃ z, IntKind.i64.wrap F = z := ⟨_, rfl⟩
  have EF := Lib.hid hsF
  clear hB5 hsm5 hn5 hF hl6
  go_wp2_with fail
  refine HN.out.mono ?_
  rintro e V5 ⟨rfl, hd, hk⟩
  have hS := HS4.out.step hd hk
  have z5 := hS.box.cell 5
  have f5 := hS.box.frozen 5
  simp only [List.getElem?_toArray, List.getElem?_cons_succ, List.getElem?_cons_zero] at z5
  have HS5 : Hid (OpS w (V5.setCell ⟨P, 5, none⟩ (.int .i64 sF)) R Q P #[.int .i64 K, .string (strOfNums p), .string (strOfNums t), .int .i64 sH, .int .i64 sN, .int .i64 sF, .slice none 0 0] l6) := Lib.hid (hS.put 5 (.int .i64 sF) rfl)
  clear hd hk HN hS HS4
  go_upto_region 8 with (fail)
  generalize (V5.setCell ⟨P, 5, none⟩ (.int .i64 sF)) = W6 at HS5 ⊢
  clear z5 f5 hsF
  -- 6
  cases hc6 : ctB 2 l6 with
  | none =>
    have hnone : opB l = none := by have g := HB6.out; rw [hc6] at g; exact g
    have HNo := Lib.hid hnone
    have HN := Lib.hid (hcnt_no HS5.out.rd 2 (by omega) hc6)
    clear hc6 hnone
    go_wp2_with fail
    refine HN.out.mono ?_
    rintro e w9 ⟨rfl, hk⟩
    exact ⟨rfl, OpP.no HNo.out (HS5.out.ko.trans hk)⟩
  | some x6 =>
  obtain ⟨b, l7⟩ := x6
  have hB6 := HB6.out
  rw [hc6] at hB6
  simp only [Option.bind_some] at hB6
  have HB7 := Lib.hid hB6
  have HN := Lib.hid (hcnt_yes HS5.out.rd 2 (by omega) hc6)
  have hbl : b.length ≤ 100000 := by
    obtain ⟨g1, g2, g3, -⟩ := ctB_some hc6
    have := nu_small HS5.out.rd.len.2 (n := 2) (by omega)
    rw [g3, List.length_take]
    omega
  obtain ⟨m, hm⟩ : ∃ m, b.length = m := ⟨_, rfl⟩
  rw [hm] at HN hbl
  have HM := Lib.hid hm
  have hml : Hid (m ≤ maxLen) := Lib.hid (by unfold maxLen; omega)
  clear hB6 hc6 hm
  go_wp2_with fail
  refine HN.out.mono ?_
  rintro e V6 ⟨⟨a6, c6, rfl, -, hq⟩, hd, hk⟩
  have hS := HS5.out.step hd hk
  have HSv := Lib.hid hS
  have HCl := Lib.hid (hclone_all a6 m c6 b V6 hq.1 HM.out hbl)
  clear hd hk HN hS hq hbl HS5
  go_wp2_with fail
  refine HCl.out.mono ?_
  rintro e V7 ⟨⟨ab, cb, rfl, hcb, hrb⟩, hbb⟩
  have HCb : Hid (b.length ≤ cb) := Lib.hid (by rw [HM.out]; exact hcb)
  have hS := HSv.out.below hbb
  have z6 := hS.box.cell 6
  have f6 := hS.box.frozen 6
  simp only [List.getElem?_toArray, List.getElem?_cons_succ, List.getElem?_cons_zero] at z6
  have HS6 : Hid (OpS w (V7.setCell ⟨P, 6, none⟩ (.slice ab m cb)) R Q P #[.int .i64 K, .string (strOfNums p), .string (strOfNums t), .int .i64 sH, .int .i64 sN, .int .i64 sF, .slice ab m cb] l7) := Lib.hid (hS.put 6 (.slice ab m cb) rfl)
  have HRb : Hid (Ry (V7.setCell ⟨P, 6, none⟩ (.slice ab m cb)) (Q + 1) ab b) := Lib.hid (by
    have h2 := HSv.out.box.lt
    have h5 := HSv.out.p
    exact (hrb.keep fun x cs h7 h8 => Below.heap_setCell V7 ⟨P, 6, none⟩ _ x (by show x ≠ P; omega)).mono (by omega))
  clear hbb hrb HCl HSv hS
  go_upto_region 9 with (fail)
  generalize (V7.setCell ⟨P, 6, none⟩ (.slice ab m cb)) = W7 at HS6 HRb ⊢
  clear z6 f6
  -- the end
  have z0 := HS6.out.box.cell 0
  have z1 := HS6.out.box.cell 1
  have z2 := HS6.out.box.cell 2
  have z3 := HS6.out.box.cell 3
  have z4 := HS6.out.box.cell 4
  have z5 := HS6.out.box.cell 5
  have z6 := HS6.out.box.cell 6
  simp only [List.getElem?_toArray, List.getElem?_cons_succ, List.getElem?_cons_zero] at z0 z1 z2 z3 z4 z5 z6
  have hB7 : opB l = if Rg ⟨K, strOfNums p, strOfNums t, sH, sN, sF, b⟩ then some (⟨K, strOfNums p, strOfNums t, sH, sN, sF, b⟩, l7) else none := by
    have g := HB7.out
    rw [EH.out, EN.out, EF.out] at g
    exact g
  have HB8 := Lib.hid hB7
  have hmx : (strOfNums p).size ≤ maxLen ∧ (strOfNums t).size ≤ maxLen ∧ m ≤ maxLen := ⟨Mp.out, Mt.out, hml.out⟩
  have HRi := Lib.hid (fun W => hright_any ⟨K, strOfNums p, strOfNums t, sH, sN, sF, b⟩ ab cb m HM.out hmx W)
  clear hB7 hmx
  dsimp only at HRi
  go_wp2_with fail
  refine (HRi.out _).mono ?_
  rintro e W8 ⟨rfl, hb8⟩
  have HS8 := Lib.hid (HS6.out.below hb8)
  have HRb8 := Lib.hid (HRb.out.below hb8)
  clear hb8 z0 z1 z2 z3 z4 z5 z6
  by_cases hg : Rg ⟨K, strOfNums p, strOfNums t, sH, sN, sF, b⟩
  case neg =>
    have hnone : opB l = none := by rw [HB8.out, if_neg hg]
    have HNo := Lib.hid hnone
    have HMn := Lib.hid (must_no W8)
    rw [decide_eq_false hg]
    clear hg hnone
    go_wp2_with fail
    refine HMn.out.mono ?_
    rintro e w9 ⟨rfl, rfl⟩
    exact ⟨rfl, OpP.no HNo.out HS8.out.ko⟩
  have HYes : Hid (opB l = some (⟨K, strOfNums p, strOfNums t, sH, sN, sF, b⟩, l7)) := Lib.hid (by rw [HB8.out, if_pos hg])
  have HMy := Lib.hid (must_yes W8)
  rw [decide_eq_true hg]
  clear hg HB8
  go_wp2_with fail
  refine HMy.out.mono ?_
  rintro e w9 ⟨rfl, rfl⟩
  have z0 := HS8.out.box.cell 0
  have z1 := HS8.out.box.cell 1
  have z2 := HS8.out.box.cell 2
  have z3 := HS8.out.box.cell 3
  have z4 := HS8.out.box.cell 4
  have z5 := HS8.out.box.cell 5
  have z6 := HS8.out.box.cell 6
  simp only [List.getElem?_toArray, List.getElem?_cons_succ, List.getElem?_cons_zero] at z0 z1 z2 z3 z4 z5 z6
  clear z0 z1 z2 z3 z4 z5 z6
  have z0 := HS8.out.box.cell 0
  have z1 := HS8.out.box.cell 1
  have z2 := HS8.out.box.cell 2
  have z3 := HS8.out.box.cell 3
  have z4 := HS8.out.box.cell 4
  have z5 := HS8.out.box.cell 5
  have z6 := HS8.out.box.cell 6
  simp only [List.getElem?_toArray, List.getElem?_cons_succ, List.getElem?_cons_zero] at z0 z1 z2 z3 z4 z5 z6
  have y0 := HS8.out.res.cell 0
  have f0 := HS8.out.res.frozen 0
  have y1 := HS8.out.res.cell 1
  have f1 := HS8.out.res.frozen 1
  have y2 := HS8.out.res.cell 2
  have f2 := HS8.out.res.frozen 2
  have y3 := HS8.out.res.cell 3
  have f3 := HS8.out.res.frozen 3
  have y4 := HS8.out.res.cell 4
  have f4 := HS8.out.res.frozen 4
  have y5 := HS8.out.res.cell 5
  have f5 := HS8.out.res.frozen 5
  have y6 := HS8.out.res.cell 6
  have f6 := HS8.out.res.frozen 6
  simp only [List.getElem?_toArray, List.getElem?_cons_succ, List.getElem?_cons_zero] at y0 y1 y2 y3 y4 y5 y6
  have HF := Lib.hid (HS8.out.fill HRb8.out)
  clear HB0 HB1 HB2 HB3 HB4 HB5 HB6 HB7
  go_upto_region 10 with (fail)
  go_wp2_with fail
  have hF := HF.out (.int .i64 K) (.string (strOfNums p)) (.string (strOfNums t)) (.int .i64 sH) (.int .i64 sN) (.int .i64 sF) (.slice ab m cb)
  refine bodyPost_ret (v := .agg #[.int .i64 K, .string (strOfNums p), .string (strOfNums t), .int .i64 sH, .int .i64 sN, .int .i64 sF, .slice ab m cb]) (by simp [results, Tryz.results56, go_sem, y0, y1, y2, y3, y4, y5, y6]) rfl ?_
  exact OpP.yes HYes.out HM.out HCb.out (hF.2.2.mono (by have := HS8.out.q; omega)) hF.1 hF.2.1

end Go.Proofs.YthngpmiclbbpnaaGreat
