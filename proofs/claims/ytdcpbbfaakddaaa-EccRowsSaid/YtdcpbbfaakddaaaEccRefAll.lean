/-
  A row of blocks mended: the document's.
-/
import Derived.Test.YtdcpbbfaakddaaaEccRefRows
import Derived.Test.YtdcpbbfaakddaaaEccAllP
import Derived.Deep.RegionHeld3
namespace Go.Proofs.Ytdcpbbfaakddaaa
open Go.RowKit Crcm Tagm Eccm Go.ChangeShapes

set_option maxRecDepth 100000 in
set_option maxHeartbeats 1000000 in
theorem rmall_no (a d : Option Addr) (L c q s : Nat) (N : Int) (w : World) (hL : L ≤ maxLen) (h : ¬ (1 ≤ N ∧ N ≤ 4096 ∧ L ≤ 65536)) :
    Calls Try.prog 19 #[.slice a L c, .int .i64 N, .slice d q s] w fun e w' => e = .returned (.tuple #[.slice none 0 0, .agg #[.int .i64 0, .int .i64 0, .int .i64 0, .int .i64 0], .int .i64 1]) ∧ Below w.heap.size w w' := by
  unfold maxLen at hL
  by_cases h1 : 1 ≤ N
  · have h4 : decide (N < 1) = false := by simp; omega
    by_cases h2 : N ≤ 4096
    · have h3 : decide ((65536 : Int) < (L : Int)) = true := by simp; omega
      have h5 : decide ((4096 : Int) < N) = false := by simp; omega
      clear h
      go_enter Try.func19, Try.ntmps19
      go_wp2
      exact bodyPost_ret (v := .tuple #[.slice none 0 0, .agg #[.int .i64 0, .int .i64 0, .int .i64 0, .int .i64 0], .int .i64 1]) (by simp [results, Try.results19, go_sem]) rfl ⟨rfl, (Below.refl _ _).alloc (Nat.le_refl _) _⟩
    · have h5 : decide ((4096 : Int) < N) = true := by simp; omega
      clear h
      go_enter Try.func19, Try.ntmps19
      go_wp2
      exact bodyPost_ret (v := .tuple #[.slice none 0 0, .agg #[.int .i64 0, .int .i64 0, .int .i64 0, .int .i64 0], .int .i64 1]) (by simp [results, Try.results19, go_sem]) rfl ⟨rfl, (Below.refl _ _).alloc (Nat.le_refl _) _⟩
  · have h4 : decide (N < 1) = true := by simp; omega
    clear h
    go_enter Try.func19, Try.ntmps19
    go_wp2
    exact bodyPost_ret (v := .tuple #[.slice none 0 0, .agg #[.int .i64 0, .int .i64 0, .int .i64 0, .int .i64 0], .int .i64 1]) (by simp [results, Try.results19, go_sem]) rfl ⟨rfl, (Below.refl _ _).alloc (Nat.le_refl _) _⟩

set_option maxRecDepth 100000 in
set_option maxHeartbeats 1000000 in
theorem rmall_len (b off : Nat) (a d : Option Addr) (L c q s n M : Nat) (w : World) (ha : L = 0 ∨ a = some ⟨b, off, none⟩) (hM : nbk L n = M) (hL : L ≤ 900) (hLc : L ≤ c) (hc : c ≤ 9223372036854775807) (h1 : 1 ≤ n) (h2 : n ≤ 4096) (hne : q ≠ 4 * M) :
    Calls Try.prog 19 #[.slice a L c, .int .i64 n, .slice d q s] w fun e w' => e = .returned (.tuple #[.slice none 0 0, .agg #[.int .i64 0, .int .i64 0, .int .i64 0, .int .i64 0], .int .i64 1]) ∧ Below w.heap.size w w' := by
  have HBL := Lib.hid fun w' => blocks_any b off a L c n w' ha hL hLc hc h1 h2
  rw [hM] at HBL
  have hMn : M ≤ 900 := by
    rw [← hM]
    have : nbk L n ≤ L := by
      unfold nbk
      rw [Nat.div_le_iff_le_mul_add_pred (by omega)]
      have : L ≤ n * L := Nat.le_mul_of_pos_left L (by omega)
      omega
    omega
  have h3 : decide ((65536 : Int) < (L : Int)) = false := by simp; omega
  have h4 : decide ((n : Int) < 1) = false := by simp; omega
  have h5 : decide ((4096 : Int) < (n : Int)) = false := by simp; omega
  have t : ((q : Int) != 4 * (M : Int)) = true := bne_iff_ne.2 (by omega)
  clear hne hM
  go_enter Try.func19, Try.ntmps19
  go_wp2_with fail
  refine (HBL.out _).mono ?_
  rintro e w2 ⟨⟨v, rfl, hO⟩, hb2⟩
  obtain ⟨A0, c0', rfl⟩ := own_form8 hO
  have hk0 := (Blk.new w 39 #[.int .i64 0, .int .i64 0, .int .i64 0, .int .i64 0]).below hb2 (by simp)
  have hk := ov4_blk (a := 0) (b := 0) (c := 0) (d := 0) hk0
  have hb : Below w.heap.size w (ov4 w2 w.heap.size 0 0 0 0) := ov4_below (((Below.refl _ _).alloc (Nat.le_refl _) _).trans (hb2.mono (by simp))) (Nat.le_refl _)
  have c0 := hk.cell 0
  have c1 := hk.cell 1
  have c2 := hk.cell 2
  have c3 := hk.cell 3
  have r0 := hk0.cell 0
  have r1 := hk0.cell 1
  have r2 := hk0.cell 2
  have r3 := hk0.cell 3
  have q0 := hk0.frozen 0
  have q1 := hk0.frozen 1
  have q2 := hk0.frozen 2
  have q3 := hk0.frozen 3
  simp at r0 r1 r2 r3
  have HB := Lib.hid hb
  clear hk hb hk0 hO hb2
  simp only [ov4] at c0 c1 c2 c3
  go_wp2
  exact bodyPost_ret (v := .tuple #[.slice none 0 0, .agg #[.int .i64 0, .int .i64 0, .int .i64 0, .int .i64 0], .int .i64 1]) (by simp [results, Try.results19, go_sem, c0, c1, c2, c3]) rfl ⟨rfl, HB.out⟩

theorem own_belowB {w w' : World} {base g n cap B : Nat} {xs : List Value} {e : TypeId} (h : w.ownsRow base e 1 (.slice (some ⟨g, 0, none⟩) n cap) n xs) (hg : g < B) (hb : Below B w w') : w'.ownsRow base e 1 (.slice (some ⟨g, 0, none⟩) n cap) n xs := by
  obtain ⟨h1, h2⟩ := h
  refine ⟨h1, ?_⟩
  rcases h2 with h2 | ⟨g', cap', cur, h', hbg, hgg, r⟩
  · exact .inl h2
  · have e1 := h'
    simp only [Value.slice.injEq, Option.some.injEq, Addr.mk.injEq, and_true, true_and] at e1
    obtain ⟨rfl, rfl⟩ := e1
    exact .inr ⟨g, cap, cur, rfl, hbg, (hb.block g hg).trans hgg, r⟩

/-- what lies where, in the document's -/
structure Rl (w : World) (S F V gl cl M b off L c n : Nat) (P : List Int) (A : Option Addr) (cp : Nat) (k0 k1 k2 k3 : Nat) (W : World) : Prop where
  lst : M = 0 ∨ (W.ownsRow (F + 1) 22 1 (.slice (some ⟨gl, 0, none⟩) M cl) M (rsls b off L c n M) ∧ F < gl ∧ gl < V)
  out : W.ownsRow V 5 1 (.slice A P.length cp) P.length (P.map (Value.int .u8))
  cnt : Blk W F 39 #[.int .i64 k0, .int .i64 k1, .int .i64 k2, .int .i64 k3]
  res : Blk W S 39 #[.int .i64 0, .int .i64 0, .int .i64 0, .int .i64 0]
  bel : Below S w W
  siz : V ≤ W.heap.size
  f1 : S < F
  f3 : F < V
section
variable {w : World} {S F V gl cl M b off L c n cp k0 k1 k2 k3 : Nat} {A : Option Addr} {P : List Int} {W W' : World}
theorem Rl.below (h : Rl w S F V gl cl M b off L c n P A cp k0 k1 k2 k3 W) (hb : Below W.heap.size W W') : Rl w S F V gl cl M b off L c n P A cp k0 k1 k2 k3 W' := by
  obtain ⟨h1, h2, h3, h4, h5, h6, h7, h8⟩ := h
  exact ⟨h1.imp id (fun h => ⟨own_below h.1 hb, h.2⟩), own_below h2 hb, h3.below hb (by omega), h4.below hb (by omega), h5.trans (hb.mono (by omega)), Nat.le_trans h6 hb.size, h7, h8⟩
theorem Rl.drew (h : Rl w S F V gl cl M b off L c n P A cp k0 k1 k2 k3 W) : Rl w S F V gl cl M b off L c n P A cp k0 k1 k2 k3 W.drew := h.below (Below.drew (Below.refl _ _))
theorem Rl.cell (h : Rl w S F V gl cl M b off L c n P A cp k0 k1 k2 k3 W) {k : Nat} (hk : k < M) : W.cell? ⟨gl, k, none⟩ = some (rsl b off L c n k) := by
  obtain ⟨h1, -, -⟩ := h.lst.resolve_left (by omega)
  rw [h1.cellAt k (by omega), rsls_get hk]
theorem Rl.more (h : Rl w S F V gl cl M b off L c n P A cp k0 k1 k2 k3 W) (i : Nat) {j0 j1 j2 j3 : Nat} (v : Int) (hv : #[Value.int .i64 (k0 : Int), .int .i64 k1, .int .i64 k2, .int .i64 k3].setIfInBounds i (.int .i64 v) = #[.int .i64 j0, .int .i64 j1, .int .i64 j2, .int .i64 j3]) : Rl w S F V gl cl M b off L c n P A cp j0 j1 j2 j3 (W.setCell ⟨F, i, none⟩ (.int .i64 v)) := by
  obtain ⟨h1, h2, h3, h4, h5, h6, h7, h8⟩ := h
  refine ⟨h1.imp id (fun h => ⟨own_keep h.1 (by omega) _, h.2⟩), ?_, hv ▸ h3.put i _, h4.far (by show S ≠ F; omega) _, h5.setCell (p := ⟨F, i, none⟩) (by show S ≤ F; omega) _, by simpa [World.setCell] using h6, h7, h8⟩
  refine h2.kept (row := some F) ⟨rfl, rfl, rfl, by simp [World.setCell], fun k _ hk => Below.heap_setCell _ _ _ _ (fun e => hk (by rw [e]))⟩ (.inr fun e => ?_)
  have := (h2.lt F e).1
  omega
theorem Rl.grow (h : Rl w S F V gl cl M b off L c n P A cp k0 k1 k2 k3 W) {Q : List Int} {A' : Option Addr} {cp' : Nat} (ho : W'.ownsRow V 5 1 (.slice A' (P ++ Q).length cp') (P ++ Q).length ((P ++ Q).map (Value.int .u8))) (hb : Below V W W') : Rl w S F V gl cl M b off L c n (P ++ Q) A' cp' k0 k1 k2 k3 W' := by
  obtain ⟨h1, h2, h3, h4, h5, h6, h7, h8⟩ := h
  exact ⟨h1.imp id (fun h => ⟨own_belowB h.1 h.2.2 hb, h.2⟩), ho, h3.below hb (by omega), h4.below hb (by omega), h5.trans (hb.mono (by omega)), Nat.le_trans h6 hb.size, h7, h8⟩
end
theorem pcs_len (z : List Int) (n : Nat) (l : List Int) (hn : 1 ≤ n) (hU : ∀ b ∈ l, U8 b) (k : Nat) (hk : k ≤ nbk l.length n) : (pcs z n l k).length ≤ l.length := by
  have h := (fs_range z n l hn k (fun i hi => (nbk_lt hn).1 (by omega))).1
  have h2 := (fs_len z n l (List.range k) hU).1
  rw [h] at h2
  simp only [List.length_append] at h2
  omega
theorem kis_succ (z : List Int) (n : Nat) (l : List Int) (k : Nat) : kis z n l (k + 1) = kis z n l k ++ [jK (rr (ck l n k) (cnum z k))] := by unfold kis; rw [List.range_succ, List.map_append]; rfl
theorem pcs_U8 (z : List Int) (n : Nat) (l : List Int) (h : ∀ b ∈ l, U8 b) : ∀ k, ∀ b ∈ pcs z n l k, U8 b
  | 0 => fun b hb => by cases hb
  | k + 1 => fun b hb => by
    rcases List.mem_append.1 hb with hb | hb
    · exact pcs_U8 z n l h k b hb
    · exact nb_U8 _ _ _ (fun b hb => h b (List.mem_of_mem_drop (List.mem_of_mem_take hb))) b hb
theorem pcs_le (z : List Int) (n : Nat) (l : List Int) : ∀ k, (pcs z n l k).length ≤ k * n
  | 0 => by simp [pcs]
  | k + 1 => by
    have h := pcs_le z n l k
    show (pcs z n l k ++ nb _ _ _).length ≤ _
    rw [List.length_append, nb_length, Nat.add_mul, Nat.one_mul]
    have : (ck l n k).length ≤ n := by unfold ck; rw [List.length_take]; omega
    omega
end Go.Proofs.Ytdcpbbfaakddaaa
