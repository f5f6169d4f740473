/-
  Runs of bytes that stand for themselves: the library's Chunk, the program's appendRuns. Nothing of one statement alone stands here.
-/
import Derived.Test.YtaohkakefdhecaaSqIter
import Derived.Test.YtaohkakefdhecaaSqKn
import Derived.RangeFuncWrites
import Derived.Maps.OwnIn
import Derived.Sort.QuietTacIn
import Derived.Sort.BigQuietIn
import Derived.Sort.CutIn
namespace Sqm
/-- how many runs there are; how long the run of a number is, and its bytes -/
def nbk (L n : Nat) : Nat := (L + n - 1) / n
def bln (L n i : Nat) : Nat := if L - i * n < n then L - i * n else n
def ck (l : List Int) (n i : Nat) : List Int := (l.drop (i * n)).take n
theorem nbk_lt {L n i : Nat} (hn : 1 ≤ n) : i < nbk L n ↔ i * n < L := by
  unfold nbk
  rw [show (i < (L + n - 1) / n ↔ i + 1 ≤ (L + n - 1) / n) from Iff.rfl, Nat.le_div_iff_mul_le (by omega), Nat.add_mul]
  omega
theorem bln_pos {L n i : Nat} (hn : 1 ≤ n) (h : i * n < L) : 1 ≤ bln L n i ∧ bln L n i ≤ n ∧ i * n + bln L n i ≤ L := by
  unfold bln; split <;> omega
theorem ck_length {l : List Int} {L n i : Nat} (hl : l.length = L) : (ck l n i).length = bln L n i := by
  unfold ck bln
  rw [List.length_take, List.length_drop, hl]
  split <;> omega
/-- the first so many runs -/
def rn (l : List Int) : Nat → List Int
  | 0 => []
  | k + 1 => rn l k ++ (((bln l.length 128 k - 1 : Nat) : Int) :: ck l 128 k)
/-- all of them -/
def runs (l : List Int) : List Int := rn l (nbk l.length 128)
theorem rn_len {l : List Int} : ∀ k, k ≤ nbk l.length 128 → (rn l k).length ≤ l.length + k ∧ (k * 128 ≤ l.length → (rn l k).length = k * 129)
  | 0, _ => ⟨by simp [rn], by simp [rn]⟩
  | k + 1, h => by
    obtain ⟨h1, h2⟩ := rn_len (l := l) k (by omega)
    have hk := (nbk_lt (L := l.length) (n := 128) (i := k) (by omega)).1 (by omega)
    have hb := bln_pos (L := l.length) (n := 128) (i := k) (by omega) hk
    have h3 := h2 (by omega)
    rw [rn, List.length_append, List.length_cons, ck_length rfl]
    refine ⟨by omega, fun h => ?_⟩
    have : bln l.length 128 k = 128 := by unfold bln; rw [if_neg (by omega)]
    omega
theorem runs_len (l : List Int) : (runs l).length = l.length + nbk l.length 128 := by
  unfold runs
  have key : ∀ k, k ≤ nbk l.length 128 → (rn l k).length = min l.length (k * 128) + k := by
    intro k
    induction k with
    | zero => intro _; simp [rn]
    | succ k ih =>
      intro h
      have hk := (nbk_lt (L := l.length) (n := 128) (i := k) (by omega)).1 (by omega)
      rw [rn, List.length_append, List.length_cons, ck_length rfl, ih (by omega)]
      unfold bln
      split <;> omega
  rw [key _ (Nat.le_refl _)]
  have h : ¬ nbk l.length 128 * 128 < l.length := fun h => Nat.lt_irrefl _ ((nbk_lt (L := l.length) (n := 128) (i := nbk l.length 128) (by omega)).2 h)
  omega
end Sqm
namespace Go.Proofs.Ytaohkakefdhecaa
open Go.RowKit Go.Shelf Crcm Sqm Go.ChangeShapes

attribute [local go_sem] Oper.semAt_some

/-- the run of a number, as it is handed on -/
def bsl (b off L n i : Nat) : Value := .slice (some ⟨b, off + i * n, none⟩) (bln L n i) (bln L n i)

set_option maxRecDepth 100000 in
set_option maxHeartbeats 2000000 in
theorem chunk_at (d : Nat) (_hd : 1 ≤ d) (p q b off L c n : Nat) (a : Option Addr) (ha : L = 0 ∨ a = some ⟨b, off, none⟩) (hL : L ≤ 65536) (hLc : L ≤ c) (hn : 1 ≤ n) (hn2 : n ≤ 4096) (w : World) (hp : Blk w p 22 #[.slice a L c]) (hq : Blk w q 3 #[.int .i64 n]) :
    SeqAt Fence.wide d Try.prog 35 #[.pointer (some ⟨p, 0, none⟩), .pointer (some ⟨q, 0, none⟩)] (fun i => #[bsl b off L n i]) (fun _ _ _ => False) 0 (fun _ => Kb2 p q) (nbk L n) w := by
  intro y J Jx W hW hJ _ hY h0
  have hpW := hp.below hW hp.lt
  have hqW := hq.below hW hq.lt
  have hAd : ∀ s w, J s w → J s w.drew := fun s w h => hJ s w _ none h ⟨rfl, rfl, rfl, Nat.le_refl _, fun _ _ _ => rfl⟩ (fun r e => by cases e)
  have HC : Hid (∀ wr, Kb2 p q W wr → wr.cell? ⟨p, 0, none⟩ = some (.slice a L c) ∧ wr.cell? ⟨q, 0, none⟩ = some (.int .i64 n)) := Lib.hid fun wr hk => ⟨Blk.cell (cs := #[.slice a L c]) (hk.1.trans hpW) 0, Blk.cell (cs := #[.int .i64 n]) (hk.2.1.trans hqW) 0⟩
  clear hp hq hW hJ hpW hqW w
  refine callsIn_of_wp Try.func35 rfl trivial ?_ rfl
  simp only [Try.ntmps35, List.size_toArray, List.length_cons, List.length_nil, Nat.reduceAdd, Nat.reduceSub, Array.replicate_succ, Array.replicate_zero, List.push_toArray, List.append_toArray, List.nil_append, List.cons_append]
  gi_wp2_with fail
  gi_loopw [4] (fun s4 wr => ∃ k : Nat, s4 = .int .i64 ((k * n : Nat) : Int) ∧ k ≤ nbk L n ∧ Hid (J k wr) ∧ Hid (Kb2 p q W wr)) (fun s4 _ => 200000 - (intOf s4).toNat)
  case atStart => exact ⟨0, by simp, by omega, Lib.hid h0, Lib.hid ⟨rfl, rfl, Nat.le_refl _⟩⟩
  case round =>
    obtain ⟨k, rfl, hk, hJk, hK⟩ := hrel
    obtain ⟨cp, cq⟩ := HC.out wr hK.out
    by_cases hlt : k < nbk L n
    · have hkL := (nbk_lt hn).1 hlt
      have ha' : a = some ⟨b, off, none⟩ := by rcases ha with h | h; omega; exact h
      subst ha'
      obtain ⟨B1, B2, B3⟩ := bln_pos hn hkL
      have hi8 : k * n ≤ 65536 := by omega
      have HBL : Hid (bsl b off L n k = .slice (some ⟨b, off + k * n, none⟩) (bln L n k) (bln L n k)) := Lib.hid rfl
      have hiL : ((k * n : Nat) : Int) < (L : Int) := by omega
      have hic : ((k * n : Nat) : Int) ≤ (c : Int) := by omega
      obtain ⟨fn, tmps, assign, body, hy, hR⟩ := hY k wr.drew hlt (hAd _ _ hJk.out) (by have := hK.out.2.2; simpa using this)
      rw [HBL.out] at hy
      have hn1 : (k + 1) * n = k * n + n := by rw [Nat.add_mul, Nat.one_mul]
      have hm : Hid ((if L - k * n < n then ((L - k * n : Nat) : Int) else (n : Int)) = ((bln L n k : Nat) : Int)) := Lib.hid (by unfold bln; split <;> rfl)
      have HRR := Lib.hid hR
      clear HBL hR
      generalize hi : k * n = i at *
      generalize bln L n k = m at *
      have e1 := hm.out
      gi_wp2_with fail
      gi_region_with (fail)
      all_goals gi_wp2_with fail
      all_goals
        refine HRR.out.mono ?_
        rintro e W3 (⟨rfl, hJ3, hk3⟩ | ⟨rfl, hJx3, -⟩)
        · have hK3 : Kb2 p q W W3 := hK.out.trans hk3
          obtain ⟨cp3, cq3⟩ := HC.out W3 hK3
          have HJ3 := Lib.hid hJ3
          have HK3 := Lib.hid hK3
          clear hJ3 hK3 hk3
          gi_wp2
          go_roundw
          case rel => exact ⟨k + 1, by rw [hn1]; go_num, by omega, HJ3, HK3⟩
          case measure => simp [intOf]; omega
        · have HJx := Lib.hid hJx3
          clear hJx3
          gi_wp2
          refine bodyPost_ret (results_none rfl _ _ _) rfl ?_
          exact ⟨⟨_, rfl⟩, .inr ⟨k + 1, by omega, HJx.out⟩⟩
    · have hkn : k = nbk L n := by omega
      have hkL : ¬ k * n < L := fun h => hlt ((nbk_lt hn).2 h)
      have hkL2 : (L : Int) ≤ ((k * n : Nat) : Int) := by omega
      have HJ2 : Hid (J (nbk L n) wr) := by rw [← hkn]; exact hJk
      clear hkn hkL hJk
      gi_wp2
      go_end0
      exact ⟨⟨_, rfl⟩, .inl HJ2.out⟩

/-- what the iterator's maker gives -/
theorem chunkOf_in (d : Nat) (a : Option Addr) (L c n : Nat) (w : World) (hn : 1 ≤ n) (hn2 : n ≤ 4096) :
    CallsIn Fence.wide d Try.prog 30 #[.slice a L c, .int .i64 n] w fun e w' => e = .returned (.func (.func 35) #[] #[.pointer (some ⟨w.heap.size, 0, none⟩), .pointer (some ⟨w.heap.size + 1, 0, none⟩)]) ∧ w' = (w.alloc (.cells #[.slice a L c] 22)).alloc (.cells #[.int .i64 n] 3) := by
  refine callsIn_of_wp Try.func30 rfl trivial ?_ rfl
  simp only [Try.ntmps30, List.size_toArray, List.length_cons, List.length_nil, Nat.reduceAdd, Nat.reduceSub, Array.replicate_succ, Array.replicate_zero, List.push_toArray, List.append_toArray, List.nil_append, List.cons_append]
  gi_wp2
  go_ret
  exact ⟨rfl, rfl⟩

/-- append of bytes onto a row of the call's own, in a round -/
theorem app8In {F : Fence} {nF : Nat} {w : World} {ops : Array Oper} {rest : List Oper} {o : Oper} {a : Act} {Q : Exit → Act → World → Prop} (hgd : o.guard = none) (s x : Operand)
    (ho : o.op = .call { callee := .builtin .append, args := #[s, x], argTypes := #[22, 22] })
    (base : Nat) (v : Value) (n : Nat) (xs : List Int) (hs : a.eval s = v) (hown : w.ownsRow base 5 1 v n (xs.map (Value.int .u8)))
    (ad : Addr) (m c : Nat) (l : List Int) (hx : a.eval x = .slice (some ad) m c) (hl : l.length = m) (hsrc : Src w (some ad) l) (h63 : n + m ≤ 4000000) (hbase : base ≤ w.heap.size)
    (h : ∀ v' w', w'.ownsRow base 5 1 v' (n + m) ((xs ++ l).map (Value.int .u8)) → Below base w w' → w.grownBy w' v.ownBlock → (v'.ownBlock = v.ownBlock ∨ v'.ownBlock = some w.heap.size) → wpListIn F nF Try.prog ops Q rest (a.put o.dst v') w') : wpListIn F nF Try.prog ops Q (o :: rest) a w := by
  obtain ⟨i0, hi, hz0, hz1, hz2⟩ := info_parts Try.info8
  rcases hsrc with ⟨h, _⟩ | ⟨ad', e, hc⟩
  · cases h
  · injection e with e
    subst e
    refine wpListIn_append_own_at w hgd s x 22 ho base 5 i0 (.int .u8 0) 1 1 Try.underlying22 hi hz0 hz1 hz2 rfl (by decide) v n _ hs hown ad m c (l.map (Value.int .u8)) hx (by simp [hl]) ?_ ?_ (by unfold maxLen; omega) (by omega) hbase ?_
    · intro j u hu
      rw [List.getElem?_map] at hu
      by_cases hj : j < l.length
      · rw [hc j hj]
        simpa [hj] using hu
      · simp [List.getElem?_eq_none (by omega : l.length ≤ j)] at hu
    · intro u hu; obtain ⟨n, -, rfl⟩ := List.mem_map.1 hu; rfl
    · intro v' w' h1 h2 _ h4
      rw [← List.map_append] at h1
      exact h v' w' h1 ((Below.refl _ _).grown h2 hbase (fun g hg => (hown.lt g hg).1)) h2 h4

/-- what lies in memory while the runs are put -/
structure RSt (S B : Nat) (w : World) (xs l : List Int) (a : Option Addr) (L c k : Nat) (W : World) : Prop where
  own : ∃ A cp n, Blk W S 22 #[.slice A n cp] ∧ W.ownsRow B 5 1 (.slice A n cp) n ((xs ++ rn l k).map (Value.int .u8))
  b1 : Blk W (S + 1) 22 #[.slice a L c]
  b2 : Blk W (S + 2) 3 #[.int .i64 128]
  bel : Below B w W
  kn : Kn w W
theorem RSt.on {S B p : Nat} {w : World} {xs l : List Int} {a : Option Addr} {L c : Nat} (hB : B ≤ w.heap.size) (hp : w.heap.size ≤ p) : OnOwn p (fun _ _ => False) (RSt S B w xs l a L c) := fun s A C row ⟨⟨a, cp, n, h2, h3⟩, q1, q2, h4, h5⟩ hg hr =>
  ⟨⟨a, cp, n, onOwn_blk (β := Unit) (T := fun _ _ => False) S _ (fun _ => _) (fun _ _ _ h => h) () A C row h2 hg hr, onOwn_row (β := Unit) (T := fun _ _ => False) (fun _ => _) (fun _ => _) (fun _ => _) (fun _ _ _ _ _ h => h) () A C row h3 hg hr⟩,
    onOwn_blk (β := Unit) (T := fun _ _ => False) (S + 1) _ (fun _ => _) (fun _ _ _ h => h) () A C row q1 hg hr, onOwn_blk (β := Unit) (T := fun _ _ => False) (S + 2) _ (fun _ => _) (fun _ _ _ h => h) () A C row q2 hg hr,
    onOwn_below (β := Unit) (T := fun _ _ => False) hB (Nat.le_trans hB hp) (fun _ _ h => h.elim) () A C row h4 hg hr,
    ⟨fun r o ho hn => (hg.block r (by have := (Array.getElem?_eq_some_iff.1 ho).1; have := h5.2; omega) (fun e => by
      rcases hr r e.symm with h | ⟨h, _⟩
      · exact h
      · have := (Array.getElem?_eq_some_iff.1 ho).1; omega)).trans (h5.1 r o ho hn), Nat.le_trans h5.2 hg.size⟩⟩

set_option maxRecDepth 100000 in
set_option maxHeartbeats 2000000 in
theorem appendRuns_any (b off L c B k : Nat) (a : Option Addr) (v : Value) (xs l : List Int) (w : World) (hB : B ≤ w.heap.size) (hown : w.ownsRow B 5 1 v k (xs.map (Value.int .u8))) (hr : ∀ X, Below B w X → Rw X a l) (hl : l.length = L) (hLc : L ≤ c) (hL : L ≤ 65536) (ha : L = 0 ∨ a = some ⟨b, off, none⟩) (hk : k + 70000 ≤ 4000000) :
    Calls Try.prog 19 #[v, .slice a L c] w fun e w' => (∃ v' n, e = .returned v' ∧ w'.ownsRow B 5 1 v' n ((xs ++ runs l).map (Value.int .u8))) ∧ Below B w w' ∧ Kn w w' := by
  have HO := Lib.hid (fun w => (callsIn_wide (n := 5)).1 (chunkOf_in 5 a L c 128 w (by omega) (by omega)))
  obtain ⟨a0, c0, rfl⟩ := own_slice hown
  have hxs : xs.length = k := by simpa using hown.1
  have HOw := Lib.hid hown
  have HR := Lib.hid hr
  have HL := Lib.hid hl
  have HXS := Lib.hid hxs
  have HK := Lib.hid hk
  clear hown hr hl hxs hk
  refine (callsIn_wide (n := 5)).1 ?_
  refine callsIn_of_wp_marks Try.func19 rfl trivial ?_ rfl
  simp only [Try.ntmps19, List.size_toArray, List.length_cons, List.length_nil, Nat.reduceAdd, Nat.reduceSub, Array.replicate_succ, Array.replicate_zero, List.push_toArray, List.append_toArray, List.nil_append, List.cons_append]
  refine wpIn_wide.2 ?_
  go_wp2_with fail
  refine (HO.out _).mono ?_
  rintro e w' ⟨rfl, rfl⟩
  go_wp2_with fail
  obtain ⟨S, hS⟩ : ∃ S, w.heap.size = S := ⟨_, rfl⟩
  obtain ⟨W4, hW4⟩ : ∃ W4, ((w.alloc (.cells #[.slice a0 k c0] 22)).alloc (.cells #[.slice a L c] 22)).alloc (.cells #[.int .i64 128] 3) = W4 := ⟨_, rfl⟩
  have hz4 : W4.heap.size = S + 3 := by rw [← hW4]; simp; omega
  have hB4 : Below w.heap.size w W4 := by rw [← hW4]; exact (((Below.refl _ w).alloc (Nat.le_refl _) _).alloc (by simp) _).alloc (by simp; omega) _
  have b0 : Blk W4 S 22 #[.slice a0 k c0] := by rw [← hW4, ← hS]; exact ((Blk.new _ _ _).alloc _).alloc _
  have b1 : Blk W4 (S + 1) 22 #[.slice a L c] := by
    have := (Blk.new (w.alloc (.cells #[.slice a0 k c0] 22)) 22 #[.slice a L c]).alloc (.cells #[.int .i64 128] 3)
    rw [World.size_alloc, hS, hW4] at this; exact this
  have b2 : Blk W4 (S + 2) 3 #[.int .i64 128] := by
    have := Blk.new ((w.alloc (.cells #[.slice a0 k c0] 22)).alloc (.cells #[.slice a L c] 22)) 3 #[.int .i64 128]
    rw [World.size_alloc, World.size_alloc, hS, hW4] at this; exact this
  have o4 := own_below HOw.out hB4
  rw [hS, hW4]
  have HSeq := Lib.hid (chunk_at 4 (by omega) (S + 1) (S + 2) b off L c 128 a ha hL hLc (by omega) (by omega) W4 b1 (show Blk W4 (S + 2) 3 #[.int .i64 ((128 : Nat) : Int)] from b2))
  have hBS : B ≤ S := by omega
  have HSz := Lib.hid hS
  have HB4 : Hid (Below S w W4) := Lib.hid (hS ▸ hB4)
  have hKn4 : Kn w W4 := Kn.below hB4
  have HKn4 := Lib.hid hKn4
  clear hW4 hB4 hS hKn4
  refine (wpIn_wide (n := 5)).1 ?_
  refine rangeFunc_at rfl (by omega) (gf := 35) (lb := #[.pointer (some ⟨S + 1, 0, none⟩), .pointer (some ⟨S + 1 + 1, 0, none⟩)]) rfl trivial (enters_of Try.func35 (by kernel_rfl) rfl)
    HSeq.out rfl (fun _ r e => e.elim) Kb2.trans (fun W o' hy => ⟨World.putObj_heap_other (by omega), World.putObj_heap_other (by omega), by simp⟩) (Below.refl _ _) (fun _ => rfl)
    (RSt S B w xs l a L c) (fun _ _ _ => False)
    (by rw [hz4]; exact RSt.on hB (by have := HSz.out; omega)) (fun cc => onOwn_pure _ _ (fun _ => False))
    ⟨⟨a0, c0, k, b0, by simpa [rn] using o4⟩, b1, b2, (HB4.out.mono hBS), HKn4.out⟩
    (fun i a' _ => a' = { tmps := #[.slice a0 k c0, .slice a L c, .pointer (some ⟨S, 0, none⟩), undef, .slice none 0 0, bsl b off L 128 i, .slice a L c, .func (.func 35) #[] #[.pointer (some ⟨S + 1, 0, none⟩), .pointer (some ⟨S + 1 + 1, 0, none⟩)], bsl b off L 128 i, undef, undef, undef, undef, undef, undef, undef, undef, undef, undef, undef], defers := [] })
    (fun _ _ _ A C row h _ _ => h) ?assign ?body ?done ?stop
  case assign =>
    rintro y i W K hzW hiN hst hK
    gi_wp2
    exact hK _ _ (KeepsFrom.refl _ _) ⟨rfl, rfl, Nat.le_refl _⟩ hst rfl
  case body =>
    rintro y i a' W hy hzW hrec hiN hst rfl
    rw [hz4] at hzW hy
    obtain ⟨⟨A, cp, n, hbk, hown⟩, hq1, hq2, hbel, hkn⟩ := hst
    have hiL := (nbk_lt (L := L) (n := 128) (i := i) (by omega)).1 hiN
    have ha' : a = some ⟨b, off, none⟩ := by rcases ha with h | h; omega; exact h
    obtain ⟨B1, B2, B3⟩ := bln_pos (L := L) (n := 128) (i := i) (by omega) hiL
    have hRw := HR.out W hbel
    have hnn : n = k + (rn l i).length := by have := hown.1; have h2 := HXS.out; simp at this; omega
    have hrl := (rn_len (l := l) i (by rw [HL.out]; omega)).1
    have hNb : nbk L 128 ≤ L := by
      unfold nbk
      rw [Nat.div_le_iff_le_mul_add_pred (by omega)]
      omega
    have h4 : n + 129 ≤ 4000000 := by have := HK.out; have := HL.out; omega
    have HRn : Hid (rn l (i + 1) = rn l i ++ (((bln L 128 i - 1 : Nat) : Int) :: ck l 128 i)) := Lib.hid (by rw [rn, HL.out])
    have hckl := ck_length (n := 128) (i := i) HL.out
    have HBs : Hid (bsl b off L 128 i = .slice (some ⟨b, off + i * 128, none⟩) (bln L 128 i) (bln L 128 i)) := Lib.hid rfl
    have hsrc : ∀ X, Below B w X → Src X (some ⟨b, off + i * 128, none⟩) (ck l 128 i) := fun X hX => by
      have h := (HR.out X hX)
      unfold ck
      exact ((h.drop (i * 128) (a' := some ⟨b, off + i * 128, none⟩) (fun b' o' e _ => by rw [ha'] at e; injection e with e; injection e with e1 e2; subst e1 e2; rfl)).take 128).src
    have HSrc := Lib.hid hsrc
    rw [HBs.out]
    generalize bln L 128 i = m at *
    generalize ck l 128 i = cl at *
    have hm8 : U8 ((m : Int) - 1) := by unfold U8; omega
    have hmI : 1 ≤ (m : Int) := by omega
    have hmI2 : (m : Int) ≤ 128 := by omega
    have em : ((m - 1 : Nat) : Int) = (m : Int) - 1 := by omega
    rw [em] at HRn
    have c0 := hbk.cell 0
    have f0 := hbk.frozen 0
    have hne := own_blk_ne hown hbk (by decide)
    have HOw2 := Lib.hid hown
    have HNe := Lib.hid hne
    have HBel := Lib.hid hbel
    have HKn := Lib.hid hkn
    clear hsrc hRw hrl hNb hnn hown hne hbel hkn ha em
    have hszW : B ≤ W.heap.size := by omega
    gi_upto_region 4 with (gi_at_builtin; refine app8In rfl _ _ rfl B _ n _ rfl (HOw2.out.alloc _) ⟨W.heap.size, 0, none⟩ 1 1 [(m : Int) - 1] rfl rfl (rw_one W _ hm8).src (by omega) (by simp; omega) ?_; intro v1 w1 hown1 hb1 hg1 hl1; obtain ⟨A1, c1, rfl⟩ := own_slice hown1; have z1 := (hbk.alloc (.cells #[.int .u8 ((m : Int) - 1)] 5)).grown hg1 HNe.out; have d1 := z1.cell 0; have e1 := z1.frozen 0)
    have hn1 := own_blk_ne hown1 z1 (by decide)
    have o2 := hown1.kept (grownBy_setCell' w1 S (.slice A1 (n + 1) c1)) (.inr hn1)
    have z2 := z1.put 0 (.slice A1 (n + 1) c1)
    have bel1 : Below B w (w1.setCell ⟨S, 0, none⟩ (.slice A1 (n + 1) c1)) := ((HBel.out.alloc hszW _).trans hb1).setCell (p := ⟨S, 0, none⟩) (by show B ≤ S; omega) _
    have kn1 : Kn w (w1.setCell ⟨S, 0, none⟩ (.slice A1 (n + 1) c1)) := ((HKn.out.trans (Kn.alloc W _)).trans (Kn.grown (HOw2.out.alloc _) hg1)).set (by show w.heap.size ≤ S; have := HSz.out; omega) _
    have ko1 : KeepsOthers W (w1.setCell ⟨S, 0, none⟩ (.slice A1 (n + 1) c1)) := ((KeepsOthers.alloc W _).trans (keeps_grown (HOw2.out.alloc _) hg1)).trans (KeepsOthers.setCell _ _ _)
    have qa1 := ((hq1.alloc (.cells #[.int .u8 ((m : Int) - 1)] 5)).grown hg1 (own_blk_ne (HOw2.out.alloc (.cells #[.int .u8 ((m : Int) - 1)] 5)) (hq1.alloc (.cells #[.int .u8 ((m : Int) - 1)] 5)) (by decide))).far (p := ⟨S, 0, none⟩) (by show S + 1 ≠ S; omega) (.slice A1 (n + 1) c1)
    have qa2 := ((hq2.alloc (.cells #[.int .u8 ((m : Int) - 1)] 5)).grown hg1 (own_blk_ne (HOw2.out.alloc (.cells #[.int .u8 ((m : Int) - 1)] 5)) (hq2.alloc (.cells #[.int .u8 ((m : Int) - 1)] 5)) (by decide))).far (p := ⟨S, 0, none⟩) (by show S + 2 ≠ S; omega) (.slice A1 (n + 1) c1)
    generalize w1.setCell ⟨S, 0, none⟩ (.slice A1 (n + 1) c1) = X1 at o2 z2 bel1 kn1 ko1 qa1 qa2 ⊢
    have HS2 := Lib.hid (HSrc.out X1 bel1)
    have HO2 := Lib.hid o2
    have HZ2 := Lib.hid z2
    have hn2 := own_blk_ne o2 z2 (by decide)
    have d2 := z2.cell 0
    have e2 := z2.frozen 0
    have hszX := Nat.le_trans hszW ko1.size
    gi_wp2_with (gi_at_builtin; refine app8In rfl _ _ rfl B _ (n + 1) _ rfl HO2.out ⟨b, off + i * 128, none⟩ m m cl rfl hckl HS2.out (by omega) hszX ?_; intro v2 w2 hown2 hb2 hg2 hl2; obtain ⟨A2, c2, rfl⟩ := own_slice hown2; have z3 := HZ2.out.grown hg2 hn2; have d3 := z3.cell 0; have e3 := z3.frozen 0)
    have z3 := HZ2.out.grown hg2 hn2
    have o3 := hown2.kept (grownBy_setCell' w2 S (.slice A2 (n + 1 + m) c2)) (.inr (own_blk_ne hown2 z3 (by decide)))
    have p1 := (qa1.grown hg2 (own_blk_ne HO2.out qa1 (by decide))).far (p := ⟨S, 0, none⟩) (by show S + 1 ≠ S; omega) (.slice A2 (n + 1 + m) c2)
    have p2 := (qa2.grown hg2 (own_blk_ne HO2.out qa2 (by decide))).far (p := ⟨S, 0, none⟩) (by show S + 2 ≠ S; omega) (.slice A2 (n + 1 + m) c2)
    have ko2 : KeepsOthers W (w2.setCell ⟨S, 0, none⟩ (.slice A2 (n + 1 + m) c2)) := (ko1.trans (keeps_grown HO2.out hg2)).trans (KeepsOthers.setCell _ _ _)
    refine ⟨ko2.from _, ⟨p1.trans hq1.symm, p2.trans hq2.symm, ko2.size⟩, ⟨⟨A2, c2, n + 1 + m, z3.put 0 _, ?_⟩, p1, p2, (bel1.trans hb2).setCell (p := ⟨S, 0, none⟩) (by show B ≤ S; omega) _, (kn1.trans (Kn.grown HO2.out hg2)).set (by show w.heap.size ≤ S; have := HSz.out; omega) _⟩⟩
    rw [HRn.out]
    simpa using o3
  case done =>
    rintro D W hD ⟨⟨A, cp, n, hbk, hown⟩, hq1, hq2, hbel, hkn⟩ hK
    rw [hz4] at hD
    have c0 := hbk.cell 0
    have HOw2 := Lib.hid hown
    clear hown
    go_wp2_with fail
    refine ⟨by simp, .inl ⟨_, _, rfl, run_takeDeferred hK, ?_⟩⟩
    refine ⟨.slice A n cp, by simp [results, Try.results19, go_sem], ?_⟩
    refine ⟨⟨_, n, rfl, ?_⟩, hbel.trans (belowK_b (w := w) hB W D _ _ (by have := HSz.out; omega) hK rfl rfl), ?_⟩
    · have : runs l = rn l (nbk L 128) := by unfold runs; rw [HL.out]
      rw [this]
      refine HOw2.out.kept (grownBy_putObj' W D (.deferred none)) (.inr (fun e => ?_))
      rcases HOw2.out.2 with ⟨h0, _⟩ | ⟨g', cap, cur, h0, _, hgg, _⟩
      · rw [h0] at e; simp [Value.ownBlock] at e
      · rw [h0] at e
        simp [Value.ownBlock] at e
        subst e
        rw [hgg] at hK; cases hK
    · exact ⟨fun r o ho hn => (World.putObj_heap_other (by have := (Array.getElem?_eq_some_iff.1 ho).1; have := HSz.out; omega)).trans (hkn.1 r o ho hn), by simpa using hkn.2⟩
  case stop =>
    rintro D cc i W hD hi hF hK
    exact hF.elim
end Go.Proofs.Ytaohkakefdhecaa
