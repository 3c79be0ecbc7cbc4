/-
  Batches handed to and fro by the laws: the contracts of szBatch, toBatch, eqBatch.
  Slices of batches as a call reads them, and the contracts of szBatchS, toBatchS, eqBatchS on them.
  Logs: the contracts of eqBatchS, spec.l1Next, impl.mayFollow, spec.GoodLog, impl.GoodLog.
-/
import Derived.Test.YtbgjjeecfbdaeaaGood
import Derived.Deep.RegionWith
namespace Go.Proofs.Ytbgjjeecfbdaeaa
open Go.RowKit

theorem bcell {W w1 : World} (hb : Below W.heap.size W w1) : (∀ b o, b < W.heap.size → w1.cell? ⟨b, o, none⟩ = W.cell? ⟨b, o, none⟩) ∧ (∀ b o, b < W.heap.size → w1.frozen? ⟨b, o, none⟩ = W.frozen? ⟨b, o, none⟩) :=
  ⟨fun b o h => hb.cell (p := ⟨b, o, none⟩) h, fun b o h => hb.frozen (p := ⟨b, o, none⟩) h⟩

/-- The slice's cells lie in a block from B on. -/
def FreshAt (B : Nat) (a : Option Addr) : Prop := ∀ b o s, a = some ⟨b, o, s⟩ → B ≤ b

theorem szS_bound {ss : List ByteArray} {left : Int} (h : 0 ≤ szS ss left) : ss.length ≤ left ∧ total ss ≤ left := by
  unfold szS at h; split at h <;> omega

theorem szS_range (ss : List ByteArray) {left : Int} (h0 : 0 ≤ left) : -1 ≤ szS ss left ∧ szS ss left ≤ left := by
  unfold szS; split <;> omega

theorem szBatch_any (o e p q : Int) (ss : List ByteArray) (a : Option Addr) (c : Nat) (left : Int) (w : World) (hs : Strs w a ss) (hl : ss.length ≤ maxLen) (h0 : 0 ≤ left) (h1 : left ≤ 1048576) :
    Calls Try.prog 88 #[.agg #[.int .i64 o, .int .i64 e, .int .i64 p, .int .i64 q, .slice a ss.length c], .int .i64 left] w fun r w' => r = .returned (.int .i64 (szS ss left)) ∧ Below w.heap.size w w' := by
  have hr := szS_range ss h0
  by_cases hn : szS ss left < 0
  · go_enter Try.func88, Try.ntmps88
    go_wp2_with (go_at_call 5; refine (szStringS_any _ _ _ _ _ (hs.below ((Below.refl _ _).alloc (Nat.le_refl _) _)) hl h0 h1).mono ?_; rintro e w' ⟨rfl, rfl⟩)
    go_ret
    exact ⟨ret_int (by omega), (Below.refl _ _).alloc (Nat.le_refl _) _⟩
  · go_enter Try.func88, Try.ntmps88
    go_wp2_with (go_at_call 5; refine (szStringS_any _ _ _ _ _ (hs.below ((Below.refl _ _).alloc (Nat.le_refl _) _)) hl h0 h1).mono ?_; rintro e w' ⟨rfl, rfl⟩)
    go_ret
    exact ⟨rfl, (Below.refl _ _).alloc (Nat.le_refl _) _⟩

set_option maxHeartbeats 1000000 in
theorem toBatch_any (o e p q : Int) (ss : List ByteArray) (a : Option Addr) (c : Nat) (w : World) (hs : Strs w a ss) (hl : ss.length ≤ 1048576) :
    Calls Try.prog 91 #[.agg #[.int .i64 o, .int .i64 e, .int .i64 p, .int .i64 q, .slice a ss.length c]] w fun r w' =>
      ∃ a' : Option Addr, r = .returned (.agg #[.int .i64 o, .int .i64 e, .int .i64 p, .int .i64 q, .slice a' ss.length ss.length]) ∧ Strs w' a' ss ∧ Below w.heap.size w w' ∧ FreshAt w.heap.size a' := by
  have hz := hs.size
  go_enter Try.func91, Try.ntmps91
  go_wp2_with fail
  refine (toStringS_any _ _ _ _ (hs.below ((((Below.refl _ _).alloc (Nat.le_refl _) _).alloc (by simp) _).alloc (by simp; omega) _)) hl).mono ?_
  rintro r w1 ⟨rfl, hR, hB⟩
  have HB := (((((Below.refl w.heap.size w).alloc (Nat.le_refl _) _).alloc (by simp) _).alloc (by simp; omega) _).trans (hB.mono (by simp; omega)))
  obtain ⟨hc, hf⟩ := bcell hB
  have hz1 := hB.size
  simp only [World.size_alloc] at hc hf hz1 hR
  clear hB
  go_wp2
  refine bodyPost_ret (v := .agg #[.int .i64 o, .int .i64 e, .int .i64 p, .int .i64 q, .slice (some ⟨w.heap.size + 1 + 1 + 1, 0, none⟩) ss.length ss.length]) (by simp [results, Try.results91, go_sem, hc]) rfl ⟨_, rfl, ?_, ?_, fun b o s h => by simp at h; omega⟩
  · exact Strs.of_row ((((((hR.setOther (by simp) _).setOther (by simp; omega) _).setOther (by simp; omega) _).setOther (by simp; omega) _).setOther (by simp; omega) _).setOther (by simp; omega) _) hz
  · exact (((((HB.setCell (by simp; omega) _).setCell (by simp) _).setCell (by simp) _).setCell (by simp) _).setCell (by simp) _).setCell (by simp) _

def Bt.eqB (b d : Bt) : Bool := decide (b.off = d.off) && decide (b.ep = d.ep) && decide (b.pr = d.pr) && decide (b.sq = d.sq) && decide (b.recs = d.recs)

set_option maxHeartbeats 1000000 in
theorem eqBatch_same (o e p q : Int) (ss : List ByteArray) (a a2 : Option Addr) (c c2 : Nat) (w : World) (hs : Strs w a ss) (hs2 : Strs w a2 ss) (hl : ss.length ≤ maxLen) :
    Calls Try.prog 84 #[.agg #[.int .i64 o, .int .i64 e, .int .i64 p, .int .i64 q, .slice a ss.length c], .agg #[.int .i64 o, .int .i64 e, .int .i64 p, .int .i64 q, .slice a2 ss.length c2]] w fun r w' => r = .returned (.bool true) ∧ Below w.heap.size w w' := by
  go_enter Try.func84, Try.ntmps84
  go_wp2_with fail
  have hb : ∀ x y, Below w.heap.size w ((w.alloc x).alloc y) := fun _ _ => ((Below.refl _ _).alloc (Nat.le_refl _) _).alloc (by simp) _
  refine (eqStringS_any _ _ _ _ _ _ _ (hs.below (hb _ _)) (hs2.below (hb _ _)) hl hl).mono ?_
  rintro r w1 ⟨rfl, n, rfl⟩
  go_wp2
  go_ret
  exact ⟨rfl, below_drewN (hb _ _) n⟩

theorem good_bounds {o e p q : Int} {ss : List ByteArray} (h : Bt.good ⟨o, e, p, q, ss⟩ = true) : 0 ≤ o ∧ o ≤ 100000 ∧ 1 ≤ (ss.length : Int) ∧ (ss.length : Int) ≤ 8 := by
  simp only [Bt.good, Bool.and_eq_true, inB_t] at h
  obtain ⟨⟨⟨⟨⟨_, h1⟩, _⟩, _⟩, _⟩, h2⟩ := h
  exact ⟨h1.1, h1.2, h2.1, h2.2⟩

end Go.Proofs.Ytbgjjeecfbdaeaa

namespace Go.Proofs.Ytbgjjeecfbdaeaa
open Go.RowKit

/-- At block k, from cell o on, a batch lies. -/
def BatAt (w : World) (k o : Nat) (b : Bt) : Prop :=
  ∃ ra rc, w.cell? ⟨k, o, none⟩ = some (.int .i64 b.off) ∧ w.cell? ⟨k, o + 1, none⟩ = some (.int .i64 b.ep) ∧ w.cell? ⟨k, o + 2, none⟩ = some (.int .i64 b.pr) ∧ w.cell? ⟨k, o + 3, none⟩ = some (.int .i64 b.sq) ∧
    w.cell? ⟨k, o + 4, none⟩ = some (.slice ra b.recs.length rc) ∧ Strs w ra b.recs ∧ b.recs.length ≤ maxLen

/-- The slice value at 'a' reads as these batches. -/
def Bats (w : World) (a : Option Addr) (bs : List Bt) : Prop :=
  ∀ i b, bs[i]? = some b → ∃ k o, a = some ⟨k, o, none⟩ ∧ BatAt w k (o + i * 5) b

theorem BatAt.below {w w' : World} {k o : Nat} {b : Bt} (h : BatAt w k o b) (hb : Below w.heap.size w w') : BatAt w' k o b := by
  obtain ⟨ra, rc, h0, h1, h2, h3, h4, hs, hl⟩ := h
  have lt := lt_of_cell h0
  exact ⟨ra, rc, (hb.cell (p := ⟨k, o, none⟩) lt).trans h0, (hb.cell (p := ⟨k, o + 1, none⟩) lt).trans h1, (hb.cell (p := ⟨k, o + 2, none⟩) lt).trans h2, (hb.cell (p := ⟨k, o + 3, none⟩) lt).trans h3, (hb.cell (p := ⟨k, o + 4, none⟩) lt).trans h4, hs.below hb, hl⟩

theorem Bats.below {w w' : World} {a : Option Addr} {bs : List Bt} (h : Bats w a bs) (hb : Below w.heap.size w w') : Bats w' a bs := fun i b hi => by
  obtain ⟨k, o, e, hB⟩ := h i b hi
  exact ⟨k, o, e, hB.below hb⟩

theorem getBt {bs : List Bt} {k : Nat} (h : k < bs.length) : ∃ s, bs[k]? = some s := ⟨_, List.getElem?_eq_getElem h⟩

theorem takeBt_snoc {ss : List Bt} {k : Nat} {s : Bt} (h : ss[k]? = some s) : ss.take (k + 1) = ss.take k ++ [s] := by
  rw [List.take_add_one, h]; rfl

theorem drop_cons {bs : List Bt} {k : Nat} {b : Bt} (h : bs[k]? = some b) : bs.drop k = b :: bs.drop (k + 1) := by
  obtain ⟨hlt, e⟩ := List.getElem?_eq_some_iff.1 h
  rw [List.drop_eq_getElem_cons hlt, e]

/-- What szBatchS answers, the batches one by one. -/
def szBs : List Bt → Int → Int
  | [], left => left
  | b :: r, left => if szS b.recs left < 0 then -1 else szBs r (szS b.recs left)

def szL (bs : List Bt) (left : Int) : Int := if left - bs.length < 0 then -1 else szBs bs (left - bs.length)

set_option maxHeartbeats 1000000 in
theorem szBatchS_any (a : Option Addr) (c : Nat) (bs : List Bt) (left : Int) (w : World) (hs : Bats w a bs) (hl : bs.length ≤ maxLen) (h0 : 0 ≤ left) (h1 : left ≤ 1048576) :
    Calls Try.prog 65 #[.slice a bs.length c, .int .i64 left] w fun e w' => e = .returned (.int .i64 (szL bs left)) ∧ Below w.heap.size w w' := by
  unfold maxLen at hl
  by_cases hn : left - (bs.length : Int) < 0
  · go_enter Try.func65, Try.ntmps65
    go_wp2
    go_ret
    exact ⟨ret_int (by unfold szL; rw [if_pos hn]), Below.refl _ _⟩
  · go_enter Try.func65, Try.ntmps65
    go_wp2
    go_loopw [1, 5] (fun l i wr => ∃ k : Nat, k ≤ bs.length ∧ i = .int .i64 k ∧ ∃ lf : Int, 0 ≤ lf ∧ lf ≤ 1048576 ∧ l = .int .i64 lf ∧ szBs (bs.drop k) lf = szBs bs (left - bs.length) ∧ Below w.heap.size w wr) (fun _ i _ => bs.length - (intOf i).toNat)
    case atStart => exact ⟨0, Nat.zero_le _, rfl, _, by omega, by omega, rfl, rfl, Below.refl _ _⟩
    case round =>
      obtain ⟨k, hk, rfl, lf, hlf, hlf2, rfl, hsz, hB⟩ := hrel
      by_cases hlt : k < bs.length
      · obtain ⟨b, hkb⟩ := getBt hlt
        obtain ⟨kb, ob, rfl, hbt⟩ := (hs.below hB) k b hkb
        obtain ⟨ra, rc, c0, c1, c2, c3, c4, hst, hsl⟩ := hbt
        have HD : Hid (szBs (bs.drop k) lf = szBs bs (left - bs.length)) := hsz
        clear hsz
        have hr := szS_range b.recs hlf
        go_wp2_with fail
        refine (szBatch_any _ _ _ _ _ _ _ _ _ hst hsl hlf hlf2).mono ?_
        rintro r w1 ⟨rfl, hB1⟩
        have hBn := hB.trans (hB1.mono hB.size)
        have HK : Hid (bs.drop k = b :: bs.drop (k + 1)) := drop_cons hkb
        clear hs hB1 hB hkb c0 c1 c2 c3 c4
        by_cases hneg : szS b.recs lf < 0
        · go_wp2
          go_ret
          refine ⟨ret_int ?_, hBn⟩
          have e := HD.out
          rw [HK.out, szBs, if_pos hneg] at e
          unfold szL; rw [if_neg (by omega), ← e]
        · go_wp2
          go_roundw
          case rel =>
            refine ⟨k + 1, by omega, by go_num, _, by omega, by omega, rfl, ?_, hBn⟩
            have e := HD.out
            rwa [HK.out, szBs, if_neg (by omega)] at e
          case measure => simp [intOf]; omega
      · go_wp2
        go_ret
        refine ⟨ret_int ?_, hB⟩
        rw [List.drop_eq_nil_of_le (by omega)] at hsz
        unfold szL; rw [if_neg (by omega), ← hsz, szBs]

theorem Try.infoBatch : (Try.prog.info? 78).map (fun i => (i.zero, i.size, i.bytes)) = some (some (.agg #[.int .i64 0, .int .i64 0, .int .i64 0, .int .i64 0, .slice none 0 0]), 5, 56) := by kernel_rfl

/-- make([]T, n), T of several cells. -/
theorem run_make_many {P : Program} (t e : TypeId) (z : Value) (size bytes : Nat) (ht : P.underlying t = some (.slice e)) (hinfo : (P.info? e).map (fun i => (i.zero, i.size, i.bytes)) = some (some z, size, bytes))
    (kl kc : IntKind) (n : Nat) (hbytes : bytes * n ≤ 281474976710656) (h63 : n ≤ 9223372036854775807) (w : World) :
    (Instr.makeSlice t (.int kl (n : Int)) (.int kc (n : Int))).run P w = .ok (.slice (some ⟨w.heap.size, 0, none⟩) n n) (w.alloc (.cells (madeCells z.cells (n * size)) e)) := by
  obtain ⟨i, hi, hzz⟩ := Option.map_eq_some_iff.1 hinfo
  simp only [Prod.mk.injEq] at hzz
  obtain ⟨hz, rfl, rfl⟩ := hzz
  have hb' : (i.bytes : Int) * (n : Int) ≤ 281474976710656 := by
    have h : ((i.bytes * n : Nat) : Int) ≤ 281474976710656 := by omega
    rwa [Int.natCast_mul] at h
  have hr := run_make (P := P) w t e i z ht hi hz kl kc n n (by omega) (Int.le_refl _) hb' (by omega)
  simp only [Int.toNat_natCast] at hr
  exact hr

theorem rowIs_of_alloc (w : World) (c : Array Value) (t : TypeId) : (w.alloc (.cells c t)).rowIs w.heap.size t c.size (fun j => c.getD j undef) :=
  World.rowIs_alloc w c t _ (fun i hi => by simp [hi])

theorem Strs.set {w : World} {a : Option Addr} {ss : List ByteArray} {N : Nat} (h : Strs w a ss) (hF : FreshAt (N + 1) a) (o : Nat) (v : Value) : Strs (w.setCell ⟨N, o, none⟩ v) a ss := fun i s hi => by
  obtain ⟨b, off, rfl, hc, hz⟩ := h i s hi
  have := hF b off none rfl
  exact ⟨b, off, rfl, (World.cell?_of_block (w := w) (a := ⟨b, off + i, none⟩) (Below.heap_setCell w ⟨N, o, none⟩ v b (by simp; omega))).trans hc, hz⟩

/-- The row at N holds the first k batches; their records lie behind N. -/
def OwnTo (w : World) (N : Nat) (f : Nat → Value) (bs : List Bt) (k : Nat) : Prop :=
  ∀ i b, i < k → bs[i]? = some b → ∃ ra rc, f (i * 5) = .int .i64 b.off ∧ f (i * 5 + 1) = .int .i64 b.ep ∧ f (i * 5 + 2) = .int .i64 b.pr ∧ f (i * 5 + 3) = .int .i64 b.sq ∧ f (i * 5 + 4) = .slice ra b.recs.length rc ∧ Strs w ra b.recs ∧ b.recs.length ≤ maxLen ∧ FreshAt (N + 1) ra

theorem OwnTo.below {w w' : World} {N : Nat} {f : Nat → Value} {bs : List Bt} {k : Nat} (h : OwnTo w N f bs k) (hb : Below w.heap.size w w') : OwnTo w' N f bs k := fun i b hi hb' => by
  obtain ⟨ra, rc, h0, h1, h2, h3, h4, hs, hl, hF⟩ := h i b hi hb'
  exact ⟨ra, rc, h0, h1, h2, h3, h4, hs.below hb, hl, hF⟩

theorem own_step {w : World} {N : Nat} {t : TypeId} {n : Nat} {f : Nat → Value} {bs : List Bt} {k : Nat} {b : Bt} {a1 : Option Addr} {rc : Nat} (hR : w.rowIs N t (n * 5) f) (hO : OwnTo w N f bs k) (hb : bs[k]? = some b) (hs : Strs w a1 b.recs) (hl : b.recs.length ≤ maxLen) (hF : FreshAt (N + 1) a1) :
    ∃ g, (((((w.setCell ⟨N, k * 5, none⟩ (.int .i64 b.off)).setCell ⟨N, k * 5 + 1, none⟩ (.int .i64 b.ep)).setCell ⟨N, k * 5 + 2, none⟩ (.int .i64 b.pr)).setCell ⟨N, k * 5 + 3, none⟩ (.int .i64 b.sq)).setCell ⟨N, k * 5 + 4, none⟩ (.slice a1 b.recs.length rc)).rowIs N t (n * 5) g ∧
      OwnTo (((((w.setCell ⟨N, k * 5, none⟩ (.int .i64 b.off)).setCell ⟨N, k * 5 + 1, none⟩ (.int .i64 b.ep)).setCell ⟨N, k * 5 + 2, none⟩ (.int .i64 b.pr)).setCell ⟨N, k * 5 + 3, none⟩ (.int .i64 b.sq)).setCell ⟨N, k * 5 + 4, none⟩ (.slice a1 b.recs.length rc)) N g bs (k + 1) := by
  refine ⟨_, ((((hR.set _ _).set _ _).set _ _).set _ _).set _ _, fun i c hi hc => ?_⟩
  by_cases e : i = k
  · subst e
    obtain rfl : b = c := by rw [hb] at hc; simpa using hc
    refine ⟨a1, rc, ?_, ?_, ?_, ?_, ?_, ((((hs.set hF _ _).set hF _ _).set hF _ _).set hF _ _).set hF _ _, hl, hF⟩ <;> simp
  · obtain ⟨ra, rc', h0, h1, h2, h3, h4, hs', hl', hF'⟩ := hO i c (by omega) hc
    refine ⟨ra, rc', ?_, ?_, ?_, ?_, ?_, ((((hs'.set hF' _ _).set hF' _ _).set hF' _ _).set hF' _ _).set hF' _ _, hl', hF'⟩
    · rw [if_neg (by omega), if_neg (by omega), if_neg (by omega), if_neg (by omega), if_neg (by omega)]; exact h0
    · rw [if_neg (by omega), if_neg (by omega), if_neg (by omega), if_neg (by omega), if_neg (by omega)]; exact h1
    · rw [if_neg (by omega), if_neg (by omega), if_neg (by omega), if_neg (by omega), if_neg (by omega)]; exact h2
    · rw [if_neg (by omega), if_neg (by omega), if_neg (by omega), if_neg (by omega), if_neg (by omega)]; exact h3
    · rw [if_neg (by omega), if_neg (by omega), if_neg (by omega), if_neg (by omega), if_neg (by omega)]; exact h4

theorem Bats.of_own {w : World} {N : Nat} {t : TypeId} {f : Nat → Value} {bs : List Bt} (hR : w.rowIs N t (bs.length * 5) f) (hO : OwnTo w N f bs bs.length) : Bats w (some ⟨N, 0, none⟩) bs := fun i b hi => by
  have hlt := (List.getElem?_eq_some_iff.1 hi).1
  obtain ⟨ra, rc, h0, h1, h2, h3, h4, hs, hl, -⟩ := hO i b hlt hi
  refine ⟨N, 0, rfl, ra, rc, ?_, ?_, ?_, ?_, ?_, hs, hl⟩
  · rw [Nat.zero_add, hR.cell (by omega), h0]
  · rw [Nat.zero_add, hR.cell (by omega), h1]
  · rw [Nat.zero_add, hR.cell (by omega), h2]
  · rw [Nat.zero_add, hR.cell (by omega), h3]
  · rw [Nat.zero_add, hR.cell (by omega), h4]

set_option maxHeartbeats 1000000 in
theorem toBatchS_any (a : Option Addr) (c : Nat) (bs : List Bt) (w : World) (hs : Bats w a bs) (hl : bs.length ≤ 1048576) (hrec : ∀ b, b ∈ bs → b.recs.length ≤ 1048576) :
    Calls Try.prog 69 #[.slice a bs.length c] w fun e w' => ∃ a', e = .returned (.slice a' bs.length bs.length) ∧ Bats w' a' bs ∧ Below w.heap.size w w' := by
  have hmk := run_make_many (P := Try.prog) 28 78 _ 5 56 Try.underlying28 Try.infoBatch .i64 .i64 bs.length (by omega) (by omega)
  go_enter Try.func69, Try.ntmps69
  go_wp2
  have hB : ∀ o, Below w.heap.size w (w.alloc o) := fun o => (Below.refl _ _).alloc (Nat.le_refl _) o
  go_loopw [4] (fun i wr => ∃ k : Nat, k ≤ bs.length ∧ i = .int .i64 k ∧ ∃ f, wr.rowIs w.heap.size 78 (bs.length * 5) f ∧ OwnTo wr w.heap.size f bs k ∧ Below w.heap.size w wr) (fun i _ => bs.length - (intOf i).toNat)
  case atStart => exact ⟨0, Nat.zero_le _, rfl, _, by simpa [size_madeCells] using rowIs_of_alloc w (madeCells _ (bs.length * 5)) 78, fun i b hi => absurd hi (Nat.not_lt_zero _), hB _⟩
  case round =>
    clear hB
    obtain ⟨k, hk, rfl, f, hR, hO, hB⟩ := hrel
    by_cases hlt : k < bs.length
    · obtain ⟨b, hkb⟩ := getBt hlt
      obtain ⟨kb, ob, rfl, hbt⟩ := (hs.below hB) k b hkb
      obtain ⟨ra, rc, c0, c1, c2, c3, c4, hst, hsl⟩ := hbt
      have hrl := hrec b (List.mem_of_getElem? hkb)
      have HK : Hid (bs[k]? = some b) := hkb
      clear hs hkb
      go_wp2_with fail
      refine (toBatch_any _ _ _ _ _ _ _ _ hst hrl).mono ?_
      rintro r w1 ⟨a1, rfl, hs1, hB1, hF1⟩
      have hR1 : w1.rowIs w.heap.size 78 (bs.length * 5) f := hR.of_block (hB1.block _ hR.lt)
      have d0 := hR1.cell (i := k * 5) (by omega)
      have d1 := hR1.cell (i := k * 5 + 1) (by omega)
      have d2 := hR1.cell (i := k * 5 + 2) (by omega)
      have d3 := hR1.cell (i := k * 5 + 3) (by omega)
      have d4 := hR1.cell (i := k * 5 + 4) (by omega)
      have hf := hR1.frozen
      have hO1 := hO.below hB1
      have hF : FreshAt (w.heap.size + 1) a1 := fun b o s h => by have := hF1 b o s h; have := hR.lt; omega
      have hBn := hB.trans (hB1.mono hB.size)
      clear hO hB hB1 hF1 hR
      go_wp2
      go_roundw
      case rel =>
        obtain ⟨g, hg, hOg⟩ := own_step (rc := b.recs.length) hR1 hO1 HK.out hs1 hsl hF
        exact ⟨k + 1, by omega, by go_num, g, hg, hOg, ((((hBn.setCell (Nat.le_refl _) _).setCell (Nat.le_refl _) _).setCell (Nat.le_refl _) _).setCell (Nat.le_refl _) _).setCell (Nat.le_refl _) _⟩
      case measure => simp [intOf]; omega
    · go_wp2
      go_ret
      obtain rfl : k = bs.length := by omega
      exact ⟨_, rfl, Bats.of_own hR hO, hB⟩

end Go.Proofs.Ytbgjjeecfbdaeaa

namespace Go.Proofs.Ytbgjjeecfbdaeaa
open Go.RowKit

set_option maxHeartbeats 1000000 in
theorem eqBatchS_same (a a2 : Option Addr) (c c2 : Nat) (bs : List Bt) (w : World) (hx : Bats w a bs) (hy : Bats w a2 bs) (hl : bs.length ≤ maxLen) :
    Calls Try.prog 59 #[.slice a bs.length c, .slice a2 bs.length c2] w fun e w' => e = .returned (.bool true) ∧ Below w.heap.size w w' := by
  unfold maxLen at hl
  go_enter Try.func59, Try.ntmps59
  go_wp2
  go_loopw [5] (fun i wr => ∃ k : Nat, k ≤ bs.length ∧ i = .int .i64 k ∧ Below w.heap.size w wr) (fun i _ => bs.length - (intOf i).toNat)
  case atStart => exact ⟨0, Nat.zero_le _, rfl, Below.refl _ _⟩
  case round =>
    obtain ⟨k, hk, rfl, hB⟩ := hrel
    by_cases hlt : k < bs.length
    · obtain ⟨b, hkb⟩ := getBt hlt
      obtain ⟨kb, ob, rfl, hbt⟩ := (hx.below hB) k b hkb
      obtain ⟨ra, rc, c0, c1, c2, c3, c4, hst, hsl⟩ := hbt
      obtain ⟨kb2, ob2, rfl, hbt2⟩ := (hy.below hB) k b hkb
      obtain ⟨ra2, rc2, d0, d1, d2, d3, d4, hst2, hsl2⟩ := hbt2
      clear hx hy hkb
      go_wp2
      go_region_with (go_at_call 84; refine (eqBatch_same _ _ _ _ _ _ _ _ _ _ ?_ ?_ hsl).mono ?_; exact hst.below (Below.refl _ _).drew; exact hst2.below (Below.refl _ _).drew; rintro r w1 ⟨rfl, hB1⟩)
      all_goals
        go_wp2
        go_roundw
        case rel => exact ⟨k + 1, by omega, by go_num, hB.drew.trans (hB1.mono (by simpa using hB.size))⟩
        case measure => simp [intOf]; omega
    · go_wp2
      go_ret
      exact ⟨rfl, hB⟩

def nextB (a b : Bt) : Bool := decide (b.off = wrap64 (a.off + a.recs.length)) && decide (a.ep ≤ b.ep)

def followB (p : Option Bt) (b : Bt) : Bool := match p with
  | none => true
  | some x => nextB x b

end Go.Proofs.Ytbgjjeecfbdaeaa
