/-
  Lists of Chan as a call reads them, and the contracts of the laws' helpers on them: szChan, szChanS, toChan, toChanS, eqChan, eqChanS. Made by mkbag.py.
-/
import Derived.Test.YtaoecafibmfphaaBagAid
namespace Go.Proofs.Ytaoecafibmfphaa
open Go.RowKit

/-- One Chan: what its fields read. -/
structure Ch where
  fr : Int
  to : Int
  way : List Int
deriving DecidableEq

/-- At block K, from cell o on, one lies. -/
def ChAt (w : World) (K o : Nat) (c : Ch) : Prop :=
  ∃ r2 k2, w.cell? ⟨K, o, none⟩ = some (.int .i64 c.fr) ∧ w.cell? ⟨K, o + 1, none⟩ = some (.int .i64 c.to) ∧ w.cell? ⟨K, o + 2, none⟩ = some (.slice r2 c.way.length k2) ∧ Ints w r2 c.way ∧ c.way.length ≤ maxLen

/-- The slice value at 'a' reads as these. -/
def Chs (w : World) (a : Option Addr) (l : List Ch) : Prop :=
  ∀ i c, l[i]? = some c → ∃ K o, a = some ⟨K, o, none⟩ ∧ ChAt w K (o + i * 3) c

theorem ChAt.below {w w' : World} {K o : Nat} {c : Ch} (h : ChAt w K o c) (hb : Below w.heap.size w w') : ChAt w' K o c := by
  obtain ⟨r2, k2, c0, c1, c2, q2, m2⟩ := h
  have lt := lt_of_cell c0
  exact ⟨r2, k2, (hb.cell (p := ⟨K, o, none⟩) lt).trans c0, (hb.cell (p := ⟨K, o + 1, none⟩) lt).trans c1, (hb.cell (p := ⟨K, o + 2, none⟩) lt).trans c2, q2.below hb, m2⟩

theorem Chs.below {w w' : World} {a : Option Addr} {l : List Ch} (h : Chs w a l) (hb : Below w.heap.size w w') : Chs w' a l := fun i c hi => by
  obtain ⟨K, o, e, hB⟩ := h i c hi
  exact ⟨K, o, e, hB.below hb⟩

theorem Chs.nil (w : World) (a : Option Addr) : Chs w a [] := fun i f hi => by simp at hi

theorem getCh {l : List Ch} {k : Nat} (h : k < l.length) : ∃ s, l[k]? = some s := ⟨_, List.getElem?_eq_getElem h⟩

theorem takeCh_snoc {l : List Ch} {k : Nat} {s : Ch} (h : l[k]? = some s) : l.take (k + 1) = l.take k ++ [s] := by
  rw [List.take_add_one, h]; rfl

theorem dropCh_cons {l : List Ch} {k : Nat} {b : Ch} (h : l[k]? = some b) : l.drop k = b :: l.drop (k + 1) := by
  obtain ⟨hlt, e⟩ := List.getElem?_eq_some_iff.1 h
  rw [List.drop_eq_getElem_cons hlt, e]

def szCh (c : Ch) (left : Int) : Int := szN c.way.length left

theorem szCh_range (c : Ch) {left : Int} (h0 : 0 ≤ left) : -1 ≤ szCh c left ∧ szCh c left ≤ left := by
  unfold szCh
  have e0 := szN_range c.way.length (left := left)
  repeat' split
  all_goals omega

theorem szCh_bound {c : Ch} {left : Int} (h : 0 ≤ szCh c left) : (c.way.length : Int) ≤ left := by
  unfold szCh szN at h
  repeat' split at h
  all_goals omega

set_option maxHeartbeats 1000000 in
theorem szChan_any (c : Ch) (r2 : Option Addr) (k2 : Nat) (left : Int) (w : World) (l2 : c.way.length ≤ maxLen) (h0 : 0 ≤ left) (h1 : left ≤ 1048576) :
    Calls Try.prog 82 #[.agg #[.int .i64 c.fr, .int .i64 c.to, .slice r2 c.way.length k2], .int .i64 left] w fun r w' => r = .returned (.int .i64 (szCh c left)) ∧ Below w.heap.size w w' := by
  have e0 := szN_range c.way.length (left := left)
  by_cases n0 : szN c.way.length left < 0
  · go_enter Try.func82, Try.ntmps82
    go_wp2_with (first | (go_at_call 52; refine (szIntN_any _ _ _ _ _ l2 (by omega) (by omega)).mono ?_; rintro e w' ⟨rfl, rfl⟩))
    go_ret
    exact ⟨ret_int (by unfold szCh; repeat' split
                       all_goals omega), (Below.refl _ _).alloc (Nat.le_refl _) _⟩
  go_enter Try.func82, Try.ntmps82
  go_wp2_with (first | (go_at_call 52; refine (szIntN_any _ _ _ _ _ l2 (by omega) (by omega)).mono ?_; rintro e w' ⟨rfl, rfl⟩))
  go_ret
  exact ⟨ret_int (by unfold szCh; repeat' split
                     all_goals omega), (Below.refl _ _).alloc (Nat.le_refl _) _⟩

/-- What szChanS answers, one by one. -/
def szChs' : List Ch → Int → Int
  | [], left => left
  | c :: r, left => if szCh c left < 0 then -1 else szChs' r (szCh c left)

def szChs (l : List Ch) (left : Int) : Int := if left - l.length < 0 then -1 else szChs' l (left - l.length)

theorem szChs'_range : ∀ (l : List Ch) (left : Int), 0 ≤ left → -1 ≤ szChs' l left ∧ szChs' l left ≤ left
  | [], left, h => by simp only [szChs']; omega
  | c :: r, left, h => by
    have e := szCh_range c h
    simp only [szChs']; split
    · omega
    · have := szChs'_range r (szCh c left) (by omega)
      omega

theorem szChs_range (l : List Ch) {left : Int} (h : 0 ≤ left) : -1 ≤ szChs l left ∧ szChs l left ≤ left := by
  unfold szChs; split
  · omega
  · have := szChs'_range l (left - l.length) (by omega)
    omega

theorem szChs'_bound : ∀ (l : List Ch) (left : Int), left ≤ 1048576 → 0 ≤ left → 0 ≤ szChs' l left → ∀ c, c ∈ l → c.way.length ≤ 1048576
  | [], left, _, _, _ => fun c hc => by simp at hc
  | d :: r, left, hl, h0, h => fun c hc => by
    simp only [szChs'] at h; split at h
    · omega
    · have e := szCh_range d h0
      have e2 := szCh_bound (c := d) (left := left) (by omega)
      rcases List.mem_cons.1 hc with rfl | hc
      · omega
      · exact szChs'_bound r (szCh d left) (by omega) (by omega) h c hc

theorem szChs_bound {l : List Ch} {left : Int} (hl : left ≤ 1048576) (h : 0 ≤ szChs l left) : l.length ≤ 1048576 ∧ ∀ c, c ∈ l → c.way.length ≤ 1048576 := by
  unfold szChs at h; split at h
  · omega
  · exact ⟨by omega, szChs'_bound l (left - l.length) (by omega) (by omega) h⟩

set_option maxHeartbeats 1000000 in
theorem szChanS_any (a : Option Addr) (c : Nat) (l : List Ch) (left : Int) (w : World) (hs : Chs w a l) (hl : l.length ≤ maxLen) (h0 : 0 ≤ left) (h1 : left ≤ 1048576) :
    Calls Try.prog 53 #[.slice a l.length c, .int .i64 left] w fun e w' => e = .returned (.int .i64 (szChs l left)) ∧ Below w.heap.size w w' := by
  unfold maxLen at hl
  by_cases hn : left - (l.length : Int) < 0
  · go_enter Try.func53, Try.ntmps53
    go_wp2
    go_ret
    exact ⟨ret_int (by unfold szChs; rw [if_pos hn]), Below.refl _ _⟩
  · go_enter Try.func53, Try.ntmps53
    go_wp2
    go_loopw [1, 5] (fun x i wr => ∃ k : Nat, k ≤ l.length ∧ i = .int .i64 k ∧ ∃ lf : Int, 0 ≤ lf ∧ lf ≤ 1048576 ∧ x = .int .i64 lf ∧ szChs' (l.drop k) lf = szChs' l (left - l.length) ∧ Below w.heap.size w wr) (fun _ i _ => l.length - (intOf i).toNat)
    case atStart => exact ⟨0, Nat.zero_le _, rfl, _, by omega, by omega, rfl, rfl, Below.refl _ _⟩
    case round =>
      obtain ⟨k, hk, rfl, lf, hlf, hlf2, rfl, hsz, hB⟩ := hrel
      by_cases hlt : k < l.length
      · obtain ⟨b, hkb⟩ := getCh hlt
        obtain ⟨kb, ob, rfl, hbt⟩ := (hs.below hB) k b hkb
        obtain ⟨r2, k2, c0, c1, c2, q2, m2⟩ := hbt
        have HD : Hid (szChs' (l.drop k) lf = szChs' l (left - l.length)) := hsz
        clear hsz
        have hr := szCh_range b hlf
        go_wp2_with fail
        refine (szChan_any _ _ _ _ _ m2 hlf hlf2).mono ?_
        rintro r w1 ⟨rfl, hB1⟩
        have hBn := hB.trans (hB1.mono hB.size)
        have HK : Hid (l.drop k = b :: l.drop (k + 1)) := dropCh_cons hkb
        clear hs hB1 hB hkb c0 c1 c2
        by_cases hneg : szCh b lf < 0
        · go_wp2
          go_ret
          refine ⟨ret_int ?_, hBn⟩
          have e := HD.out
          rw [HK.out, szChs', if_pos hneg] at e
          unfold szChs; rw [if_neg (by omega), ← e]
        · go_wp2
          go_roundw
          case rel =>
            refine ⟨k + 1, by omega, by go_num, _, by omega, by omega, rfl, ?_, hBn⟩
            have e := HD.out
            rwa [HK.out, szChs', if_neg (by omega)] at e
          case measure => simp [intOf]; omega
      · go_wp2
        go_ret
        refine ⟨ret_int ?_, hB⟩
        rw [List.drop_eq_nil_of_le (by omega)] at hsz
        unfold szChs; rw [if_neg (by omega), ← hsz, szChs']

/-- What toChan answers. -/
def ChNew (w w' : World) (c : Ch) (r : Ending) : Prop :=
  ∃ s2, r = .returned (.agg #[.int .i64 c.fr, .int .i64 c.to, .slice s2 c.way.length c.way.length]) ∧ Ints w' s2 c.way ∧ RowI w' w.heap.size s2 c.way.length ∧ Below w.heap.size w w'

set_option maxHeartbeats 2000000 in
theorem toChan_any (c : Ch) (r2 : Option Addr) (k2 : Nat) (w : World) (h2 : Ints w r2 c.way) (l2 : c.way.length ≤ 1048576) :
    Calls Try.prog 84 #[.agg #[.int .i64 c.fr, .int .i64 c.to, .slice r2 c.way.length k2]] w fun r w' => ChNew w w' c r := by
  have hb3 : ∀ x y z, Below w.heap.size w (((w.alloc x).alloc y).alloc z) := fun _ _ _ => (((Below.refl _ _).alloc (Nat.le_refl _) _).alloc (by simp) _).alloc (by simp; omega) _
  go_enter Try.func84, Try.ntmps84
  go_wp2_with fail
  refine (toIntS_any _ _ _ _ (h2.below (hb3 _ _ _)) l2).mono ?_
  rintro r w1 ⟨s2, rfl, H2, R2, hB⟩
  have HB : Below w.heap.size w w1 := (hb3 _ _ _).trans (hB.mono (hb3 _ _ _).size)
  have p0 : w1.cell? ⟨w.heap.size, 0, none⟩ = some (.int .i64 c.fr) := celB hB (by simp [go_sem])
  have p1 : w1.cell? ⟨w.heap.size, 1, none⟩ = some (.int .i64 c.to) := celB hB (by simp [go_sem])
  have p2 : w1.cell? ⟨w.heap.size, 2, none⟩ = some (.slice r2 c.way.length k2) := celB hB (by simp [go_sem])
  have o0 : w1.cell? ⟨w.heap.size + 1 + 1, 0, none⟩ = some (.int .i64 c.fr) := celB hB (by simp [go_sem])
  have o1 : w1.cell? ⟨w.heap.size + 1 + 1, 1, none⟩ = some (.int .i64 c.to) := celB hB (by simp [go_sem])
  have o2 : w1.cell? ⟨w.heap.size + 1 + 1, 2, none⟩ = some (.slice none 0 0) := celB hB (by simp [go_sem])
  have t0 : w1.cell? ⟨w.heap.size + 1, 0, none⟩ = some (.int .i64 0) := celB hB (by simp [go_sem])
  have t1 : w1.cell? ⟨w.heap.size + 1, 1, none⟩ = some (.int .i64 0) := celB hB (by simp [go_sem])
  have t2 : w1.cell? ⟨w.heap.size + 1, 2, none⟩ = some (.slice none 0 0) := celB hB (by simp [go_sem])
  have x0 : ∀ o, w1.frozen? ⟨w.heap.size, o, none⟩ = false := fun o => frzB hB (by simp; omega) (by simp [go_sem])
  have x1 : ∀ o, w1.frozen? ⟨w.heap.size + 1, o, none⟩ = false := fun o => frzB hB (by simp) (by simp [go_sem])
  have x2 : ∀ o, w1.frozen? ⟨w.heap.size + 1 + 1, o, none⟩ = false := fun o => frzB hB (by simp) (by simp [go_sem])
  have hz1 := hB.size
  simp only [World.size_alloc] at hz1 R2
  clear hB
  go_wp2
  refine bodyPost_ret (v := .agg #[.int .i64 c.fr, .int .i64 c.to, .slice s2 c.way.length c.way.length]) (by simp [results, Try.results84, go_sem, t0, t1, t2]) rfl ⟨_, rfl, ?_, ?_, ?_⟩
  · exact ((((H2.setR R2 (by omega) _ _).setR (R2.setR (by omega) _ _) (by omega) _ _).setR ((R2.setR (by omega) _ _).setR (by omega) _ _) (by omega) _ _).setR (((R2.setR (by omega) _ _).setR (by omega) _ _).setR (by omega) _ _) (by omega) _ _)
  · exact ((((R2.setR (by omega) _ _).setR (by omega) _ _).setR (by omega) _ _).setR (by omega) _ _).mono (by omega)
  · exact ((((HB.setCell (by first | (simp; done) | (simp; omega)) _).setCell (by first | (simp; done) | (simp; omega)) _).setCell (by first | (simp; done) | (simp; omega)) _).setCell (by first | (simp; done) | (simp; omega)) _)

theorem Try.infoCh : (Try.prog.info? 78).map (fun i => (i.zero, i.size, i.bytes)) = some (some (.agg #[.int .i64 0, .int .i64 0, .slice none 0 0]), 3, 40) := by kernel_rfl

/-- The row at N holds the first k; their own lists lie behind N. -/
def ChTo (w : World) (N : Nat) (f : Nat → Value) (l : List Ch) (k : Nat) : Prop :=
  ∀ i c, i < k → l[i]? = some c → ∃ r2 k2, f (i * 3) = .int .i64 c.fr ∧ f (i * 3 + 1) = .int .i64 c.to ∧ f (i * 3 + 2) = .slice r2 c.way.length k2 ∧ Ints w r2 c.way ∧ c.way.length ≤ maxLen ∧ RowI w (N + 1) r2 c.way.length

theorem ChTo.below {w w' : World} {N : Nat} {f : Nat → Value} {l : List Ch} {k : Nat} (h : ChTo w N f l k) (hb : Below w.heap.size w w') : ChTo w' N f l k := fun i c hi hc => by
  obtain ⟨r2, k2, c0, c1, c2, q2, m2, R2⟩ := h i c hi hc
  exact ⟨r2, k2, c0, c1, c2, q2.below hb, m2, R2.below hb⟩

set_option maxHeartbeats 1000000 in
theorem ChTo_step {w : World} {N : Nat} {t : TypeId} {m : Nat} {f : Nat → Value} {l : List Ch} {k : Nat} {b : Ch} {r2 : Option Addr} {k2 : Nat} (hR : w.rowIs N t (m * 3) f) (hO : ChTo w N f l k) (hb : l[k]? = some b) (h2 : Ints w r2 b.way) (m2 : b.way.length ≤ maxLen) (R2 : RowI w (N + 1) r2 b.way.length) :
    ∃ g, (((w.setCell ⟨N, k * 3, none⟩ (.int .i64 b.fr)).setCell ⟨N, k * 3 + 1, none⟩ (.int .i64 b.to)).setCell ⟨N, k * 3 + 2, none⟩ (.slice r2 b.way.length k2)).rowIs N t (m * 3) g ∧ ChTo (((w.setCell ⟨N, k * 3, none⟩ (.int .i64 b.fr)).setCell ⟨N, k * 3 + 1, none⟩ (.int .i64 b.to)).setCell ⟨N, k * 3 + 2, none⟩ (.slice r2 b.way.length k2)) N g l (k + 1) := by
  refine ⟨_, (((hR.set _ _).set _ _).set _ _), fun i c hi hc => ?_⟩
  by_cases e : i = k
  · subst e
    obtain rfl : b = c := by rw [hb] at hc; simpa using hc
    refine ⟨r2, k2, ?_, ?_, ?_, (((h2.setR R2 (by omega) _ _).setR (R2.setR (by omega) _ _) (by omega) _ _).setR ((R2.setR (by omega) _ _).setR (by omega) _ _) (by omega) _ _), m2, (((R2.setR (by omega) _ _).setR (by omega) _ _).setR (by omega) _ _)⟩ <;> simp
  · obtain ⟨r2', k2', c0, c1, c2, q2, m2', S2⟩ := hO i c (by omega) hc
    refine ⟨r2', k2', ?_, ?_, ?_, (((q2.setR S2 (by omega) _ _).setR (S2.setR (by omega) _ _) (by omega) _ _).setR ((S2.setR (by omega) _ _).setR (by omega) _ _) (by omega) _ _), m2', (((S2.setR (by omega) _ _).setR (by omega) _ _).setR (by omega) _ _)⟩
    · rw [if_neg (by omega), if_neg (by omega), if_neg (by omega)]; exact c0
    · rw [if_neg (by omega), if_neg (by omega), if_neg (by omega)]; exact c1
    · rw [if_neg (by omega), if_neg (by omega), if_neg (by omega)]; exact c2

theorem Chs.of_to {w : World} {N : Nat} {t : TypeId} {f : Nat → Value} {l : List Ch} (hR : w.rowIs N t (l.length * 3) f) (hO : ChTo w N f l l.length) : Chs w (some ⟨N, 0, none⟩) l := fun i c hi => by
  have hlt := (List.getElem?_eq_some_iff.1 hi).1
  obtain ⟨r2, k2, c0, c1, c2, q2, m2, -⟩ := hO i c hlt hi
  refine ⟨N, 0, rfl, r2, k2, ?_, ?_, ?_, q2, m2⟩
  · rw [Nat.zero_add, hR.cell (by omega), c0]
  · rw [Nat.zero_add, hR.cell (by omega), c1]
  · rw [Nat.zero_add, hR.cell (by omega), c2]

/-- It reads so, and all of it lies in blocks from B on. -/
def ChsA (w : World) (B : Nat) (a : Option Addr) (l : List Ch) : Prop := ∀ w2 : World, (∀ b, B ≤ b → b < w.heap.size → w2.heap[b]? = w.heap[b]?) → Chs w2 a l

theorem ChsA.here {w : World} {B : Nat} {a : Option Addr} {l : List Ch} (h : ChsA w B a l) : Chs w a l := h w fun _ _ _ => rfl

theorem ChsA.below {w w' : World} {B : Nat} {a : Option Addr} {l : List Ch} (h : ChsA w B a l) (hb : Below w.heap.size w w') : ChsA w' B a l := fun w2 h2 =>
  h w2 fun b h1 hl => (h2 b h1 (by have := hb.size; omega)).trans (hb.block b hl)

theorem ChsA.mono {w : World} {B B' : Nat} {a : Option Addr} {l : List Ch} (h : ChsA w B a l) (hb : B' ≤ B) : ChsA w B' a l := fun w2 h2 =>
  h w2 fun b h1 hl => h2 b (by omega) hl

theorem ChsA.setR {w : World} {B N : Nat} {a : Option Addr} {l : List Ch} (h : ChsA w B a l) (hN : N < B) (o : Nat) (v : Value) : ChsA (w.setCell ⟨N, o, none⟩ v) B a l := fun w2 h2 =>
  h w2 fun b h1 hl => (h2 b h1 (by simpa using hl)).trans (Below.heap_setCell w ⟨N, o, none⟩ v b (by simp; omega))

theorem ChsA.of_to {w : World} {N : Nat} {t : TypeId} {f : Nat → Value} {l : List Ch} (hR : w.rowIs N t (l.length * 3) f) (hO : ChTo w N f l l.length) : ChsA w N (some ⟨N, 0, none⟩) l := fun w2 h2 => by
  refine Chs.of_to (hR.of_block (h2 N (Nat.le_refl _) hR.lt)) fun i c hi hc => ?_
  obtain ⟨r2, k2, c0, c1, c2, q2, m2, R2⟩ := hO i c hi hc
  exact ⟨r2, k2, c0, c1, c2, q2.of_block fun b hb => h2 b (by have := (R2.lt hb).1; omega) (R2.lt hb).2, m2, R2.of_block fun b hb => h2 b (by have := (R2.lt hb).1; omega) (R2.lt hb).2⟩

set_option maxHeartbeats 2000000 in
theorem toChanS_any (a : Option Addr) (c : Nat) (l : List Ch) (w : World) (hs : Chs w a l) (hl : l.length ≤ 1048576) (hrec : ∀ c, c ∈ l → c.way.length ≤ 1048576) :
    Calls Try.prog 59 #[.slice a l.length c] w fun e w' => ∃ a', e = .returned (.slice a' l.length l.length) ∧ Chs w' a' l ∧ ChsA w' w.heap.size a' l ∧ Below w.heap.size w w' := by
  have hmk := run_make_manyV (P := Try.prog) 23 78 _ 3 40 Try.underlying23 Try.infoCh .i64 .i64 l.length (by omega) (by omega)
  go_enter Try.func59, Try.ntmps59
  go_wp2
  have hB : ∀ o, Below w.heap.size w (w.alloc o) := fun o => (Below.refl _ _).alloc (Nat.le_refl _) o
  go_loopw [4] (fun i wr => ∃ k : Nat, k ≤ l.length ∧ i = .int .i64 k ∧ ∃ f, wr.rowIs w.heap.size 78 (l.length * 3) f ∧ ChTo wr w.heap.size f l k ∧ Below w.heap.size w wr) (fun i _ => l.length - (intOf i).toNat)
  case atStart => exact ⟨0, Nat.zero_le _, rfl, _, by simpa [size_madeCells] using rowIs_of_allocV w (madeCells _ (l.length * 3)) 78, fun i b hi => absurd hi (Nat.not_lt_zero _), hB _⟩
  case round =>
    clear hB
    obtain ⟨k, hk, rfl, f, hR, hO, hB⟩ := hrel
    by_cases hlt : k < l.length
    · obtain ⟨b, hkb⟩ := getCh hlt
      obtain ⟨kb, ob, rfl, hbt⟩ := (hs.below hB) k b hkb
      obtain ⟨r2, k2, c0, c1, c2, q2, m2⟩ := hbt
      have hrl := hrec b (List.mem_of_getElem? hkb)
      have HK : Hid (l[k]? = some b) := hkb
      clear hs hkb
      go_wp2_with fail
      refine (toChan_any b _ _ _ q2 hrl).mono ?_
      rintro r w1 ⟨s2, rfl, H2, R2, hB1⟩
      have hR1 : w1.rowIs w.heap.size 78 (l.length * 3) f := hR.of_block (hB1.block _ hR.lt)
      have d0 := hR1.cell (i := k * 3) (by omega)
      have d1 := hR1.cell (i := k * 3 + 1) (by omega)
      have d2 := hR1.cell (i := k * 3 + 2) (by omega)
      replace R2 := R2.mono (B' := w.heap.size + 1) (by have := hR.lt; omega)
      have hf := hR1.frozen
      have hO1 := hO.below hB1
      have hBn := hB.trans (hB1.mono hB.size)
      clear hO hB hB1 hR
      go_wp2
      go_roundw
      case rel =>
        obtain ⟨g, hg, hOg⟩ := ChTo_step (k2 := b.way.length) hR1 hO1 HK.out H2 m2 R2
        exact ⟨k + 1, by omega, by go_num, g, hg, hOg, (((hBn.setCell (Nat.le_refl _) _).setCell (Nat.le_refl _) _).setCell (Nat.le_refl _) _)⟩
      case measure => simp [intOf]; omega
    · go_wp2
      go_ret
      obtain rfl : k = l.length := by omega
      exact ⟨_, rfl, Chs.of_to hR hO, ChsA.of_to hR hO, hB⟩

set_option maxHeartbeats 1000000 in
theorem eqChan_same (c : Ch) (r2 t2 : Option Addr) (k2 j2 : Nat) (w : World) (h2 : Ints w r2 c.way) (g2 : Ints w t2 c.way) (l2 : c.way.length ≤ maxLen) :
    Calls Try.prog 80 #[.agg #[.int .i64 c.fr, .int .i64 c.to, .slice r2 c.way.length k2], .agg #[.int .i64 c.fr, .int .i64 c.to, .slice t2 c.way.length j2]] w fun r w' => r = .returned (.bool true) ∧ Below w.heap.size w w' := by
  have HB : ∀ x y, Below w.heap.size w ((w.alloc x).alloc y) := fun _ _ => ((Below.refl _ _).alloc (Nat.le_refl _) _).alloc (by simp) _
  go_enter Try.func80, Try.ntmps80
  go_wp2_with fail
  refine (eqIntS_same _ _ _ _ _ _ (h2.below (HB _ _)) (g2.below (HB _ _)) l2).mono ?_
  rintro r w1 ⟨rfl, hB⟩
  have BB : Below w.heap.size w w1 := (HB _ _).trans (hB.mono (HB _ _).size)
  clear hB
  go_wp2
  go_ret
  exact ⟨rfl, BB⟩

set_option maxHeartbeats 1000000 in
theorem eqChanS_same (a a2 : Option Addr) (c c2 : Nat) (l : List Ch) (w : World) (hx : Chs w a l) (hy : Chs w a2 l) (hl : l.length ≤ maxLen) :
    Calls Try.prog 44 #[.slice a l.length c, .slice a2 l.length c2] w fun e w' => e = .returned (.bool true) ∧ Below w.heap.size w w' := by
  unfold maxLen at hl
  go_enter Try.func44, Try.ntmps44
  go_wp2
  go_loopw [5] (fun i wr => ∃ k : Nat, k ≤ l.length ∧ i = .int .i64 k ∧ Below w.heap.size w wr) (fun i _ => l.length - (intOf i).toNat)
  case atStart => exact ⟨0, Nat.zero_le _, rfl, Below.refl _ _⟩
  case round =>
    obtain ⟨k, hk, rfl, hB⟩ := hrel
    by_cases hlt : k < l.length
    · obtain ⟨b, hkb⟩ := getCh hlt
      obtain ⟨kb, ob, rfl, hbt⟩ := (hx.below hB) k b hkb
      obtain ⟨r2, k2, c0, c1, c2, q2, m2⟩ := hbt
      obtain ⟨kb2, ob2, rfl, hbt2⟩ := (hy.below hB) k b hkb
      obtain ⟨t2, j2, d0, d1, d2, g2, -⟩ := hbt2
      clear hx hy hkb
      go_wp2
      go_region_with (go_at_call 80; refine (eqChan_same _ _ _ _ _ _ ?_ ?_ m2).mono ?_; exact q2.below (Below.refl _ _).drew; exact g2.below (Below.refl _ _).drew; rintro r w1 ⟨rfl, hB1⟩)
      all_goals
        go_wp2
        go_roundw
        case rel => exact ⟨k + 1, by omega, by go_num, hB.drew.trans (hB1.mono (by simpa using hB.size))⟩
        case measure => simp [intOf]; omega
    · go_wp2
      go_ret
      exact ⟨rfl, hB⟩

end Go.Proofs.Ytaoecafibmfphaa
