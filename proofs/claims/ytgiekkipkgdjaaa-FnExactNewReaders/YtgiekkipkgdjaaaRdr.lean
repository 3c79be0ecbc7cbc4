/-
  Lists of Reader as a call reads them, and the contracts of the laws' helpers on them: szReader, szReaderS, toReader, toReaderS, eqReader, eqReaderS. Made by mkbag.py.
-/
import Derived.Test.YtgiekkipkgdjaaaBagAid
namespace Go.Proofs.Ytgiekkipkgdjaaa
open Go.RowKit

/-- One Reader: what its fields read. -/
structure Rx where
  inn : Bool
  gen : Int
  share : List Int
  read : List Int
deriving DecidableEq

/-- At block K, from cell o on, one lies. -/
def RxAt (w : World) (K o : Nat) (c : Rx) : Prop :=
  ∃ r2 k2 r3 k3, w.cell? ⟨K, o, none⟩ = some (.bool c.inn) ∧ w.cell? ⟨K, o + 1, none⟩ = some (.int .i64 c.gen) ∧ w.cell? ⟨K, o + 2, none⟩ = some (.slice r2 c.share.length k2) ∧ w.cell? ⟨K, o + 3, none⟩ = some (.slice r3 c.read.length k3) ∧ Ints w r2 c.share ∧ c.share.length ≤ maxLen ∧ Ints w r3 c.read ∧ c.read.length ≤ maxLen

/-- The slice value at 'a' reads as these. -/
def Rxs (w : World) (a : Option Addr) (l : List Rx) : Prop :=
  ∀ i c, l[i]? = some c → ∃ K o, a = some ⟨K, o, none⟩ ∧ RxAt w K (o + i * 4) c

theorem RxAt.below {w w' : World} {K o : Nat} {c : Rx} (h : RxAt w K o c) (hb : Below w.heap.size w w') : RxAt w' K o c := by
  obtain ⟨r2, k2, r3, k3, c0, c1, c2, c3, q2, m2, q3, m3⟩ := h
  have lt := lt_of_cell c0
  exact ⟨r2, k2, r3, k3, (hb.cell (p := ⟨K, o, none⟩) lt).trans c0, (hb.cell (p := ⟨K, o + 1, none⟩) lt).trans c1, (hb.cell (p := ⟨K, o + 2, none⟩) lt).trans c2, (hb.cell (p := ⟨K, o + 3, none⟩) lt).trans c3, q2.below hb, m2, q3.below hb, m3⟩

theorem Rxs.below {w w' : World} {a : Option Addr} {l : List Rx} (h : Rxs w a l) (hb : Below w.heap.size w w') : Rxs w' a l := fun i c hi => by
  obtain ⟨K, o, e, hB⟩ := h i c hi
  exact ⟨K, o, e, hB.below hb⟩

theorem Rxs.nil (w : World) (a : Option Addr) : Rxs w a [] := fun i f hi => by simp at hi

theorem getRx {l : List Rx} {k : Nat} (h : k < l.length) : ∃ s, l[k]? = some s := ⟨_, List.getElem?_eq_getElem h⟩

theorem takeRx_snoc {l : List Rx} {k : Nat} {s : Rx} (h : l[k]? = some s) : l.take (k + 1) = l.take k ++ [s] := by
  rw [List.take_add_one, h]; rfl

theorem dropRx_cons {l : List Rx} {k : Nat} {b : Rx} (h : l[k]? = some b) : l.drop k = b :: l.drop (k + 1) := by
  obtain ⟨hlt, e⟩ := List.getElem?_eq_some_iff.1 h
  rw [List.drop_eq_getElem_cons hlt, e]

def szRx (c : Rx) (left : Int) : Int := if szN c.share.length left < 0 then -1 else szN c.read.length (szN c.share.length left)

theorem szRx_range (c : Rx) {left : Int} (h0 : 0 ≤ left) : -1 ≤ szRx c left ∧ szRx c left ≤ left := by
  unfold szRx
  have e0 := szN_range c.share.length (left := left)
  have e1 := szN_range c.read.length (left := (szN c.share.length left))
  repeat' split
  all_goals omega

theorem szRx_bound {c : Rx} {left : Int} (h : 0 ≤ szRx c left) : (c.share.length : Int) ≤ left ∧ (c.read.length : Int) ≤ left := by
  unfold szRx szN at h
  repeat' split at h
  all_goals omega

set_option maxHeartbeats 1000000 in
theorem szReader_any (c : Rx) (r2 r3 : Option Addr) (k2 k3 : Nat) (left : Int) (w : World) (l2 : c.share.length ≤ maxLen) (l3 : c.read.length ≤ maxLen) (h0 : 0 ≤ left) (h1 : left ≤ 1048576) :
    Calls Try.prog 73 #[.agg #[.bool c.inn, .int .i64 c.gen, .slice r2 c.share.length k2, .slice r3 c.read.length k3], .int .i64 left] w fun r w' => r = .returned (.int .i64 (szRx c left)) ∧ Below w.heap.size w w' := by
  have e0 := szN_range c.share.length (left := left)
  have e1 := szN_range c.read.length (left := (szN c.share.length left))
  by_cases n0 : szN c.share.length left < 0
  · go_enter Try.func73, Try.ntmps73
    go_wp2_with (first | (go_at_call 50; refine (szIntN_any _ _ _ _ _ (by first | exact l2 | exact l3) (by omega) (by omega)).mono ?_; rintro e w' ⟨rfl, rfl⟩))
    go_ret
    exact ⟨ret_int (by unfold szRx; repeat' split
                       all_goals omega), (Below.refl _ _).alloc (Nat.le_refl _) _⟩
  by_cases n1 : szN c.read.length (szN c.share.length left) < 0
  · go_enter Try.func73, Try.ntmps73
    go_wp2_with (first | (go_at_call 50; refine (szIntN_any _ _ _ _ _ (by first | exact l2 | exact l3) (by omega) (by omega)).mono ?_; rintro e w' ⟨rfl, rfl⟩))
    go_ret
    exact ⟨ret_int (by unfold szRx; repeat' split
                       all_goals omega), (Below.refl _ _).alloc (Nat.le_refl _) _⟩
  go_enter Try.func73, Try.ntmps73
  go_wp2_with (first | (go_at_call 50; refine (szIntN_any _ _ _ _ _ (by first | exact l2 | exact l3) (by omega) (by omega)).mono ?_; rintro e w' ⟨rfl, rfl⟩))
  go_ret
  exact ⟨ret_int (by unfold szRx; repeat' split
                     all_goals omega), (Below.refl _ _).alloc (Nat.le_refl _) _⟩

/-- What szReaderS answers, one by one. -/
def szRxs' : List Rx → Int → Int
  | [], left => left
  | c :: r, left => if szRx c left < 0 then -1 else szRxs' r (szRx c left)

def szRxs (l : List Rx) (left : Int) : Int := if left - l.length < 0 then -1 else szRxs' l (left - l.length)

theorem szRxs'_range : ∀ (l : List Rx) (left : Int), 0 ≤ left → -1 ≤ szRxs' l left ∧ szRxs' l left ≤ left
  | [], left, h => by simp only [szRxs']; omega
  | c :: r, left, h => by
    have e := szRx_range c h
    simp only [szRxs']; split
    · omega
    · have := szRxs'_range r (szRx c left) (by omega)
      omega

theorem szRxs_range (l : List Rx) {left : Int} (h : 0 ≤ left) : -1 ≤ szRxs l left ∧ szRxs l left ≤ left := by
  unfold szRxs; split
  · omega
  · have := szRxs'_range l (left - l.length) (by omega)
    omega

theorem szRxs'_bound : ∀ (l : List Rx) (left : Int), left ≤ 1048576 → 0 ≤ left → 0 ≤ szRxs' l left → ∀ c, c ∈ l → c.share.length ≤ 1048576 ∧ c.read.length ≤ 1048576
  | [], left, _, _, _ => fun c hc => by simp at hc
  | d :: r, left, hl, h0, h => fun c hc => by
    simp only [szRxs'] at h; split at h
    · omega
    · have e := szRx_range d h0
      have e2 := szRx_bound (c := d) (left := left) (by omega)
      rcases List.mem_cons.1 hc with rfl | hc
      · omega
      · exact szRxs'_bound r (szRx d left) (by omega) (by omega) h c hc

theorem szRxs_bound {l : List Rx} {left : Int} (hl : left ≤ 1048576) (h : 0 ≤ szRxs l left) : l.length ≤ 1048576 ∧ ∀ c, c ∈ l → c.share.length ≤ 1048576 ∧ c.read.length ≤ 1048576 := by
  unfold szRxs at h; split at h
  · omega
  · exact ⟨by omega, szRxs'_bound l (left - l.length) (by omega) (by omega) h⟩

set_option maxHeartbeats 1000000 in
theorem szReaderS_any (a : Option Addr) (c : Nat) (l : List Rx) (left : Int) (w : World) (hs : Rxs w a l) (hl : l.length ≤ maxLen) (h0 : 0 ≤ left) (h1 : left ≤ 1048576) :
    Calls Try.prog 49 #[.slice a l.length c, .int .i64 left] w fun e w' => e = .returned (.int .i64 (szRxs l left)) ∧ Below w.heap.size w w' := by
  unfold maxLen at hl
  by_cases hn : left - (l.length : Int) < 0
  · go_enter Try.func49, Try.ntmps49
    go_wp2
    go_ret
    exact ⟨ret_int (by unfold szRxs; rw [if_pos hn]), Below.refl _ _⟩
  · go_enter Try.func49, Try.ntmps49
    go_wp2
    go_loopw [1, 5] (fun x i wr => ∃ k : Nat, k ≤ l.length ∧ i = .int .i64 k ∧ ∃ lf : Int, 0 ≤ lf ∧ lf ≤ 1048576 ∧ x = .int .i64 lf ∧ szRxs' (l.drop k) lf = szRxs' l (left - l.length) ∧ Below w.heap.size w wr) (fun _ i _ => l.length - (intOf i).toNat)
    case atStart => exact ⟨0, Nat.zero_le _, rfl, _, by omega, by omega, rfl, rfl, Below.refl _ _⟩
    case round =>
      obtain ⟨k, hk, rfl, lf, hlf, hlf2, rfl, hsz, hB⟩ := hrel
      by_cases hlt : k < l.length
      · obtain ⟨b, hkb⟩ := getRx hlt
        obtain ⟨kb, ob, rfl, hbt⟩ := (hs.below hB) k b hkb
        obtain ⟨r2, k2, r3, k3, c0, c1, c2, c3, q2, m2, q3, m3⟩ := hbt
        have HD : Hid (szRxs' (l.drop k) lf = szRxs' l (left - l.length)) := hsz
        clear hsz
        have hr := szRx_range b hlf
        go_wp2_with fail
        refine (szReader_any _ _ _ _ _ _ _ m2 m3 hlf hlf2).mono ?_
        rintro r w1 ⟨rfl, hB1⟩
        have hBn := hB.trans (hB1.mono hB.size)
        have HK : Hid (l.drop k = b :: l.drop (k + 1)) := dropRx_cons hkb
        clear hs hB1 hB hkb c0 c1 c2 c3
        by_cases hneg : szRx b lf < 0
        · go_wp2
          go_ret
          refine ⟨ret_int ?_, hBn⟩
          have e := HD.out
          rw [HK.out, szRxs', if_pos hneg] at e
          unfold szRxs; rw [if_neg (by omega), ← e]
        · go_wp2
          go_roundw
          case rel =>
            refine ⟨k + 1, by omega, by go_num, _, by omega, by omega, rfl, ?_, hBn⟩
            have e := HD.out
            rwa [HK.out, szRxs', if_neg (by omega)] at e
          case measure => simp [intOf]; omega
      · go_wp2
        go_ret
        refine ⟨ret_int ?_, hB⟩
        rw [List.drop_eq_nil_of_le (by omega)] at hsz
        unfold szRxs; rw [if_neg (by omega), ← hsz, szRxs']

/-- What toReader answers. -/
def RxNew (w w' : World) (c : Rx) (r : Ending) : Prop :=
  ∃ s2 s3, r = .returned (.agg #[.bool c.inn, .int .i64 c.gen, .slice s2 c.share.length c.share.length, .slice s3 c.read.length c.read.length]) ∧ Ints w' s2 c.share ∧ RowI w' w.heap.size s2 c.share.length ∧ Ints w' s3 c.read ∧ RowI w' w.heap.size s3 c.read.length ∧ Below w.heap.size w w'

set_option maxHeartbeats 2000000 in
theorem toReader_any (c : Rx) (r2 r3 : Option Addr) (k2 k3 : Nat) (w : World) (h2 : Ints w r2 c.share) (h3 : Ints w r3 c.read) (l2 : c.share.length ≤ 1048576) (l3 : c.read.length ≤ 1048576) :
    Calls Try.prog 76 #[.agg #[.bool c.inn, .int .i64 c.gen, .slice r2 c.share.length k2, .slice r3 c.read.length k3]] w fun r w' => RxNew w w' c r := by
  have hb3 : ∀ x y z, Below w.heap.size w (((w.alloc x).alloc y).alloc z) := fun _ _ _ => (((Below.refl _ _).alloc (Nat.le_refl _) _).alloc (by simp) _).alloc (by simp; omega) _
  go_enter Try.func76, Try.ntmps76
  go_wp2_with fail
  refine (toIntS_any _ _ _ _ (h2.below (hb3 _ _ _)) l2).mono ?_
  rintro r w1 ⟨s2, rfl, H2, R2, hB⟩
  have HB : Below w.heap.size w w1 := (hb3 _ _ _).trans (hB.mono (hb3 _ _ _).size)
  have p0 : w1.cell? ⟨w.heap.size, 0, none⟩ = some (.bool c.inn) := celB hB (by simp [go_sem])
  have p1 : w1.cell? ⟨w.heap.size, 1, none⟩ = some (.int .i64 c.gen) := celB hB (by simp [go_sem])
  have p2 : w1.cell? ⟨w.heap.size, 2, none⟩ = some (.slice r2 c.share.length k2) := celB hB (by simp [go_sem])
  have p3 : w1.cell? ⟨w.heap.size, 3, none⟩ = some (.slice r3 c.read.length k3) := celB hB (by simp [go_sem])
  have o0 : w1.cell? ⟨w.heap.size + 1 + 1, 0, none⟩ = some (.bool c.inn) := celB hB (by simp [go_sem])
  have o1 : w1.cell? ⟨w.heap.size + 1 + 1, 1, none⟩ = some (.int .i64 c.gen) := celB hB (by simp [go_sem])
  have o2 : w1.cell? ⟨w.heap.size + 1 + 1, 2, none⟩ = some (.slice none 0 0) := celB hB (by simp [go_sem])
  have o3 : w1.cell? ⟨w.heap.size + 1 + 1, 3, none⟩ = some (.slice none 0 0) := celB hB (by simp [go_sem])
  have t0 : w1.cell? ⟨w.heap.size + 1, 0, none⟩ = some (.bool false) := celB hB (by simp [go_sem])
  have t1 : w1.cell? ⟨w.heap.size + 1, 1, none⟩ = some (.int .i64 0) := celB hB (by simp [go_sem])
  have t2 : w1.cell? ⟨w.heap.size + 1, 2, none⟩ = some (.slice none 0 0) := celB hB (by simp [go_sem])
  have t3 : w1.cell? ⟨w.heap.size + 1, 3, none⟩ = some (.slice none 0 0) := celB hB (by simp [go_sem])
  have x0 : ∀ o, w1.frozen? ⟨w.heap.size, o, none⟩ = false := fun o => frzB hB (by simp; omega) (by simp [go_sem])
  have x1 : ∀ o, w1.frozen? ⟨w.heap.size + 1, o, none⟩ = false := fun o => frzB hB (by simp) (by simp [go_sem])
  have x2 : ∀ o, w1.frozen? ⟨w.heap.size + 1 + 1, o, none⟩ = false := fun o => frzB hB (by simp) (by simp [go_sem])
  have hz1 := hB.size
  simp only [World.size_alloc] at hz1 R2
  clear hB
  go_wp2_with fail
  obtain ⟨u, hu⟩ : ∃ u, (w1.setCell ⟨w.heap.size + 1 + 1, 2, none⟩ (.slice s2 c.share.length c.share.length)) = u := ⟨_, rfl⟩
  rw [hu]
  have HS : Below w.heap.size w u := by rw [← hu]; exact HB.setCell (by first | (simp; done) | (simp; omega)) _
  replace p0 : u.cell? ⟨w.heap.size, 0, none⟩ = some (.bool c.inn) := by rw [← hu]; simp [go_sem, p0]
  replace p1 : u.cell? ⟨w.heap.size, 1, none⟩ = some (.int .i64 c.gen) := by rw [← hu]; simp [go_sem, p1]
  replace p2 : u.cell? ⟨w.heap.size, 2, none⟩ = some (.slice r2 c.share.length k2) := by rw [← hu]; simp [go_sem, p2]
  replace p3 : u.cell? ⟨w.heap.size, 3, none⟩ = some (.slice r3 c.read.length k3) := by rw [← hu]; simp [go_sem, p3]
  replace o0 : u.cell? ⟨w.heap.size + 1 + 1, 0, none⟩ = some (.bool c.inn) := by rw [← hu]; simp [go_sem, o0]
  replace o1 : u.cell? ⟨w.heap.size + 1 + 1, 1, none⟩ = some (.int .i64 c.gen) := by rw [← hu]; simp [go_sem, o1]
  replace o2 : u.cell? ⟨w.heap.size + 1 + 1, 2, none⟩ = some (.slice s2 c.share.length c.share.length) := by rw [← hu]; simp [go_sem, o2]
  replace o3 : u.cell? ⟨w.heap.size + 1 + 1, 3, none⟩ = some (.slice none 0 0) := by rw [← hu]; simp [go_sem, o3]
  replace t0 : u.cell? ⟨w.heap.size + 1, 0, none⟩ = some (.bool false) := by rw [← hu]; simp [go_sem, t0]
  replace t1 : u.cell? ⟨w.heap.size + 1, 1, none⟩ = some (.int .i64 0) := by rw [← hu]; simp [go_sem, t1]
  replace t2 : u.cell? ⟨w.heap.size + 1, 2, none⟩ = some (.slice none 0 0) := by rw [← hu]; simp [go_sem, t2]
  replace t3 : u.cell? ⟨w.heap.size + 1, 3, none⟩ = some (.slice none 0 0) := by rw [← hu]; simp [go_sem, t3]
  replace x0 : ∀ o, u.frozen? ⟨w.heap.size, o, none⟩ = false := fun o => by rw [← hu]; simp [go_sem, x0]
  replace x1 : ∀ o, u.frozen? ⟨w.heap.size + 1, o, none⟩ = false := fun o => by rw [← hu]; simp [go_sem, x1]
  replace x2 : ∀ o, u.frozen? ⟨w.heap.size + 1 + 1, o, none⟩ = false := fun o => by rw [← hu]; simp [go_sem, x2]
  replace hz1 : w.heap.size + 1 + 1 + 1 ≤ u.heap.size := by rw [← hu]; simpa using hz1
  have H2' : Ints u s2 c.share := by rw [← hu]; exact H2.setR R2 (by omega) _ _
  have R2' : RowI u (w.heap.size + 1 + 1 + 1) s2 c.share.length := by rw [← hu]; exact R2.setR (by omega) _ _
  clear hu H2 R2
  refine (toIntS_any _ _ _ _ (h3.below HS) l3).mono ?_
  rintro r w2 ⟨s3, rfl, H3, R3, hB⟩
  have H2 := H2'.below hB
  have R2 := R2'.below hB
  replace p0 := celB hB p0
  replace o0 := celB hB o0
  replace t0 := celB hB t0
  replace p1 := celB hB p1
  replace o1 := celB hB o1
  replace t1 := celB hB t1
  replace p2 := celB hB p2
  replace o2 := celB hB o2
  replace t2 := celB hB t2
  replace p3 := celB hB p3
  replace o3 := celB hB o3
  replace t3 := celB hB t3
  replace x0 := fun o => frzB (o := o) hB (by omega) (x0 o)
  replace x1 := fun o => frzB (o := o) hB (by omega) (x1 o)
  replace x2 := fun o => frzB (o := o) hB (by omega) (x2 o)
  replace R3 := R3.mono (B' := w.heap.size + 1 + 1 + 1) (by omega)
  have HB : Below w.heap.size w w2 := HS.trans (hB.mono HS.size)
  have hz2 : w.heap.size + 1 + 1 + 1 ≤ w2.heap.size := by have := hB.size; omega
  clear hB HS hz1 
  go_wp2
  refine bodyPost_ret (v := .agg #[.bool c.inn, .int .i64 c.gen, .slice s2 c.share.length c.share.length, .slice s3 c.read.length c.read.length]) (by simp [results, Try.results76, go_sem, t0, t1, t2, t3]) rfl ⟨_, _, rfl, ?_, ?_, ?_, ?_, ?_⟩
  · exact (((((H2.setR R2 (by omega) _ _).setR (R2.setR (by omega) _ _) (by omega) _ _).setR ((R2.setR (by omega) _ _).setR (by omega) _ _) (by omega) _ _).setR (((R2.setR (by omega) _ _).setR (by omega) _ _).setR (by omega) _ _) (by omega) _ _).setR ((((R2.setR (by omega) _ _).setR (by omega) _ _).setR (by omega) _ _).setR (by omega) _ _) (by omega) _ _)
  · exact (((((R2.setR (by omega) _ _).setR (by omega) _ _).setR (by omega) _ _).setR (by omega) _ _).setR (by omega) _ _).mono (by omega)
  · exact (((((H3.setR R3 (by omega) _ _).setR (R3.setR (by omega) _ _) (by omega) _ _).setR ((R3.setR (by omega) _ _).setR (by omega) _ _) (by omega) _ _).setR (((R3.setR (by omega) _ _).setR (by omega) _ _).setR (by omega) _ _) (by omega) _ _).setR ((((R3.setR (by omega) _ _).setR (by omega) _ _).setR (by omega) _ _).setR (by omega) _ _) (by omega) _ _)
  · exact (((((R3.setR (by omega) _ _).setR (by omega) _ _).setR (by omega) _ _).setR (by omega) _ _).setR (by omega) _ _).mono (by omega)
  · exact (((((HB.setCell (by first | (simp; done) | (simp; omega)) _).setCell (by first | (simp; done) | (simp; omega)) _).setCell (by first | (simp; done) | (simp; omega)) _).setCell (by first | (simp; done) | (simp; omega)) _).setCell (by first | (simp; done) | (simp; omega)) _)

theorem Try.infoRx : (Try.prog.info? 67).map (fun i => (i.zero, i.size, i.bytes)) = some (some (.agg #[.bool false, .int .i64 0, .slice none 0 0, .slice none 0 0]), 4, 64) := by kernel_rfl

/-- The row at N holds the first k; their own lists lie behind N. -/
def RxTo (w : World) (N : Nat) (f : Nat → Value) (l : List Rx) (k : Nat) : Prop :=
  ∀ i c, i < k → l[i]? = some c → ∃ r2 k2 r3 k3, f (i * 4) = .bool c.inn ∧ f (i * 4 + 1) = .int .i64 c.gen ∧ f (i * 4 + 2) = .slice r2 c.share.length k2 ∧ f (i * 4 + 3) = .slice r3 c.read.length k3 ∧ Ints w r2 c.share ∧ c.share.length ≤ maxLen ∧ RowI w (N + 1) r2 c.share.length ∧ Ints w r3 c.read ∧ c.read.length ≤ maxLen ∧ RowI w (N + 1) r3 c.read.length ∧ c.share.length ≤ k2 ∧ c.read.length ≤ k3

theorem RxTo.below {w w' : World} {N : Nat} {f : Nat → Value} {l : List Rx} {k : Nat} (h : RxTo w N f l k) (hb : Below w.heap.size w w') : RxTo w' N f l k := fun i c hi hc => by
  obtain ⟨r2, k2, r3, k3, c0, c1, c2, c3, q2, m2, R2, q3, m3, R3, e2, e3⟩ := h i c hi hc
  exact ⟨r2, k2, r3, k3, c0, c1, c2, c3, q2.below hb, m2, R2.below hb, q3.below hb, m3, R3.below hb, e2, e3⟩

set_option maxHeartbeats 1000000 in
theorem RxTo_step {w : World} {N : Nat} {t : TypeId} {m : Nat} {f : Nat → Value} {l : List Rx} {k : Nat} {b : Rx} {r2 : Option Addr} {k2 : Nat} {r3 : Option Addr} {k3 : Nat} (hR : w.rowIs N t (m * 4) f) (hO : RxTo w N f l k) (hb : l[k]? = some b) (h2 : Ints w r2 b.share) (m2 : b.share.length ≤ maxLen) (R2 : RowI w (N + 1) r2 b.share.length) (h3 : Ints w r3 b.read) (m3 : b.read.length ≤ maxLen) (R3 : RowI w (N + 1) r3 b.read.length) (e2 : b.share.length ≤ k2) (e3 : b.read.length ≤ k3) :
    ∃ g, ((((w.setCell ⟨N, k * 4, none⟩ (.bool b.inn)).setCell ⟨N, k * 4 + 1, none⟩ (.int .i64 b.gen)).setCell ⟨N, k * 4 + 2, none⟩ (.slice r2 b.share.length k2)).setCell ⟨N, k * 4 + 3, none⟩ (.slice r3 b.read.length k3)).rowIs N t (m * 4) g ∧ RxTo ((((w.setCell ⟨N, k * 4, none⟩ (.bool b.inn)).setCell ⟨N, k * 4 + 1, none⟩ (.int .i64 b.gen)).setCell ⟨N, k * 4 + 2, none⟩ (.slice r2 b.share.length k2)).setCell ⟨N, k * 4 + 3, none⟩ (.slice r3 b.read.length k3)) N g l (k + 1) := by
  refine ⟨_, ((((hR.set _ _).set _ _).set _ _).set _ _), fun i c hi hc => ?_⟩
  by_cases e : i = k
  · subst e
    obtain rfl : b = c := by rw [hb] at hc; simpa using hc
    refine ⟨r2, k2, r3, k3, ?_, ?_, ?_, ?_, ((((h2.setR R2 (by omega) _ _).setR (R2.setR (by omega) _ _) (by omega) _ _).setR ((R2.setR (by omega) _ _).setR (by omega) _ _) (by omega) _ _).setR (((R2.setR (by omega) _ _).setR (by omega) _ _).setR (by omega) _ _) (by omega) _ _), m2, ((((R2.setR (by omega) _ _).setR (by omega) _ _).setR (by omega) _ _).setR (by omega) _ _), ((((h3.setR R3 (by omega) _ _).setR (R3.setR (by omega) _ _) (by omega) _ _).setR ((R3.setR (by omega) _ _).setR (by omega) _ _) (by omega) _ _).setR (((R3.setR (by omega) _ _).setR (by omega) _ _).setR (by omega) _ _) (by omega) _ _), m3, ((((R3.setR (by omega) _ _).setR (by omega) _ _).setR (by omega) _ _).setR (by omega) _ _), e2, e3⟩ <;> simp
  · obtain ⟨r2', k2', r3', k3', c0, c1, c2, c3, q2, m2', S2, q3, m3', S3, e2', e3'⟩ := hO i c (by omega) hc
    refine ⟨r2', k2', r3', k3', ?_, ?_, ?_, ?_, ((((q2.setR S2 (by omega) _ _).setR (S2.setR (by omega) _ _) (by omega) _ _).setR ((S2.setR (by omega) _ _).setR (by omega) _ _) (by omega) _ _).setR (((S2.setR (by omega) _ _).setR (by omega) _ _).setR (by omega) _ _) (by omega) _ _), m2', ((((S2.setR (by omega) _ _).setR (by omega) _ _).setR (by omega) _ _).setR (by omega) _ _), ((((q3.setR S3 (by omega) _ _).setR (S3.setR (by omega) _ _) (by omega) _ _).setR ((S3.setR (by omega) _ _).setR (by omega) _ _) (by omega) _ _).setR (((S3.setR (by omega) _ _).setR (by omega) _ _).setR (by omega) _ _) (by omega) _ _), m3', ((((S3.setR (by omega) _ _).setR (by omega) _ _).setR (by omega) _ _).setR (by omega) _ _), e2', e3'⟩
    · rw [if_neg (by omega), if_neg (by omega), if_neg (by omega), if_neg (by omega)]; exact c0
    · rw [if_neg (by omega), if_neg (by omega), if_neg (by omega), if_neg (by omega)]; exact c1
    · rw [if_neg (by omega), if_neg (by omega), if_neg (by omega), if_neg (by omega)]; exact c2
    · rw [if_neg (by omega), if_neg (by omega), if_neg (by omega), if_neg (by omega)]; exact c3

theorem Rxs.of_to {w : World} {N : Nat} {t : TypeId} {f : Nat → Value} {l : List Rx} (hR : w.rowIs N t (l.length * 4) f) (hO : RxTo w N f l l.length) : Rxs w (some ⟨N, 0, none⟩) l := fun i c hi => by
  have hlt := (List.getElem?_eq_some_iff.1 hi).1
  obtain ⟨r2, k2, r3, k3, c0, c1, c2, c3, q2, m2, -, q3, m3, -, -, -⟩ := hO i c hlt hi
  refine ⟨N, 0, rfl, r2, k2, r3, k3, ?_, ?_, ?_, ?_, q2, m2, q3, m3⟩
  · rw [Nat.zero_add, hR.cell (by omega), c0]
  · rw [Nat.zero_add, hR.cell (by omega), c1]
  · rw [Nat.zero_add, hR.cell (by omega), c2]
  · rw [Nat.zero_add, hR.cell (by omega), c3]

/-- Their lists are no longer than they have room for. -/
def RxsK (w : World) (a : Option Addr) (l : List Rx) : Prop :=
  ∀ i c, l[i]? = some c → ∃ K o r2 k2 r3 k3, a = some ⟨K, o, none⟩ ∧ w.cell? ⟨K, o + i * 4 + 2, none⟩ = some (.slice r2 c.share.length k2) ∧ c.share.length ≤ k2 ∧ w.cell? ⟨K, o + i * 4 + 3, none⟩ = some (.slice r3 c.read.length k3) ∧ c.read.length ≤ k3

theorem RxsK.below {w w' : World} {a : Option Addr} {l : List Rx} (h : RxsK w a l) (hb : Below w.heap.size w w') : RxsK w' a l := fun i c hi => by
  obtain ⟨K, o, r2, k2, r3, k3, e, x2, y2, x3, y3⟩ := h i c hi
  exact ⟨K, o, r2, k2, r3, k3, e, celB hb x2, y2, celB hb x3, y3⟩

theorem RxsK.of_to {w : World} {N : Nat} {t : TypeId} {f : Nat → Value} {l : List Rx} (hR : w.rowIs N t (l.length * 4) f) (hO : RxTo w N f l l.length) : RxsK w (some ⟨N, 0, none⟩) l := fun i c hi => by
  have hlt := (List.getElem?_eq_some_iff.1 hi).1
  obtain ⟨r2, k2, r3, k3, c0, c1, c2, c3, -, -, -, -, -, -, e2, e3⟩ := hO i c hlt hi
  refine ⟨N, 0, r2, k2, r3, k3, rfl, ?_, e2, ?_, e3⟩
  · rw [Nat.zero_add, hR.cell (by omega), c2]
  · rw [Nat.zero_add, hR.cell (by omega), c3]

/-- It reads so, and all of it lies in blocks from B on. -/
def RxsA (w : World) (B : Nat) (a : Option Addr) (l : List Rx) : Prop := ∀ w2 : World, (∀ b, B ≤ b → b < w.heap.size → w2.heap[b]? = w.heap[b]?) → Rxs w2 a l ∧ RxsK w2 a l

theorem RxsA.here {w : World} {B : Nat} {a : Option Addr} {l : List Rx} (h : RxsA w B a l) : Rxs w a l := (h w fun _ _ _ => rfl).1

theorem RxsA.hereK {w : World} {B : Nat} {a : Option Addr} {l : List Rx} (h : RxsA w B a l) : RxsK w a l := (h w fun _ _ _ => rfl).2

theorem RxsA.below {w w' : World} {B : Nat} {a : Option Addr} {l : List Rx} (h : RxsA w B a l) (hb : Below w.heap.size w w') : RxsA w' B a l := fun w2 h2 =>
  h w2 fun b h1 hl => (h2 b h1 (by have := hb.size; omega)).trans (hb.block b hl)

theorem RxsA.mono {w : World} {B B' : Nat} {a : Option Addr} {l : List Rx} (h : RxsA w B a l) (hb : B' ≤ B) : RxsA w B' a l := fun w2 h2 =>
  h w2 fun b h1 hl => h2 b (by omega) hl

theorem RxsA.setR {w : World} {B N : Nat} {a : Option Addr} {l : List Rx} (h : RxsA w B a l) (hN : N < B) (o : Nat) (v : Value) : RxsA (w.setCell ⟨N, o, none⟩ v) B a l := fun w2 h2 =>
  h w2 fun b h1 hl => (h2 b h1 (by simpa using hl)).trans (Below.heap_setCell w ⟨N, o, none⟩ v b (by simp; omega))

theorem RxsA.of_to {w : World} {N : Nat} {t : TypeId} {f : Nat → Value} {l : List Rx} (hR : w.rowIs N t (l.length * 4) f) (hO : RxTo w N f l l.length) : RxsA w N (some ⟨N, 0, none⟩) l := fun w2 h2 => by
  have hO2 : RxTo w2 N f l l.length := fun i c hi hc => by
    obtain ⟨r2, k2, r3, k3, c0, c1, c2, c3, q2, m2, R2, q3, m3, R3, e2, e3⟩ := hO i c hi hc
    exact ⟨r2, k2, r3, k3, c0, c1, c2, c3, q2.of_block fun b hb => h2 b (by have := (R2.lt hb).1; omega) (R2.lt hb).2, m2, R2.of_block fun b hb => h2 b (by have := (R2.lt hb).1; omega) (R2.lt hb).2, q3.of_block fun b hb => h2 b (by have := (R3.lt hb).1; omega) (R3.lt hb).2, m3, R3.of_block fun b hb => h2 b (by have := (R3.lt hb).1; omega) (R3.lt hb).2, e2, e3⟩
  exact ⟨Rxs.of_to (hR.of_block (h2 N (Nat.le_refl _) hR.lt)) hO2, RxsK.of_to (hR.of_block (h2 N (Nat.le_refl _) hR.lt)) hO2⟩

set_option maxHeartbeats 2000000 in
theorem toReaderS_any (a : Option Addr) (c : Nat) (l : List Rx) (w : World) (hs : Rxs w a l) (hl : l.length ≤ 1048576) (hrec : ∀ c, c ∈ l → c.share.length ≤ 1048576 ∧ c.read.length ≤ 1048576) :
    Calls Try.prog 52 #[.slice a l.length c] w fun e w' => ∃ a', e = .returned (.slice a' l.length l.length) ∧ Rxs w' a' l ∧ RxsA w' w.heap.size a' l ∧ Below w.heap.size w w' := by
  have hmk := run_make_manyV (P := Try.prog) 23 67 _ 4 64 Try.underlying23 Try.infoRx .i64 .i64 l.length (by omega) (by omega)
  go_enter Try.func52, Try.ntmps52
  go_wp2
  have hB : ∀ o, Below w.heap.size w (w.alloc o) := fun o => (Below.refl _ _).alloc (Nat.le_refl _) o
  go_loopw [4] (fun i wr => ∃ k : Nat, k ≤ l.length ∧ i = .int .i64 k ∧ ∃ f, wr.rowIs w.heap.size 67 (l.length * 4) f ∧ RxTo wr w.heap.size f l k ∧ Below w.heap.size w wr) (fun i _ => l.length - (intOf i).toNat)
  case atStart => exact ⟨0, Nat.zero_le _, rfl, _, by simpa [size_madeCells] using rowIs_of_allocV w (madeCells _ (l.length * 4)) 67, fun i b hi => absurd hi (Nat.not_lt_zero _), hB _⟩
  case round =>
    clear hB
    obtain ⟨k, hk, rfl, f, hR, hO, hB⟩ := hrel
    by_cases hlt : k < l.length
    · obtain ⟨b, hkb⟩ := getRx hlt
      obtain ⟨kb, ob, rfl, hbt⟩ := (hs.below hB) k b hkb
      obtain ⟨r2, k2, r3, k3, c0, c1, c2, c3, q2, m2, q3, m3⟩ := hbt
      have hrl := hrec b (List.mem_of_getElem? hkb)
      have HK : Hid (l[k]? = some b) := hkb
      clear hs hkb
      go_wp2_with fail
      refine (toReader_any b _ _ _ _ _ q2 q3 hrl.1 hrl.2).mono ?_
      rintro r w1 ⟨s2, s3, rfl, H2, R2, H3, R3, hB1⟩
      have hR1 : w1.rowIs w.heap.size 67 (l.length * 4) f := hR.of_block (hB1.block _ hR.lt)
      have d0 := hR1.cell (i := k * 4) (by omega)
      have d1 := hR1.cell (i := k * 4 + 1) (by omega)
      have d2 := hR1.cell (i := k * 4 + 2) (by omega)
      have d3 := hR1.cell (i := k * 4 + 3) (by omega)
      replace R2 := R2.mono (B' := w.heap.size + 1) (by have := hR.lt; omega)
      replace R3 := R3.mono (B' := w.heap.size + 1) (by have := hR.lt; omega)
      have hf := hR1.frozen
      have hO1 := hO.below hB1
      have hBn := hB.trans (hB1.mono hB.size)
      clear hO hB hB1 hR
      go_wp2
      go_roundw
      case rel =>
        obtain ⟨g, hg, hOg⟩ := RxTo_step (k2 := b.share.length) (k3 := b.read.length) hR1 hO1 HK.out H2 m2 R2 H3 m3 R3 (Nat.le_refl _) (Nat.le_refl _)
        exact ⟨k + 1, by omega, by go_num, g, hg, hOg, ((((hBn.setCell (Nat.le_refl _) _).setCell (Nat.le_refl _) _).setCell (Nat.le_refl _) _).setCell (Nat.le_refl _) _)⟩
      case measure => simp [intOf]; omega
    · go_wp2
      go_ret
      obtain rfl : k = l.length := by omega
      exact ⟨_, rfl, Rxs.of_to hR hO, RxsA.of_to hR hO, hB⟩

set_option maxHeartbeats 1000000 in
theorem eqReader_same (c : Rx) (r2 t2 r3 t3 : Option Addr) (k2 j2 k3 j3 : Nat) (w : World) (h2 : Ints w r2 c.share) (g2 : Ints w t2 c.share) (l2 : c.share.length ≤ maxLen) (h3 : Ints w r3 c.read) (g3 : Ints w t3 c.read) (l3 : c.read.length ≤ maxLen) :
    Calls Try.prog 72 #[.agg #[.bool c.inn, .int .i64 c.gen, .slice r2 c.share.length k2, .slice r3 c.read.length k3], .agg #[.bool c.inn, .int .i64 c.gen, .slice t2 c.share.length j2, .slice t3 c.read.length j3]] w fun r w' => r = .returned (.bool true) ∧ Below w.heap.size w w' := by
  have b0 : (c.inn != c.inn) = false := by simp
  have b0' : (!(c.inn == c.inn)) = false := by simp
  have HB : ∀ x y, Below w.heap.size w ((w.alloc x).alloc y) := fun _ _ => ((Below.refl _ _).alloc (Nat.le_refl _) _).alloc (by simp) _
  go_enter Try.func72, Try.ntmps72
  go_wp2_with fail
  refine (eqIntS_same _ _ _ _ _ _ (h2.below (HB _ _)) (g2.below (HB _ _)) l2).mono ?_
  rintro r w1 ⟨rfl, hB⟩
  have p3 : w1.cell? ⟨w.heap.size, 3, none⟩ = some (.slice r3 c.read.length k3) := celB hB (by simp [go_sem])
  have o3 : w1.cell? ⟨w.heap.size + 1, 3, none⟩ = some (.slice t3 c.read.length j3) := celB hB (by simp [go_sem])
  have BB : Below w.heap.size w w1 := (HB _ _).trans (hB.mono (HB _ _).size)
  clear hB
  go_wp2_with fail
  refine (eqIntS_same _ _ _ _ _ _ (h3.below BB) (g3.below BB) l3).mono ?_
  rintro r w2 ⟨rfl, hB⟩
  replace BB : Below w.heap.size w w2 := BB.trans (hB.mono BB.size)
  clear hB
  go_wp2
  go_ret
  exact ⟨rfl, BB⟩

set_option maxHeartbeats 1000000 in
theorem eqReaderS_same (a a2 : Option Addr) (c c2 : Nat) (l : List Rx) (w : World) (hx : Rxs w a l) (hy : Rxs w a2 l) (hl : l.length ≤ maxLen) :
    Calls Try.prog 46 #[.slice a l.length c, .slice a2 l.length c2] w fun e w' => e = .returned (.bool true) ∧ Below w.heap.size w w' := by
  unfold maxLen at hl
  go_enter Try.func46, Try.ntmps46
  go_wp2
  go_loopw [5] (fun i wr => ∃ k : Nat, k ≤ l.length ∧ i = .int .i64 k ∧ Below w.heap.size w wr) (fun i _ => l.length - (intOf i).toNat)
  case atStart => exact ⟨0, Nat.zero_le _, rfl, Below.refl _ _⟩
  case round =>
    obtain ⟨k, hk, rfl, hB⟩ := hrel
    by_cases hlt : k < l.length
    · obtain ⟨b, hkb⟩ := getRx hlt
      obtain ⟨kb, ob, rfl, hbt⟩ := (hx.below hB) k b hkb
      obtain ⟨r2, k2, r3, k3, c0, c1, c2, c3, q2, m2, q3, m3⟩ := hbt
      obtain ⟨kb2, ob2, rfl, hbt2⟩ := (hy.below hB) k b hkb
      obtain ⟨t2, j2, t3, j3, d0, d1, d2, d3, g2, -, g3, -⟩ := hbt2
      clear hx hy hkb
      go_wp2
      go_region_with (go_at_call 72; refine (eqReader_same _ _ _ _ _ _ _ _ _ _ ?_ ?_ m2 ?_ ?_ m3).mono ?_; exact q2.below (Below.refl _ _).drew; exact g2.below (Below.refl _ _).drew; exact q3.below (Below.refl _ _).drew; exact g3.below (Below.refl _ _).drew; rintro r w1 ⟨rfl, hB1⟩)
      all_goals
        go_wp2
        go_roundw
        case rel => exact ⟨k + 1, by omega, by go_num, hB.drew.trans (hB1.mono (by simpa using hB.size))⟩
        case measure => simp [intOf]; omega
    · go_wp2
      go_ret
      exact ⟨rfl, hB⟩

end Go.Proofs.Ytgiekkipkgdjaaa
