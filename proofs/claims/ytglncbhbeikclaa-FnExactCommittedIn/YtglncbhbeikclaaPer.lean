/-
  Lists of Peer as a call reads them, and the contracts of the laws' helpers on them: szPeer, szPeerS, toPeer, toPeerS, eqPeer, eqPeerS. Made by mkbag.py.
-/
import Derived.Test.YtglncbhbeikclaaBagAid
import Derived.Test.YtglncbhbeikclaaEry
namespace Go.Proofs.Ytglncbhbeikclaa
open Go.RowKit

/-- One Peer: what its fields read. -/
structure Pe where
  term : Int
  leads : Bool
  log : List En
  commit : Int
  mat : List Int
deriving DecidableEq

/-- At block K, from cell o on, one lies. -/
def PeAt (w : World) (K o : Nat) (c : Pe) : Prop :=
  ∃ r2 k2 r4 k4, w.cell? ⟨K, o, none⟩ = some (.int .i64 c.term) ∧ w.cell? ⟨K, o + 1, none⟩ = some (.bool c.leads) ∧ w.cell? ⟨K, o + 2, none⟩ = some (.slice r2 c.log.length k2) ∧ w.cell? ⟨K, o + 3, none⟩ = some (.int .i64 c.commit) ∧ w.cell? ⟨K, o + 4, none⟩ = some (.slice r4 c.mat.length k4) ∧ Ens w r2 c.log ∧ c.log.length ≤ maxLen ∧ Ints w r4 c.mat ∧ c.mat.length ≤ maxLen

/-- The slice value at 'a' reads as these. -/
def Pes (w : World) (a : Option Addr) (l : List Pe) : Prop :=
  ∀ i c, l[i]? = some c → ∃ K o, a = some ⟨K, o, none⟩ ∧ PeAt w K (o + i * 5) c

theorem PeAt.below {w w' : World} {K o : Nat} {c : Pe} (h : PeAt w K o c) (hb : Below w.heap.size w w') : PeAt w' K o c := by
  obtain ⟨r2, k2, r4, k4, c0, c1, c2, c3, c4, q2, m2, q4, m4⟩ := h
  have lt := lt_of_cell c0
  exact ⟨r2, k2, r4, k4, (hb.cell (p := ⟨K, o, none⟩) lt).trans c0, (hb.cell (p := ⟨K, o + 1, none⟩) lt).trans c1, (hb.cell (p := ⟨K, o + 2, none⟩) lt).trans c2, (hb.cell (p := ⟨K, o + 3, none⟩) lt).trans c3, (hb.cell (p := ⟨K, o + 4, none⟩) lt).trans c4, q2.below hb, m2, q4.below hb, m4⟩

theorem Pes.below {w w' : World} {a : Option Addr} {l : List Pe} (h : Pes w a l) (hb : Below w.heap.size w w') : Pes w' a l := fun i c hi => by
  obtain ⟨K, o, e, hB⟩ := h i c hi
  exact ⟨K, o, e, hB.below hb⟩

theorem Pes.nil (w : World) (a : Option Addr) : Pes w a [] := fun i f hi => by simp at hi

theorem getPe {l : List Pe} {k : Nat} (h : k < l.length) : ∃ s, l[k]? = some s := ⟨_, List.getElem?_eq_getElem h⟩

theorem takePe_snoc {l : List Pe} {k : Nat} {s : Pe} (h : l[k]? = some s) : l.take (k + 1) = l.take k ++ [s] := by
  rw [List.take_add_one, h]; rfl

theorem dropPe_cons {l : List Pe} {k : Nat} {b : Pe} (h : l[k]? = some b) : l.drop k = b :: l.drop (k + 1) := by
  obtain ⟨hlt, e⟩ := List.getElem?_eq_some_iff.1 h
  rw [List.drop_eq_getElem_cons hlt, e]

def szPe (c : Pe) (left : Int) : Int := if szN c.log.length left < 0 then -1 else szN c.mat.length (szN c.log.length left)

theorem szPe_range (c : Pe) {left : Int} (h0 : 0 ≤ left) : -1 ≤ szPe c left ∧ szPe c left ≤ left := by
  unfold szPe
  have e0 := szN_range c.log.length (left := left)
  have e1 := szN_range c.mat.length (left := (szN c.log.length left))
  repeat' split
  all_goals omega

theorem szPe_bound {c : Pe} {left : Int} (h : 0 ≤ szPe c left) : (c.log.length : Int) ≤ left ∧ (c.mat.length : Int) ≤ left := by
  unfold szPe szN at h
  repeat' split at h
  all_goals omega

set_option maxHeartbeats 1000000 in
theorem szPeer_any (c : Pe) (r2 r4 : Option Addr) (k2 k4 : Nat) (left : Int) (w : World) (l2 : c.log.length ≤ maxLen) (l4 : c.mat.length ≤ maxLen) (h0 : 0 ≤ left) (h1 : left ≤ 1048576) :
    Calls Try.prog 64 #[.agg #[.int .i64 c.term, .bool c.leads, .slice r2 c.log.length k2, .int .i64 c.commit, .slice r4 c.mat.length k4], .int .i64 left] w fun r w' => r = .returned (.int .i64 (szPe c left)) ∧ Below w.heap.size w w' := by
  have e0 := szN_range c.log.length (left := left)
  have e1 := szN_range c.mat.length (left := (szN c.log.length left))
  by_cases n0 : szN c.log.length left < 0
  · go_enter Try.func64, Try.ntmps64
    go_wp2_with (first | (go_at_call 23; refine (szEntryS_any _ _ _ _ _ (by first | exact l2) (by omega) (by omega)).mono ?_; rintro e w' ⟨rfl, rfl⟩) | (go_at_call 76; refine (szIntN_any _ _ _ _ _ (by first | exact l4) (by omega) (by omega)).mono ?_; rintro e w' ⟨rfl, rfl⟩))
    go_ret
    exact ⟨ret_int (by unfold szPe; repeat' split
                       all_goals omega), (Below.refl _ _).alloc (Nat.le_refl _) _⟩
  by_cases n1 : szN c.mat.length (szN c.log.length left) < 0
  · go_enter Try.func64, Try.ntmps64
    go_wp2_with (first | (go_at_call 23; refine (szEntryS_any _ _ _ _ _ (by first | exact l2) (by omega) (by omega)).mono ?_; rintro e w' ⟨rfl, rfl⟩) | (go_at_call 76; refine (szIntN_any _ _ _ _ _ (by first | exact l4) (by omega) (by omega)).mono ?_; rintro e w' ⟨rfl, rfl⟩))
    go_ret
    exact ⟨ret_int (by unfold szPe; repeat' split
                       all_goals omega), (Below.refl _ _).alloc (Nat.le_refl _) _⟩
  go_enter Try.func64, Try.ntmps64
  go_wp2_with (first | (go_at_call 23; refine (szEntryS_any _ _ _ _ _ (by first | exact l2) (by omega) (by omega)).mono ?_; rintro e w' ⟨rfl, rfl⟩) | (go_at_call 76; refine (szIntN_any _ _ _ _ _ (by first | exact l4) (by omega) (by omega)).mono ?_; rintro e w' ⟨rfl, rfl⟩))
  go_ret
  exact ⟨ret_int (by unfold szPe; repeat' split
                     all_goals omega), (Below.refl _ _).alloc (Nat.le_refl _) _⟩

/-- What szPeerS answers, one by one. -/
def szPes' : List Pe → Int → Int
  | [], left => left
  | c :: r, left => if szPe c left < 0 then -1 else szPes' r (szPe c left)

def szPes (l : List Pe) (left : Int) : Int := if left - l.length < 0 then -1 else szPes' l (left - l.length)

theorem szPes'_range : ∀ (l : List Pe) (left : Int), 0 ≤ left → -1 ≤ szPes' l left ∧ szPes' l left ≤ left
  | [], left, h => by simp only [szPes']; omega
  | c :: r, left, h => by
    have e := szPe_range c h
    simp only [szPes']; split
    · omega
    · have := szPes'_range r (szPe c left) (by omega)
      omega

theorem szPes_range (l : List Pe) {left : Int} (h : 0 ≤ left) : -1 ≤ szPes l left ∧ szPes l left ≤ left := by
  unfold szPes; split
  · omega
  · have := szPes'_range l (left - l.length) (by omega)
    omega

theorem szPes'_bound : ∀ (l : List Pe) (left : Int), left ≤ 1048576 → 0 ≤ left → 0 ≤ szPes' l left → ∀ c, c ∈ l → c.log.length ≤ 1048576 ∧ c.mat.length ≤ 1048576
  | [], left, _, _, _ => fun c hc => by simp at hc
  | d :: r, left, hl, h0, h => fun c hc => by
    simp only [szPes'] at h; split at h
    · omega
    · have e := szPe_range d h0
      have e2 := szPe_bound (c := d) (left := left) (by omega)
      rcases List.mem_cons.1 hc with rfl | hc
      · omega
      · exact szPes'_bound r (szPe d left) (by omega) (by omega) h c hc

theorem szPes_bound {l : List Pe} {left : Int} (hl : left ≤ 1048576) (h : 0 ≤ szPes l left) : l.length ≤ 1048576 ∧ ∀ c, c ∈ l → c.log.length ≤ 1048576 ∧ c.mat.length ≤ 1048576 := by
  unfold szPes at h; split at h
  · omega
  · exact ⟨by omega, szPes'_bound l (left - l.length) (by omega) (by omega) h⟩

set_option maxHeartbeats 1000000 in
theorem szPeerS_any (a : Option Addr) (c : Nat) (l : List Pe) (left : Int) (w : World) (hs : Pes w a l) (hl : l.length ≤ maxLen) (h0 : 0 ≤ left) (h1 : left ≤ 1048576) :
    Calls Try.prog 43 #[.slice a l.length c, .int .i64 left] w fun e w' => e = .returned (.int .i64 (szPes l left)) ∧ Below w.heap.size w w' := by
  unfold maxLen at hl
  by_cases hn : left - (l.length : Int) < 0
  · go_enter Try.func43, Try.ntmps43
    go_wp2
    go_ret
    exact ⟨ret_int (by unfold szPes; rw [if_pos hn]), Below.refl _ _⟩
  · go_enter Try.func43, Try.ntmps43
    go_wp2
    go_loopw [1, 5] (fun x i wr => ∃ k : Nat, k ≤ l.length ∧ i = .int .i64 k ∧ ∃ lf : Int, 0 ≤ lf ∧ lf ≤ 1048576 ∧ x = .int .i64 lf ∧ szPes' (l.drop k) lf = szPes' l (left - l.length) ∧ Below w.heap.size w wr) (fun _ i _ => l.length - (intOf i).toNat)
    case atStart => exact ⟨0, Nat.zero_le _, rfl, _, by omega, by omega, rfl, rfl, Below.refl _ _⟩
    case round =>
      obtain ⟨k, hk, rfl, lf, hlf, hlf2, rfl, hsz, hB⟩ := hrel
      by_cases hlt : k < l.length
      · obtain ⟨b, hkb⟩ := getPe hlt
        obtain ⟨kb, ob, rfl, hbt⟩ := (hs.below hB) k b hkb
        obtain ⟨r2, k2, r4, k4, c0, c1, c2, c3, c4, q2, m2, q4, m4⟩ := hbt
        have HD : Hid (szPes' (l.drop k) lf = szPes' l (left - l.length)) := hsz
        clear hsz
        have hr := szPe_range b hlf
        go_wp2_with fail
        refine (szPeer_any _ _ _ _ _ _ _ m2 m4 hlf hlf2).mono ?_
        rintro r w1 ⟨rfl, hB1⟩
        have hBn := hB.trans (hB1.mono hB.size)
        have HK : Hid (l.drop k = b :: l.drop (k + 1)) := dropPe_cons hkb
        clear hs hB1 hB hkb c0 c1 c2 c3 c4
        by_cases hneg : szPe b lf < 0
        · go_wp2
          go_ret
          refine ⟨ret_int ?_, hBn⟩
          have e := HD.out
          rw [HK.out, szPes', if_pos hneg] at e
          unfold szPes; rw [if_neg (by omega), ← e]
        · go_wp2
          go_roundw
          case rel =>
            refine ⟨k + 1, by omega, by go_num, _, by omega, by omega, rfl, ?_, hBn⟩
            have e := HD.out
            rwa [HK.out, szPes', if_neg (by omega)] at e
          case measure => simp [intOf]; omega
      · go_wp2
        go_ret
        refine ⟨ret_int ?_, hB⟩
        rw [List.drop_eq_nil_of_le (by omega)] at hsz
        unfold szPes; rw [if_neg (by omega), ← hsz, szPes']

/-- What toPeer answers. -/
def PeNew (w w' : World) (c : Pe) (r : Ending) : Prop :=
  ∃ s2 s4, r = .returned (.agg #[.int .i64 c.term, .bool c.leads, .slice s2 c.log.length c.log.length, .int .i64 c.commit, .slice s4 c.mat.length c.mat.length]) ∧ Ens w' s2 c.log ∧ RowEn w' w.heap.size s2 c.log.length ∧ Ints w' s4 c.mat ∧ RowI w' w.heap.size s4 c.mat.length ∧ Below w.heap.size w w'

set_option maxHeartbeats 2000000 in
theorem toPeer_any (c : Pe) (r2 r4 : Option Addr) (k2 k4 : Nat) (w : World) (h2 : Ens w r2 c.log) (h4 : Ints w r4 c.mat) (l2 : c.log.length ≤ 1048576) (l4 : c.mat.length ≤ 1048576) :
    Calls Try.prog 66 #[.agg #[.int .i64 c.term, .bool c.leads, .slice r2 c.log.length k2, .int .i64 c.commit, .slice r4 c.mat.length k4]] w fun r w' => PeNew w w' c r := by
  have hb3 : ∀ x y z, Below w.heap.size w (((w.alloc x).alloc y).alloc z) := fun _ _ _ => (((Below.refl _ _).alloc (Nat.le_refl _) _).alloc (by simp) _).alloc (by simp; omega) _
  go_enter Try.func66, Try.ntmps66
  go_wp2_with fail
  refine (toEntryS_row _ _ _ _ (h2.below (hb3 _ _ _)) l2).mono ?_
  rintro r w1 ⟨s2, rfl, H2, R2, hB⟩
  have HB : Below w.heap.size w w1 := (hb3 _ _ _).trans (hB.mono (hb3 _ _ _).size)
  have p0 : w1.cell? ⟨w.heap.size, 0, none⟩ = some (.int .i64 c.term) := celB hB (by simp [go_sem])
  have p1 : w1.cell? ⟨w.heap.size, 1, none⟩ = some (.bool c.leads) := celB hB (by simp [go_sem])
  have p2 : w1.cell? ⟨w.heap.size, 2, none⟩ = some (.slice r2 c.log.length k2) := celB hB (by simp [go_sem])
  have p3 : w1.cell? ⟨w.heap.size, 3, none⟩ = some (.int .i64 c.commit) := celB hB (by simp [go_sem])
  have p4 : w1.cell? ⟨w.heap.size, 4, none⟩ = some (.slice r4 c.mat.length k4) := celB hB (by simp [go_sem])
  have o0 : w1.cell? ⟨w.heap.size + 1 + 1, 0, none⟩ = some (.int .i64 c.term) := celB hB (by simp [go_sem])
  have o1 : w1.cell? ⟨w.heap.size + 1 + 1, 1, none⟩ = some (.bool c.leads) := celB hB (by simp [go_sem])
  have o2 : w1.cell? ⟨w.heap.size + 1 + 1, 2, none⟩ = some (.slice none 0 0) := celB hB (by simp [go_sem])
  have o3 : w1.cell? ⟨w.heap.size + 1 + 1, 3, none⟩ = some (.int .i64 0) := celB hB (by simp [go_sem])
  have o4 : w1.cell? ⟨w.heap.size + 1 + 1, 4, none⟩ = some (.slice none 0 0) := celB hB (by simp [go_sem])
  have t0 : w1.cell? ⟨w.heap.size + 1, 0, none⟩ = some (.int .i64 0) := celB hB (by simp [go_sem])
  have t1 : w1.cell? ⟨w.heap.size + 1, 1, none⟩ = some (.bool false) := celB hB (by simp [go_sem])
  have t2 : w1.cell? ⟨w.heap.size + 1, 2, none⟩ = some (.slice none 0 0) := celB hB (by simp [go_sem])
  have t3 : w1.cell? ⟨w.heap.size + 1, 3, none⟩ = some (.int .i64 0) := celB hB (by simp [go_sem])
  have t4 : w1.cell? ⟨w.heap.size + 1, 4, none⟩ = some (.slice none 0 0) := celB hB (by simp [go_sem])
  have x0 : ∀ o, w1.frozen? ⟨w.heap.size, o, none⟩ = false := fun o => frzB hB (by simp; omega) (by simp [go_sem])
  have x1 : ∀ o, w1.frozen? ⟨w.heap.size + 1, o, none⟩ = false := fun o => frzB hB (by simp) (by simp [go_sem])
  have x2 : ∀ o, w1.frozen? ⟨w.heap.size + 1 + 1, o, none⟩ = false := fun o => frzB hB (by simp) (by simp [go_sem])
  have hz1 := hB.size
  simp only [World.size_alloc] at hz1 R2
  clear hB
  go_wp2_with fail
  obtain ⟨u, hu⟩ : ∃ u, ((w1.setCell ⟨w.heap.size + 1 + 1, 2, none⟩ (.slice s2 c.log.length c.log.length)).setCell ⟨w.heap.size + 1 + 1, 3, none⟩ (.int .i64 c.commit)) = u := ⟨_, rfl⟩
  rw [hu]
  have HS : Below w.heap.size w u := by rw [← hu]; exact (HB.setCell (by first | (simp; done) | (simp; omega)) _).setCell (by first | (simp; done) | (simp; omega)) _
  replace p0 : u.cell? ⟨w.heap.size, 0, none⟩ = some (.int .i64 c.term) := by rw [← hu]; simp [go_sem, p0]
  replace p1 : u.cell? ⟨w.heap.size, 1, none⟩ = some (.bool c.leads) := by rw [← hu]; simp [go_sem, p1]
  replace p2 : u.cell? ⟨w.heap.size, 2, none⟩ = some (.slice r2 c.log.length k2) := by rw [← hu]; simp [go_sem, p2]
  replace p3 : u.cell? ⟨w.heap.size, 3, none⟩ = some (.int .i64 c.commit) := by rw [← hu]; simp [go_sem, p3]
  replace p4 : u.cell? ⟨w.heap.size, 4, none⟩ = some (.slice r4 c.mat.length k4) := by rw [← hu]; simp [go_sem, p4]
  replace o0 : u.cell? ⟨w.heap.size + 1 + 1, 0, none⟩ = some (.int .i64 c.term) := by rw [← hu]; simp [go_sem, o0]
  replace o1 : u.cell? ⟨w.heap.size + 1 + 1, 1, none⟩ = some (.bool c.leads) := by rw [← hu]; simp [go_sem, o1]
  replace o2 : u.cell? ⟨w.heap.size + 1 + 1, 2, none⟩ = some (.slice s2 c.log.length c.log.length) := by rw [← hu]; simp [go_sem, o2]
  replace o3 : u.cell? ⟨w.heap.size + 1 + 1, 3, none⟩ = some (.int .i64 c.commit) := by rw [← hu]; simp [go_sem, o3]
  replace o4 : u.cell? ⟨w.heap.size + 1 + 1, 4, none⟩ = some (.slice none 0 0) := by rw [← hu]; simp [go_sem, o4]
  replace t0 : u.cell? ⟨w.heap.size + 1, 0, none⟩ = some (.int .i64 0) := by rw [← hu]; simp [go_sem, t0]
  replace t1 : u.cell? ⟨w.heap.size + 1, 1, none⟩ = some (.bool false) := by rw [← hu]; simp [go_sem, t1]
  replace t2 : u.cell? ⟨w.heap.size + 1, 2, none⟩ = some (.slice none 0 0) := by rw [← hu]; simp [go_sem, t2]
  replace t3 : u.cell? ⟨w.heap.size + 1, 3, none⟩ = some (.int .i64 0) := by rw [← hu]; simp [go_sem, t3]
  replace t4 : u.cell? ⟨w.heap.size + 1, 4, none⟩ = some (.slice none 0 0) := by rw [← hu]; simp [go_sem, t4]
  replace x0 : ∀ o, u.frozen? ⟨w.heap.size, o, none⟩ = false := fun o => by rw [← hu]; simp [go_sem, x0]
  replace x1 : ∀ o, u.frozen? ⟨w.heap.size + 1, o, none⟩ = false := fun o => by rw [← hu]; simp [go_sem, x1]
  replace x2 : ∀ o, u.frozen? ⟨w.heap.size + 1 + 1, o, none⟩ = false := fun o => by rw [← hu]; simp [go_sem, x2]
  replace hz1 : w.heap.size + 1 + 1 + 1 ≤ u.heap.size := by rw [← hu]; simpa using hz1
  have H2' : Ens u s2 c.log := by rw [← hu]; exact (H2.setR R2 (by omega) _ _).setR (R2.setR (by omega) _ _) (by omega) _ _
  have R2' : RowEn u (w.heap.size + 1 + 1 + 1) s2 c.log.length := by rw [← hu]; exact (R2.setR (by omega) _ _).setR (by omega) _ _
  clear hu H2 R2
  refine (toIntS_any _ _ _ _ (h4.below HS) l4).mono ?_
  rintro r w2 ⟨s4, rfl, H4, R4, hB⟩
  have H2 := H2'.below hB
  have R2 := R2'.below hB
  replace p0 := celB hB p0
  replace o0 := celB hB o0
  replace t0 := celB hB t0
  replace p1 := celB hB p1
  replace o1 := celB hB o1
  replace t1 := celB hB t1
  replace p2 := celB hB p2
  replace o2 := celB hB o2
  replace t2 := celB hB t2
  replace p3 := celB hB p3
  replace o3 := celB hB o3
  replace t3 := celB hB t3
  replace p4 := celB hB p4
  replace o4 := celB hB o4
  replace t4 := celB hB t4
  replace x0 := fun o => frzB (o := o) hB (by omega) (x0 o)
  replace x1 := fun o => frzB (o := o) hB (by omega) (x1 o)
  replace x2 := fun o => frzB (o := o) hB (by omega) (x2 o)
  replace R4 := R4.mono (B' := w.heap.size + 1 + 1 + 1) (by omega)
  have HB : Below w.heap.size w w2 := HS.trans (hB.mono HS.size)
  have hz2 : w.heap.size + 1 + 1 + 1 ≤ w2.heap.size := by have := hB.size; omega
  clear hB HS hz1 
  go_wp2
  refine bodyPost_ret (v := .agg #[.int .i64 c.term, .bool c.leads, .slice s2 c.log.length c.log.length, .int .i64 c.commit, .slice s4 c.mat.length c.mat.length]) (by simp [results, Try.results66, go_sem, t0, t1, t2, t3, t4]) rfl ⟨_, _, rfl, ?_, ?_, ?_, ?_, ?_⟩
  · exact ((((((H2.setR R2 (by omega) _ _).setR (R2.setR (by omega) _ _) (by omega) _ _).setR ((R2.setR (by omega) _ _).setR (by omega) _ _) (by omega) _ _).setR (((R2.setR (by omega) _ _).setR (by omega) _ _).setR (by omega) _ _) (by omega) _ _).setR ((((R2.setR (by omega) _ _).setR (by omega) _ _).setR (by omega) _ _).setR (by omega) _ _) (by omega) _ _).setR (((((R2.setR (by omega) _ _).setR (by omega) _ _).setR (by omega) _ _).setR (by omega) _ _).setR (by omega) _ _) (by omega) _ _)
  · exact ((((((R2.setR (by omega) _ _).setR (by omega) _ _).setR (by omega) _ _).setR (by omega) _ _).setR (by omega) _ _).setR (by omega) _ _).mono (by omega)
  · exact ((((((H4.setR R4 (by omega) _ _).setR (R4.setR (by omega) _ _) (by omega) _ _).setR ((R4.setR (by omega) _ _).setR (by omega) _ _) (by omega) _ _).setR (((R4.setR (by omega) _ _).setR (by omega) _ _).setR (by omega) _ _) (by omega) _ _).setR ((((R4.setR (by omega) _ _).setR (by omega) _ _).setR (by omega) _ _).setR (by omega) _ _) (by omega) _ _).setR (((((R4.setR (by omega) _ _).setR (by omega) _ _).setR (by omega) _ _).setR (by omega) _ _).setR (by omega) _ _) (by omega) _ _)
  · exact ((((((R4.setR (by omega) _ _).setR (by omega) _ _).setR (by omega) _ _).setR (by omega) _ _).setR (by omega) _ _).setR (by omega) _ _).mono (by omega)
  · exact ((((((HB.setCell (by first | (simp; done) | (simp; omega)) _).setCell (by first | (simp; done) | (simp; omega)) _).setCell (by first | (simp; done) | (simp; omega)) _).setCell (by first | (simp; done) | (simp; omega)) _).setCell (by first | (simp; done) | (simp; omega)) _).setCell (by first | (simp; done) | (simp; omega)) _)

theorem Try.infoPe : (Try.prog.info? 63).map (fun i => (i.zero, i.size, i.bytes)) = some (some (.agg #[.int .i64 0, .bool false, .slice none 0 0, .int .i64 0, .slice none 0 0]), 5, 72) := by kernel_rfl

/-- The row at N holds the first k; their own lists lie behind N. -/
def PeTo (w : World) (N : Nat) (f : Nat → Value) (l : List Pe) (k : Nat) : Prop :=
  ∀ i c, i < k → l[i]? = some c → ∃ r2 k2 r4 k4, f (i * 5) = .int .i64 c.term ∧ f (i * 5 + 1) = .bool c.leads ∧ f (i * 5 + 2) = .slice r2 c.log.length k2 ∧ f (i * 5 + 3) = .int .i64 c.commit ∧ f (i * 5 + 4) = .slice r4 c.mat.length k4 ∧ Ens w r2 c.log ∧ c.log.length ≤ maxLen ∧ RowEn w (N + 1) r2 c.log.length ∧ Ints w r4 c.mat ∧ c.mat.length ≤ maxLen ∧ RowI w (N + 1) r4 c.mat.length ∧ c.log.length ≤ k2 ∧ c.mat.length ≤ k4

theorem PeTo.below {w w' : World} {N : Nat} {f : Nat → Value} {l : List Pe} {k : Nat} (h : PeTo w N f l k) (hb : Below w.heap.size w w') : PeTo w' N f l k := fun i c hi hc => by
  obtain ⟨r2, k2, r4, k4, c0, c1, c2, c3, c4, q2, m2, R2, q4, m4, R4, e2, e4⟩ := h i c hi hc
  exact ⟨r2, k2, r4, k4, c0, c1, c2, c3, c4, q2.below hb, m2, R2.below hb, q4.below hb, m4, R4.below hb, e2, e4⟩

set_option maxHeartbeats 1000000 in
theorem PeTo_step {w : World} {N : Nat} {t : TypeId} {m : Nat} {f : Nat → Value} {l : List Pe} {k : Nat} {b : Pe} {r2 : Option Addr} {k2 : Nat} {r4 : Option Addr} {k4 : Nat} (hR : w.rowIs N t (m * 5) f) (hO : PeTo w N f l k) (hb : l[k]? = some b) (h2 : Ens w r2 b.log) (m2 : b.log.length ≤ maxLen) (R2 : RowEn w (N + 1) r2 b.log.length) (h4 : Ints w r4 b.mat) (m4 : b.mat.length ≤ maxLen) (R4 : RowI w (N + 1) r4 b.mat.length) (e2 : b.log.length ≤ k2) (e4 : b.mat.length ≤ k4) :
    ∃ g, (((((w.setCell ⟨N, k * 5, none⟩ (.int .i64 b.term)).setCell ⟨N, k * 5 + 1, none⟩ (.bool b.leads)).setCell ⟨N, k * 5 + 2, none⟩ (.slice r2 b.log.length k2)).setCell ⟨N, k * 5 + 3, none⟩ (.int .i64 b.commit)).setCell ⟨N, k * 5 + 4, none⟩ (.slice r4 b.mat.length k4)).rowIs N t (m * 5) g ∧ PeTo (((((w.setCell ⟨N, k * 5, none⟩ (.int .i64 b.term)).setCell ⟨N, k * 5 + 1, none⟩ (.bool b.leads)).setCell ⟨N, k * 5 + 2, none⟩ (.slice r2 b.log.length k2)).setCell ⟨N, k * 5 + 3, none⟩ (.int .i64 b.commit)).setCell ⟨N, k * 5 + 4, none⟩ (.slice r4 b.mat.length k4)) N g l (k + 1) := by
  refine ⟨_, (((((hR.set _ _).set _ _).set _ _).set _ _).set _ _), fun i c hi hc => ?_⟩
  by_cases e : i = k
  · subst e
    obtain rfl : b = c := by rw [hb] at hc; simpa using hc
    refine ⟨r2, k2, r4, k4, ?_, ?_, ?_, ?_, ?_, (((((h2.setR R2 (by omega) _ _).setR (R2.setR (by omega) _ _) (by omega) _ _).setR ((R2.setR (by omega) _ _).setR (by omega) _ _) (by omega) _ _).setR (((R2.setR (by omega) _ _).setR (by omega) _ _).setR (by omega) _ _) (by omega) _ _).setR ((((R2.setR (by omega) _ _).setR (by omega) _ _).setR (by omega) _ _).setR (by omega) _ _) (by omega) _ _), m2, (((((R2.setR (by omega) _ _).setR (by omega) _ _).setR (by omega) _ _).setR (by omega) _ _).setR (by omega) _ _), (((((h4.setR R4 (by omega) _ _).setR (R4.setR (by omega) _ _) (by omega) _ _).setR ((R4.setR (by omega) _ _).setR (by omega) _ _) (by omega) _ _).setR (((R4.setR (by omega) _ _).setR (by omega) _ _).setR (by omega) _ _) (by omega) _ _).setR ((((R4.setR (by omega) _ _).setR (by omega) _ _).setR (by omega) _ _).setR (by omega) _ _) (by omega) _ _), m4, (((((R4.setR (by omega) _ _).setR (by omega) _ _).setR (by omega) _ _).setR (by omega) _ _).setR (by omega) _ _), e2, e4⟩ <;> simp
  · obtain ⟨r2', k2', r4', k4', c0, c1, c2, c3, c4, q2, m2', S2, q4, m4', S4, e2', e4'⟩ := hO i c (by omega) hc
    refine ⟨r2', k2', r4', k4', ?_, ?_, ?_, ?_, ?_, (((((q2.setR S2 (by omega) _ _).setR (S2.setR (by omega) _ _) (by omega) _ _).setR ((S2.setR (by omega) _ _).setR (by omega) _ _) (by omega) _ _).setR (((S2.setR (by omega) _ _).setR (by omega) _ _).setR (by omega) _ _) (by omega) _ _).setR ((((S2.setR (by omega) _ _).setR (by omega) _ _).setR (by omega) _ _).setR (by omega) _ _) (by omega) _ _), m2', (((((S2.setR (by omega) _ _).setR (by omega) _ _).setR (by omega) _ _).setR (by omega) _ _).setR (by omega) _ _), (((((q4.setR S4 (by omega) _ _).setR (S4.setR (by omega) _ _) (by omega) _ _).setR ((S4.setR (by omega) _ _).setR (by omega) _ _) (by omega) _ _).setR (((S4.setR (by omega) _ _).setR (by omega) _ _).setR (by omega) _ _) (by omega) _ _).setR ((((S4.setR (by omega) _ _).setR (by omega) _ _).setR (by omega) _ _).setR (by omega) _ _) (by omega) _ _), m4', (((((S4.setR (by omega) _ _).setR (by omega) _ _).setR (by omega) _ _).setR (by omega) _ _).setR (by omega) _ _), e2', e4'⟩
    · rw [if_neg (by omega), if_neg (by omega), if_neg (by omega), if_neg (by omega), if_neg (by omega)]; exact c0
    · rw [if_neg (by omega), if_neg (by omega), if_neg (by omega), if_neg (by omega), if_neg (by omega)]; exact c1
    · rw [if_neg (by omega), if_neg (by omega), if_neg (by omega), if_neg (by omega), if_neg (by omega)]; exact c2
    · rw [if_neg (by omega), if_neg (by omega), if_neg (by omega), if_neg (by omega), if_neg (by omega)]; exact c3
    · rw [if_neg (by omega), if_neg (by omega), if_neg (by omega), if_neg (by omega), if_neg (by omega)]; exact c4

theorem Pes.of_to {w : World} {N : Nat} {t : TypeId} {f : Nat → Value} {l : List Pe} (hR : w.rowIs N t (l.length * 5) f) (hO : PeTo w N f l l.length) : Pes w (some ⟨N, 0, none⟩) l := fun i c hi => by
  have hlt := (List.getElem?_eq_some_iff.1 hi).1
  obtain ⟨r2, k2, r4, k4, c0, c1, c2, c3, c4, q2, m2, -, q4, m4, -, -, -⟩ := hO i c hlt hi
  refine ⟨N, 0, rfl, r2, k2, r4, k4, ?_, ?_, ?_, ?_, ?_, q2, m2, q4, m4⟩
  · rw [Nat.zero_add, hR.cell (by omega), c0]
  · rw [Nat.zero_add, hR.cell (by omega), c1]
  · rw [Nat.zero_add, hR.cell (by omega), c2]
  · rw [Nat.zero_add, hR.cell (by omega), c3]
  · rw [Nat.zero_add, hR.cell (by omega), c4]

/-- Their lists are no longer than they have room for. -/
def PesK (w : World) (a : Option Addr) (l : List Pe) : Prop :=
  ∀ i c, l[i]? = some c → ∃ K o r2 k2 r4 k4, a = some ⟨K, o, none⟩ ∧ w.cell? ⟨K, o + i * 5 + 2, none⟩ = some (.slice r2 c.log.length k2) ∧ c.log.length ≤ k2 ∧ w.cell? ⟨K, o + i * 5 + 4, none⟩ = some (.slice r4 c.mat.length k4) ∧ c.mat.length ≤ k4

theorem PesK.below {w w' : World} {a : Option Addr} {l : List Pe} (h : PesK w a l) (hb : Below w.heap.size w w') : PesK w' a l := fun i c hi => by
  obtain ⟨K, o, r2, k2, r4, k4, e, x2, y2, x4, y4⟩ := h i c hi
  exact ⟨K, o, r2, k2, r4, k4, e, celB hb x2, y2, celB hb x4, y4⟩

theorem PesK.of_to {w : World} {N : Nat} {t : TypeId} {f : Nat → Value} {l : List Pe} (hR : w.rowIs N t (l.length * 5) f) (hO : PeTo w N f l l.length) : PesK w (some ⟨N, 0, none⟩) l := fun i c hi => by
  have hlt := (List.getElem?_eq_some_iff.1 hi).1
  obtain ⟨r2, k2, r4, k4, c0, c1, c2, c3, c4, -, -, -, -, -, -, e2, e4⟩ := hO i c hlt hi
  refine ⟨N, 0, r2, k2, r4, k4, rfl, ?_, e2, ?_, e4⟩
  · rw [Nat.zero_add, hR.cell (by omega), c2]
  · rw [Nat.zero_add, hR.cell (by omega), c4]

/-- It reads so, and all of it lies in blocks from B on. -/
def PesA (w : World) (B : Nat) (a : Option Addr) (l : List Pe) : Prop := ∀ w2 : World, (∀ b, B ≤ b → b < w.heap.size → w2.heap[b]? = w.heap[b]?) → Pes w2 a l ∧ PesK w2 a l

theorem PesA.here {w : World} {B : Nat} {a : Option Addr} {l : List Pe} (h : PesA w B a l) : Pes w a l := (h w fun _ _ _ => rfl).1

theorem PesA.hereK {w : World} {B : Nat} {a : Option Addr} {l : List Pe} (h : PesA w B a l) : PesK w a l := (h w fun _ _ _ => rfl).2

theorem PesA.below {w w' : World} {B : Nat} {a : Option Addr} {l : List Pe} (h : PesA w B a l) (hb : Below w.heap.size w w') : PesA w' B a l := fun w2 h2 =>
  h w2 fun b h1 hl => (h2 b h1 (by have := hb.size; omega)).trans (hb.block b hl)

theorem PesA.mono {w : World} {B B' : Nat} {a : Option Addr} {l : List Pe} (h : PesA w B a l) (hb : B' ≤ B) : PesA w B' a l := fun w2 h2 =>
  h w2 fun b h1 hl => h2 b (by omega) hl

theorem PesA.setR {w : World} {B N : Nat} {a : Option Addr} {l : List Pe} (h : PesA w B a l) (hN : N < B) (o : Nat) (v : Value) : PesA (w.setCell ⟨N, o, none⟩ v) B a l := fun w2 h2 =>
  h w2 fun b h1 hl => (h2 b h1 (by simpa using hl)).trans (Below.heap_setCell w ⟨N, o, none⟩ v b (by simp; omega))

theorem PesA.of_to {w : World} {N : Nat} {t : TypeId} {f : Nat → Value} {l : List Pe} (hR : w.rowIs N t (l.length * 5) f) (hO : PeTo w N f l l.length) : PesA w N (some ⟨N, 0, none⟩) l := fun w2 h2 => by
  have hO2 : PeTo w2 N f l l.length := fun i c hi hc => by
    obtain ⟨r2, k2, r4, k4, c0, c1, c2, c3, c4, q2, m2, R2, q4, m4, R4, e2, e4⟩ := hO i c hi hc
    exact ⟨r2, k2, r4, k4, c0, c1, c2, c3, c4, q2.of_block fun b hb => h2 b (by have := (R2.lt hb).1; omega) (R2.lt hb).2, m2, R2.of_block fun b hb => h2 b (by have := (R2.lt hb).1; omega) (R2.lt hb).2, q4.of_block fun b hb => h2 b (by have := (R4.lt hb).1; omega) (R4.lt hb).2, m4, R4.of_block fun b hb => h2 b (by have := (R4.lt hb).1; omega) (R4.lt hb).2, e2, e4⟩
  exact ⟨Pes.of_to (hR.of_block (h2 N (Nat.le_refl _) hR.lt)) hO2, PesK.of_to (hR.of_block (h2 N (Nat.le_refl _) hR.lt)) hO2⟩

set_option maxHeartbeats 2000000 in
theorem toPeerS_any (a : Option Addr) (c : Nat) (l : List Pe) (w : World) (hs : Pes w a l) (hl : l.length ≤ 1048576) (hrec : ∀ c, c ∈ l → c.log.length ≤ 1048576 ∧ c.mat.length ≤ 1048576) :
    Calls Try.prog 47 #[.slice a l.length c] w fun e w' => ∃ a', e = .returned (.slice a' l.length l.length) ∧ Pes w' a' l ∧ PesA w' w.heap.size a' l ∧ Below w.heap.size w w' := by
  have hmk := run_make_manyV (P := Try.prog) 22 63 _ 5 72 Try.underlying22 Try.infoPe .i64 .i64 l.length (by omega) (by omega)
  go_enter Try.func47, Try.ntmps47
  go_wp2
  have hB : ∀ o, Below w.heap.size w (w.alloc o) := fun o => (Below.refl _ _).alloc (Nat.le_refl _) o
  go_loopw [4] (fun i wr => ∃ k : Nat, k ≤ l.length ∧ i = .int .i64 k ∧ ∃ f, wr.rowIs w.heap.size 63 (l.length * 5) f ∧ PeTo wr w.heap.size f l k ∧ Below w.heap.size w wr) (fun i _ => l.length - (intOf i).toNat)
  case atStart => exact ⟨0, Nat.zero_le _, rfl, _, by simpa [size_madeCells] using rowIs_of_allocV w (madeCells _ (l.length * 5)) 63, fun i b hi => absurd hi (Nat.not_lt_zero _), hB _⟩
  case round =>
    clear hB
    obtain ⟨k, hk, rfl, f, hR, hO, hB⟩ := hrel
    by_cases hlt : k < l.length
    · obtain ⟨b, hkb⟩ := getPe hlt
      obtain ⟨kb, ob, rfl, hbt⟩ := (hs.below hB) k b hkb
      obtain ⟨r2, k2, r4, k4, c0, c1, c2, c3, c4, q2, m2, q4, m4⟩ := hbt
      have hrl := hrec b (List.mem_of_getElem? hkb)
      have HK : Hid (l[k]? = some b) := hkb
      clear hs hkb
      go_wp2_with fail
      refine (toPeer_any b _ _ _ _ _ q2 q4 hrl.1 hrl.2).mono ?_
      rintro r w1 ⟨s2, s4, rfl, H2, R2, H4, R4, hB1⟩
      have hR1 : w1.rowIs w.heap.size 63 (l.length * 5) f := hR.of_block (hB1.block _ hR.lt)
      have d0 := hR1.cell (i := k * 5) (by omega)
      have d1 := hR1.cell (i := k * 5 + 1) (by omega)
      have d2 := hR1.cell (i := k * 5 + 2) (by omega)
      have d3 := hR1.cell (i := k * 5 + 3) (by omega)
      have d4 := hR1.cell (i := k * 5 + 4) (by omega)
      replace R2 := R2.mono (B' := w.heap.size + 1) (by have := hR.lt; omega)
      replace R4 := R4.mono (B' := w.heap.size + 1) (by have := hR.lt; omega)
      have hf := hR1.frozen
      have hO1 := hO.below hB1
      have hBn := hB.trans (hB1.mono hB.size)
      clear hO hB hB1 hR
      go_wp2
      go_roundw
      case rel =>
        obtain ⟨g, hg, hOg⟩ := PeTo_step (k2 := b.log.length) (k4 := b.mat.length) hR1 hO1 HK.out H2 m2 R2 H4 m4 R4 (Nat.le_refl _) (Nat.le_refl _)
        exact ⟨k + 1, by omega, by go_num, g, hg, hOg, (((((hBn.setCell (Nat.le_refl _) _).setCell (Nat.le_refl _) _).setCell (Nat.le_refl _) _).setCell (Nat.le_refl _) _).setCell (Nat.le_refl _) _)⟩
      case measure => simp [intOf]; omega
    · go_wp2
      go_ret
      obtain rfl : k = l.length := by omega
      exact ⟨_, rfl, Pes.of_to hR hO, PesA.of_to hR hO, hB⟩

set_option maxHeartbeats 1000000 in
theorem eqPeer_same (c : Pe) (r2 t2 r4 t4 : Option Addr) (k2 j2 k4 j4 : Nat) (w : World) (h2 : Ens w r2 c.log) (g2 : Ens w t2 c.log) (l2 : c.log.length ≤ maxLen) (h4 : Ints w r4 c.mat) (g4 : Ints w t4 c.mat) (l4 : c.mat.length ≤ maxLen) :
    Calls Try.prog 62 #[.agg #[.int .i64 c.term, .bool c.leads, .slice r2 c.log.length k2, .int .i64 c.commit, .slice r4 c.mat.length k4], .agg #[.int .i64 c.term, .bool c.leads, .slice t2 c.log.length j2, .int .i64 c.commit, .slice t4 c.mat.length j4]] w fun r w' => r = .returned (.bool true) ∧ Below w.heap.size w w' := by
  have b1 : (c.leads != c.leads) = false := by simp
  have b1' : (!(c.leads == c.leads)) = false := by simp
  have HB : ∀ x y, Below w.heap.size w ((w.alloc x).alloc y) := fun _ _ => ((Below.refl _ _).alloc (Nat.le_refl _) _).alloc (by simp) _
  go_enter Try.func62, Try.ntmps62
  go_wp2_with fail
  refine (eqEntryS_same _ _ _ _ _ _ (h2.below (HB _ _)) (g2.below (HB _ _)) l2).mono ?_
  rintro r w1 ⟨rfl, hB⟩
  have p3 : w1.cell? ⟨w.heap.size, 3, none⟩ = some (.int .i64 c.commit) := celB hB (by simp [go_sem])
  have o3 : w1.cell? ⟨w.heap.size + 1, 3, none⟩ = some (.int .i64 c.commit) := celB hB (by simp [go_sem])
  have p4 : w1.cell? ⟨w.heap.size, 4, none⟩ = some (.slice r4 c.mat.length k4) := celB hB (by simp [go_sem])
  have o4 : w1.cell? ⟨w.heap.size + 1, 4, none⟩ = some (.slice t4 c.mat.length j4) := celB hB (by simp [go_sem])
  have BB : Below w.heap.size w w1 := (HB _ _).trans (hB.mono (HB _ _).size)
  clear hB
  go_wp2_with fail
  refine (eqIntS_same _ _ _ _ _ _ (h4.below BB) (g4.below BB) l4).mono ?_
  rintro r w2 ⟨rfl, hB⟩
  replace BB : Below w.heap.size w w2 := BB.trans (hB.mono BB.size)
  clear hB
  go_wp2
  go_ret
  exact ⟨rfl, BB⟩

set_option maxHeartbeats 1000000 in
theorem eqPeerS_same (a a2 : Option Addr) (c c2 : Nat) (l : List Pe) (w : World) (hx : Pes w a l) (hy : Pes w a2 l) (hl : l.length ≤ maxLen) :
    Calls Try.prog 37 #[.slice a l.length c, .slice a2 l.length c2] w fun e w' => e = .returned (.bool true) ∧ Below w.heap.size w w' := by
  unfold maxLen at hl
  go_enter Try.func37, Try.ntmps37
  go_wp2
  go_loopw [5] (fun i wr => ∃ k : Nat, k ≤ l.length ∧ i = .int .i64 k ∧ Below w.heap.size w wr) (fun i _ => l.length - (intOf i).toNat)
  case atStart => exact ⟨0, Nat.zero_le _, rfl, Below.refl _ _⟩
  case round =>
    obtain ⟨k, hk, rfl, hB⟩ := hrel
    by_cases hlt : k < l.length
    · obtain ⟨b, hkb⟩ := getPe hlt
      obtain ⟨kb, ob, rfl, hbt⟩ := (hx.below hB) k b hkb
      obtain ⟨r2, k2, r4, k4, c0, c1, c2, c3, c4, q2, m2, q4, m4⟩ := hbt
      obtain ⟨kb2, ob2, rfl, hbt2⟩ := (hy.below hB) k b hkb
      obtain ⟨t2, j2, t4, j4, d0, d1, d2, d3, d4, g2, -, g4, -⟩ := hbt2
      clear hx hy hkb
      go_wp2
      go_region_with (go_at_call 62; refine (eqPeer_same _ _ _ _ _ _ _ _ _ _ ?_ ?_ m2 ?_ ?_ m4).mono ?_; exact q2.below (Below.refl _ _).drew; exact g2.below (Below.refl _ _).drew; exact q4.below (Below.refl _ _).drew; exact g4.below (Below.refl _ _).drew; rintro r w1 ⟨rfl, hB1⟩)
      all_goals
        go_wp2
        go_roundw
        case rel => exact ⟨k + 1, by omega, by go_num, hB.drew.trans (hB1.mono (by simpa using hB.size))⟩
        case measure => simp [intOf]; omega
    · go_wp2
      go_ret
      exact ⟨rfl, hB⟩

end Go.Proofs.Ytglncbhbeikclaa
