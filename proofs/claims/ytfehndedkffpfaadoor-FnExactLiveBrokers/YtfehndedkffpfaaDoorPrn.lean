/-
  Lists of Partition as a call reads them, and the contracts of the laws' helpers on them: szPartition, szPartitionS, toPartition, toPartitionS, eqPartition, eqPartitionS. Made by mkbag.py.
-/
import Derived.Test.YtfehndedkffpfaaDoorBagAid
namespace Go.Proofs.YtfehndedkffpfaaDoor
open Go.RowKit

/-- One Partition: what its fields read. -/
structure Pn where
  homes : List Int
  steps : List Int
  leader : Int
  epoch : Int
  stamp : Int
deriving DecidableEq

/-- At block K, from cell o on, one lies. -/
def PnAt (w : World) (K o : Nat) (c : Pn) : Prop :=
  ∃ r0 k0 r1 k1, w.cell? ⟨K, o, none⟩ = some (.slice r0 c.homes.length k0) ∧ w.cell? ⟨K, o + 1, none⟩ = some (.slice r1 c.steps.length k1) ∧ w.cell? ⟨K, o + 2, none⟩ = some (.int .i64 c.leader) ∧ w.cell? ⟨K, o + 3, none⟩ = some (.int .i64 c.epoch) ∧ w.cell? ⟨K, o + 4, none⟩ = some (.int .i64 c.stamp) ∧ Ints w r0 c.homes ∧ c.homes.length ≤ maxLen ∧ Ints w r1 c.steps ∧ c.steps.length ≤ maxLen

/-- The slice value at 'a' reads as these. -/
def Pns (w : World) (a : Option Addr) (l : List Pn) : Prop :=
  ∀ i c, l[i]? = some c → ∃ K o, a = some ⟨K, o, none⟩ ∧ PnAt w K (o + i * 5) c

theorem PnAt.below {w w' : World} {K o : Nat} {c : Pn} (h : PnAt w K o c) (hb : Below w.heap.size w w') : PnAt w' K o c := by
  obtain ⟨r0, k0, r1, k1, c0, c1, c2, c3, c4, q0, m0, q1, m1⟩ := h
  have lt := lt_of_cell c0
  exact ⟨r0, k0, r1, k1, (hb.cell (p := ⟨K, o, none⟩) lt).trans c0, (hb.cell (p := ⟨K, o + 1, none⟩) lt).trans c1, (hb.cell (p := ⟨K, o + 2, none⟩) lt).trans c2, (hb.cell (p := ⟨K, o + 3, none⟩) lt).trans c3, (hb.cell (p := ⟨K, o + 4, none⟩) lt).trans c4, q0.below hb, m0, q1.below hb, m1⟩

theorem Pns.below {w w' : World} {a : Option Addr} {l : List Pn} (h : Pns w a l) (hb : Below w.heap.size w w') : Pns w' a l := fun i c hi => by
  obtain ⟨K, o, e, hB⟩ := h i c hi
  exact ⟨K, o, e, hB.below hb⟩

theorem Pns.nil (w : World) (a : Option Addr) : Pns w a [] := fun i f hi => by simp at hi

theorem getPn {l : List Pn} {k : Nat} (h : k < l.length) : ∃ s, l[k]? = some s := ⟨_, List.getElem?_eq_getElem h⟩

theorem takePn_snoc {l : List Pn} {k : Nat} {s : Pn} (h : l[k]? = some s) : l.take (k + 1) = l.take k ++ [s] := by
  rw [List.take_add_one, h]; rfl

theorem dropPn_cons {l : List Pn} {k : Nat} {b : Pn} (h : l[k]? = some b) : l.drop k = b :: l.drop (k + 1) := by
  obtain ⟨hlt, e⟩ := List.getElem?_eq_some_iff.1 h
  rw [List.drop_eq_getElem_cons hlt, e]

def szPn (c : Pn) (left : Int) : Int := if szN c.homes.length left < 0 then -1 else szN c.steps.length (szN c.homes.length left)

theorem szPn_range (c : Pn) {left : Int} (h0 : 0 ≤ left) : -1 ≤ szPn c left ∧ szPn c left ≤ left := by
  unfold szPn
  have e0 := szN_range c.homes.length (left := left)
  have e1 := szN_range c.steps.length (left := (szN c.homes.length left))
  repeat' split
  all_goals omega

theorem szPn_bound {c : Pn} {left : Int} (h : 0 ≤ szPn c left) : (c.homes.length : Int) ≤ left ∧ (c.steps.length : Int) ≤ left := by
  unfold szPn szN at h
  repeat' split at h
  all_goals omega

set_option maxHeartbeats 1000000 in
theorem szPartition_any (c : Pn) (r0 r1 : Option Addr) (k0 k1 : Nat) (left : Int) (w : World) (l0 : c.homes.length ≤ maxLen) (l1 : c.steps.length ≤ maxLen) (h0 : 0 ≤ left) (h1 : left ≤ 1048576) :
    Calls Tryd.prog 26 #[.agg #[.slice r0 c.homes.length k0, .slice r1 c.steps.length k1, .int .i64 c.leader, .int .i64 c.epoch, .int .i64 c.stamp], .int .i64 left] w fun r w' => r = .returned (.int .i64 (szPn c left)) ∧ Below w.heap.size w w' := by
  have e0 := szN_range c.homes.length (left := left)
  have e1 := szN_range c.steps.length (left := (szN c.homes.length left))
  by_cases n0 : szN c.homes.length left < 0
  · go_enter Tryd.func26, Tryd.ntmps26
    go_wp2_with (first | (go_at_call 43; refine (szIntN_any _ _ _ _ _ (by first | exact l0 | exact l1) (by omega) (by omega)).mono ?_; rintro e w' ⟨rfl, rfl⟩))
    go_ret
    exact ⟨ret_int (by unfold szPn; repeat' split
                       all_goals omega), (Below.refl _ _).alloc (Nat.le_refl _) _⟩
  by_cases n1 : szN c.steps.length (szN c.homes.length left) < 0
  · go_enter Tryd.func26, Tryd.ntmps26
    go_wp2_with (first | (go_at_call 43; refine (szIntN_any _ _ _ _ _ (by first | exact l0 | exact l1) (by omega) (by omega)).mono ?_; rintro e w' ⟨rfl, rfl⟩))
    go_ret
    exact ⟨ret_int (by unfold szPn; repeat' split
                       all_goals omega), (Below.refl _ _).alloc (Nat.le_refl _) _⟩
  go_enter Tryd.func26, Tryd.ntmps26
  go_wp2_with (first | (go_at_call 43; refine (szIntN_any _ _ _ _ _ (by first | exact l0 | exact l1) (by omega) (by omega)).mono ?_; rintro e w' ⟨rfl, rfl⟩))
  go_ret
  exact ⟨ret_int (by unfold szPn; repeat' split
                     all_goals omega), (Below.refl _ _).alloc (Nat.le_refl _) _⟩

/-- What szPartitionS answers, one by one. -/
def szPns' : List Pn → Int → Int
  | [], left => left
  | c :: r, left => if szPn c left < 0 then -1 else szPns' r (szPn c left)

def szPns (l : List Pn) (left : Int) : Int := if left - l.length < 0 then -1 else szPns' l (left - l.length)

theorem szPns'_range : ∀ (l : List Pn) (left : Int), 0 ≤ left → -1 ≤ szPns' l left ∧ szPns' l left ≤ left
  | [], left, h => by simp only [szPns']; omega
  | c :: r, left, h => by
    have e := szPn_range c h
    simp only [szPns']; split
    · omega
    · have := szPns'_range r (szPn c left) (by omega)
      omega

theorem szPns_range (l : List Pn) {left : Int} (h : 0 ≤ left) : -1 ≤ szPns l left ∧ szPns l left ≤ left := by
  unfold szPns; split
  · omega
  · have := szPns'_range l (left - l.length) (by omega)
    omega

theorem szPns'_bound : ∀ (l : List Pn) (left : Int), left ≤ 1048576 → 0 ≤ left → 0 ≤ szPns' l left → ∀ c, c ∈ l → c.homes.length ≤ 1048576 ∧ c.steps.length ≤ 1048576
  | [], left, _, _, _ => fun c hc => by simp at hc
  | d :: r, left, hl, h0, h => fun c hc => by
    simp only [szPns'] at h; split at h
    · omega
    · have e := szPn_range d h0
      have e2 := szPn_bound (c := d) (left := left) (by omega)
      rcases List.mem_cons.1 hc with rfl | hc
      · omega
      · exact szPns'_bound r (szPn d left) (by omega) (by omega) h c hc

theorem szPns_bound {l : List Pn} {left : Int} (hl : left ≤ 1048576) (h : 0 ≤ szPns l left) : l.length ≤ 1048576 ∧ ∀ c, c ∈ l → c.homes.length ≤ 1048576 ∧ c.steps.length ≤ 1048576 := by
  unfold szPns at h; split at h
  · omega
  · exact ⟨by omega, szPns'_bound l (left - l.length) (by omega) (by omega) h⟩

set_option maxHeartbeats 1000000 in
theorem szPartitionS_any (a : Option Addr) (c : Nat) (l : List Pn) (left : Int) (w : World) (hs : Pns w a l) (hl : l.length ≤ maxLen) (h0 : 0 ≤ left) (h1 : left ≤ 1048576) :
    Calls Tryd.prog 14 #[.slice a l.length c, .int .i64 left] w fun e w' => e = .returned (.int .i64 (szPns l left)) ∧ Below w.heap.size w w' := by
  unfold maxLen at hl
  by_cases hn : left - (l.length : Int) < 0
  · go_enter Tryd.func14, Tryd.ntmps14
    go_wp2
    go_ret
    exact ⟨ret_int (by unfold szPns; rw [if_pos hn]), Below.refl _ _⟩
  · go_enter Tryd.func14, Tryd.ntmps14
    go_wp2
    go_loopw [1, 5] (fun x i wr => ∃ k : Nat, k ≤ l.length ∧ i = .int .i64 k ∧ ∃ lf : Int, 0 ≤ lf ∧ lf ≤ 1048576 ∧ x = .int .i64 lf ∧ szPns' (l.drop k) lf = szPns' l (left - l.length) ∧ Below w.heap.size w wr) (fun _ i _ => l.length - (intOf i).toNat)
    case atStart => exact ⟨0, Nat.zero_le _, rfl, _, by omega, by omega, rfl, rfl, Below.refl _ _⟩
    case round =>
      obtain ⟨k, hk, rfl, lf, hlf, hlf2, rfl, hsz, hB⟩ := hrel
      by_cases hlt : k < l.length
      · obtain ⟨b, hkb⟩ := getPn hlt
        obtain ⟨kb, ob, rfl, hbt⟩ := (hs.below hB) k b hkb
        obtain ⟨r0, k0, r1, k1, c0, c1, c2, c3, c4, q0, m0, q1, m1⟩ := hbt
        have HD : Hid (szPns' (l.drop k) lf = szPns' l (left - l.length)) := hsz
        clear hsz
        have hr := szPn_range b hlf
        go_wp2_with fail
        refine (szPartition_any _ _ _ _ _ _ _ m0 m1 hlf hlf2).mono ?_
        rintro r w1 ⟨rfl, hB1⟩
        have hBn := hB.trans (hB1.mono hB.size)
        have HK : Hid (l.drop k = b :: l.drop (k + 1)) := dropPn_cons hkb
        clear hs hB1 hB hkb c0 c1 c2 c3 c4
        by_cases hneg : szPn b lf < 0
        · go_wp2
          go_ret
          refine ⟨ret_int ?_, hBn⟩
          have e := HD.out
          rw [HK.out, szPns', if_pos hneg] at e
          unfold szPns; rw [if_neg (by omega), ← e]
        · go_wp2
          go_roundw
          case rel =>
            refine ⟨k + 1, by omega, by go_num, _, by omega, by omega, rfl, ?_, hBn⟩
            have e := HD.out
            rwa [HK.out, szPns', if_neg (by omega)] at e
          case measure => simp [intOf]; omega
      · go_wp2
        go_ret
        refine ⟨ret_int ?_, hB⟩
        rw [List.drop_eq_nil_of_le (by omega)] at hsz
        unfold szPns; rw [if_neg (by omega), ← hsz, szPns']

/-- What toPartition answers. -/
def PnNew (w w' : World) (c : Pn) (r : Ending) : Prop :=
  ∃ s0 s1, r = .returned (.agg #[.slice s0 c.homes.length c.homes.length, .slice s1 c.steps.length c.steps.length, .int .i64 c.leader, .int .i64 c.epoch, .int .i64 c.stamp]) ∧ Ints w' s0 c.homes ∧ RowI w' w.heap.size s0 c.homes.length ∧ Ints w' s1 c.steps ∧ RowI w' w.heap.size s1 c.steps.length ∧ Below w.heap.size w w'

set_option maxHeartbeats 2000000 in
theorem toPartition_any (c : Pn) (r0 r1 : Option Addr) (k0 k1 : Nat) (w : World) (h0 : Ints w r0 c.homes) (h1 : Ints w r1 c.steps) (l0 : c.homes.length ≤ 1048576) (l1 : c.steps.length ≤ 1048576) :
    Calls Tryd.prog 30 #[.agg #[.slice r0 c.homes.length k0, .slice r1 c.steps.length k1, .int .i64 c.leader, .int .i64 c.epoch, .int .i64 c.stamp]] w fun r w' => PnNew w w' c r := by
  have hb3 : ∀ x y z, Below w.heap.size w (((w.alloc x).alloc y).alloc z) := fun _ _ _ => (((Below.refl _ _).alloc (Nat.le_refl _) _).alloc (by simp) _).alloc (by simp; omega) _
  go_enter Tryd.func30, Tryd.ntmps30
  go_wp2_with fail
  refine (toIntS_any _ _ _ _ (h0.below (hb3 _ _ _)) l0).mono ?_
  rintro r w1 ⟨s0, rfl, H0, R0, hB⟩
  have HB : Below w.heap.size w w1 := (hb3 _ _ _).trans (hB.mono (hb3 _ _ _).size)
  have p0 : w1.cell? ⟨w.heap.size, 0, none⟩ = some (.slice r0 c.homes.length k0) := celB hB (by simp [go_sem])
  have p1 : w1.cell? ⟨w.heap.size, 1, none⟩ = some (.slice r1 c.steps.length k1) := celB hB (by simp [go_sem])
  have p2 : w1.cell? ⟨w.heap.size, 2, none⟩ = some (.int .i64 c.leader) := celB hB (by simp [go_sem])
  have p3 : w1.cell? ⟨w.heap.size, 3, none⟩ = some (.int .i64 c.epoch) := celB hB (by simp [go_sem])
  have p4 : w1.cell? ⟨w.heap.size, 4, none⟩ = some (.int .i64 c.stamp) := celB hB (by simp [go_sem])
  have o0 : w1.cell? ⟨w.heap.size + 1 + 1, 0, none⟩ = some (.slice none 0 0) := celB hB (by simp [go_sem])
  have o1 : w1.cell? ⟨w.heap.size + 1 + 1, 1, none⟩ = some (.slice none 0 0) := celB hB (by simp [go_sem])
  have o2 : w1.cell? ⟨w.heap.size + 1 + 1, 2, none⟩ = some (.int .i64 0) := celB hB (by simp [go_sem])
  have o3 : w1.cell? ⟨w.heap.size + 1 + 1, 3, none⟩ = some (.int .i64 0) := celB hB (by simp [go_sem])
  have o4 : w1.cell? ⟨w.heap.size + 1 + 1, 4, none⟩ = some (.int .i64 0) := celB hB (by simp [go_sem])
  have t0 : w1.cell? ⟨w.heap.size + 1, 0, none⟩ = some (.slice none 0 0) := celB hB (by simp [go_sem])
  have t1 : w1.cell? ⟨w.heap.size + 1, 1, none⟩ = some (.slice none 0 0) := celB hB (by simp [go_sem])
  have t2 : w1.cell? ⟨w.heap.size + 1, 2, none⟩ = some (.int .i64 0) := celB hB (by simp [go_sem])
  have t3 : w1.cell? ⟨w.heap.size + 1, 3, none⟩ = some (.int .i64 0) := celB hB (by simp [go_sem])
  have t4 : w1.cell? ⟨w.heap.size + 1, 4, none⟩ = some (.int .i64 0) := celB hB (by simp [go_sem])
  have x0 : ∀ o, w1.frozen? ⟨w.heap.size, o, none⟩ = false := fun o => frzB hB (by simp; omega) (by simp [go_sem])
  have x1 : ∀ o, w1.frozen? ⟨w.heap.size + 1, o, none⟩ = false := fun o => frzB hB (by simp) (by simp [go_sem])
  have x2 : ∀ o, w1.frozen? ⟨w.heap.size + 1 + 1, o, none⟩ = false := fun o => frzB hB (by simp) (by simp [go_sem])
  have hz1 := hB.size
  simp only [World.size_alloc] at hz1 R0
  clear hB
  go_wp2_with fail
  obtain ⟨u, hu⟩ : ∃ u, (w1.setCell ⟨w.heap.size + 1 + 1, 0, none⟩ (.slice s0 c.homes.length c.homes.length)) = u := ⟨_, rfl⟩
  rw [hu]
  have HS : Below w.heap.size w u := by rw [← hu]; exact HB.setCell (by first | (simp; done) | (simp; omega)) _
  replace p0 : u.cell? ⟨w.heap.size, 0, none⟩ = some (.slice r0 c.homes.length k0) := by rw [← hu]; simp [go_sem, p0]
  replace p1 : u.cell? ⟨w.heap.size, 1, none⟩ = some (.slice r1 c.steps.length k1) := by rw [← hu]; simp [go_sem, p1]
  replace p2 : u.cell? ⟨w.heap.size, 2, none⟩ = some (.int .i64 c.leader) := by rw [← hu]; simp [go_sem, p2]
  replace p3 : u.cell? ⟨w.heap.size, 3, none⟩ = some (.int .i64 c.epoch) := by rw [← hu]; simp [go_sem, p3]
  replace p4 : u.cell? ⟨w.heap.size, 4, none⟩ = some (.int .i64 c.stamp) := by rw [← hu]; simp [go_sem, p4]
  replace o0 : u.cell? ⟨w.heap.size + 1 + 1, 0, none⟩ = some (.slice s0 c.homes.length c.homes.length) := by rw [← hu]; simp [go_sem, o0]
  replace o1 : u.cell? ⟨w.heap.size + 1 + 1, 1, none⟩ = some (.slice none 0 0) := by rw [← hu]; simp [go_sem, o1]
  replace o2 : u.cell? ⟨w.heap.size + 1 + 1, 2, none⟩ = some (.int .i64 0) := by rw [← hu]; simp [go_sem, o2]
  replace o3 : u.cell? ⟨w.heap.size + 1 + 1, 3, none⟩ = some (.int .i64 0) := by rw [← hu]; simp [go_sem, o3]
  replace o4 : u.cell? ⟨w.heap.size + 1 + 1, 4, none⟩ = some (.int .i64 0) := by rw [← hu]; simp [go_sem, o4]
  replace t0 : u.cell? ⟨w.heap.size + 1, 0, none⟩ = some (.slice none 0 0) := by rw [← hu]; simp [go_sem, t0]
  replace t1 : u.cell? ⟨w.heap.size + 1, 1, none⟩ = some (.slice none 0 0) := by rw [← hu]; simp [go_sem, t1]
  replace t2 : u.cell? ⟨w.heap.size + 1, 2, none⟩ = some (.int .i64 0) := by rw [← hu]; simp [go_sem, t2]
  replace t3 : u.cell? ⟨w.heap.size + 1, 3, none⟩ = some (.int .i64 0) := by rw [← hu]; simp [go_sem, t3]
  replace t4 : u.cell? ⟨w.heap.size + 1, 4, none⟩ = some (.int .i64 0) := by rw [← hu]; simp [go_sem, t4]
  replace x0 : ∀ o, u.frozen? ⟨w.heap.size, o, none⟩ = false := fun o => by rw [← hu]; simp [go_sem, x0]
  replace x1 : ∀ o, u.frozen? ⟨w.heap.size + 1, o, none⟩ = false := fun o => by rw [← hu]; simp [go_sem, x1]
  replace x2 : ∀ o, u.frozen? ⟨w.heap.size + 1 + 1, o, none⟩ = false := fun o => by rw [← hu]; simp [go_sem, x2]
  replace hz1 : w.heap.size + 1 + 1 + 1 ≤ u.heap.size := by rw [← hu]; simpa using hz1
  have H0' : Ints u s0 c.homes := by rw [← hu]; exact H0.setR R0 (by omega) _ _
  have R0' : RowI u (w.heap.size + 1 + 1 + 1) s0 c.homes.length := by rw [← hu]; exact R0.setR (by omega) _ _
  clear hu H0 R0
  refine (toIntS_any _ _ _ _ (h1.below HS) l1).mono ?_
  rintro r w2 ⟨s1, rfl, H1, R1, hB⟩
  have H0 := H0'.below hB
  have R0 := R0'.below hB
  replace p0 := celB hB p0
  replace o0 := celB hB o0
  replace t0 := celB hB t0
  replace p1 := celB hB p1
  replace o1 := celB hB o1
  replace t1 := celB hB t1
  replace p2 := celB hB p2
  replace o2 := celB hB o2
  replace t2 := celB hB t2
  replace p3 := celB hB p3
  replace o3 := celB hB o3
  replace t3 := celB hB t3
  replace p4 := celB hB p4
  replace o4 := celB hB o4
  replace t4 := celB hB t4
  replace x0 := fun o => frzB (o := o) hB (by omega) (x0 o)
  replace x1 := fun o => frzB (o := o) hB (by omega) (x1 o)
  replace x2 := fun o => frzB (o := o) hB (by omega) (x2 o)
  replace R1 := R1.mono (B' := w.heap.size + 1 + 1 + 1) (by omega)
  have HB : Below w.heap.size w w2 := HS.trans (hB.mono HS.size)
  have hz2 : w.heap.size + 1 + 1 + 1 ≤ w2.heap.size := by have := hB.size; omega
  clear hB HS hz1 
  go_wp2
  refine bodyPost_ret (v := .agg #[.slice s0 c.homes.length c.homes.length, .slice s1 c.steps.length c.steps.length, .int .i64 c.leader, .int .i64 c.epoch, .int .i64 c.stamp]) (by simp [results, Tryd.results30, go_sem, t0, t1, t2, t3, t4]) rfl ⟨_, _, rfl, ?_, ?_, ?_, ?_, ?_⟩
  · exact (((((((((H0.setR R0 (by omega) _ _).setR (R0.setR (by omega) _ _) (by omega) _ _).setR ((R0.setR (by omega) _ _).setR (by omega) _ _) (by omega) _ _).setR (((R0.setR (by omega) _ _).setR (by omega) _ _).setR (by omega) _ _) (by omega) _ _).setR ((((R0.setR (by omega) _ _).setR (by omega) _ _).setR (by omega) _ _).setR (by omega) _ _) (by omega) _ _).setR (((((R0.setR (by omega) _ _).setR (by omega) _ _).setR (by omega) _ _).setR (by omega) _ _).setR (by omega) _ _) (by omega) _ _).setR ((((((R0.setR (by omega) _ _).setR (by omega) _ _).setR (by omega) _ _).setR (by omega) _ _).setR (by omega) _ _).setR (by omega) _ _) (by omega) _ _).setR (((((((R0.setR (by omega) _ _).setR (by omega) _ _).setR (by omega) _ _).setR (by omega) _ _).setR (by omega) _ _).setR (by omega) _ _).setR (by omega) _ _) (by omega) _ _).setR ((((((((R0.setR (by omega) _ _).setR (by omega) _ _).setR (by omega) _ _).setR (by omega) _ _).setR (by omega) _ _).setR (by omega) _ _).setR (by omega) _ _).setR (by omega) _ _) (by omega) _ _)
  · exact (((((((((R0.setR (by omega) _ _).setR (by omega) _ _).setR (by omega) _ _).setR (by omega) _ _).setR (by omega) _ _).setR (by omega) _ _).setR (by omega) _ _).setR (by omega) _ _).setR (by omega) _ _).mono (by omega)
  · exact (((((((((H1.setR R1 (by omega) _ _).setR (R1.setR (by omega) _ _) (by omega) _ _).setR ((R1.setR (by omega) _ _).setR (by omega) _ _) (by omega) _ _).setR (((R1.setR (by omega) _ _).setR (by omega) _ _).setR (by omega) _ _) (by omega) _ _).setR ((((R1.setR (by omega) _ _).setR (by omega) _ _).setR (by omega) _ _).setR (by omega) _ _) (by omega) _ _).setR (((((R1.setR (by omega) _ _).setR (by omega) _ _).setR (by omega) _ _).setR (by omega) _ _).setR (by omega) _ _) (by omega) _ _).setR ((((((R1.setR (by omega) _ _).setR (by omega) _ _).setR (by omega) _ _).setR (by omega) _ _).setR (by omega) _ _).setR (by omega) _ _) (by omega) _ _).setR (((((((R1.setR (by omega) _ _).setR (by omega) _ _).setR (by omega) _ _).setR (by omega) _ _).setR (by omega) _ _).setR (by omega) _ _).setR (by omega) _ _) (by omega) _ _).setR ((((((((R1.setR (by omega) _ _).setR (by omega) _ _).setR (by omega) _ _).setR (by omega) _ _).setR (by omega) _ _).setR (by omega) _ _).setR (by omega) _ _).setR (by omega) _ _) (by omega) _ _)
  · exact (((((((((R1.setR (by omega) _ _).setR (by omega) _ _).setR (by omega) _ _).setR (by omega) _ _).setR (by omega) _ _).setR (by omega) _ _).setR (by omega) _ _).setR (by omega) _ _).setR (by omega) _ _).mono (by omega)
  · exact (((((((((HB.setCell (by first | (simp; done) | (simp; omega)) _).setCell (by first | (simp; done) | (simp; omega)) _).setCell (by first | (simp; done) | (simp; omega)) _).setCell (by first | (simp; done) | (simp; omega)) _).setCell (by first | (simp; done) | (simp; omega)) _).setCell (by first | (simp; done) | (simp; omega)) _).setCell (by first | (simp; done) | (simp; omega)) _).setCell (by first | (simp; done) | (simp; omega)) _).setCell (by first | (simp; done) | (simp; omega)) _)

theorem Tryd.infoPn : (Tryd.prog.info? 61).map (fun i => (i.zero, i.size, i.bytes)) = some (some (.agg #[.slice none 0 0, .slice none 0 0, .int .i64 0, .int .i64 0, .int .i64 0]), 5, 72) := by kernel_rfl

/-- The row at N holds the first k; their own lists lie behind N. -/
def PnTo (w : World) (N : Nat) (f : Nat → Value) (l : List Pn) (k : Nat) : Prop :=
  ∀ i c, i < k → l[i]? = some c → ∃ r0 k0 r1 k1, f (i * 5) = .slice r0 c.homes.length k0 ∧ f (i * 5 + 1) = .slice r1 c.steps.length k1 ∧ f (i * 5 + 2) = .int .i64 c.leader ∧ f (i * 5 + 3) = .int .i64 c.epoch ∧ f (i * 5 + 4) = .int .i64 c.stamp ∧ Ints w r0 c.homes ∧ c.homes.length ≤ maxLen ∧ RowI w (N + 1) r0 c.homes.length ∧ Ints w r1 c.steps ∧ c.steps.length ≤ maxLen ∧ RowI w (N + 1) r1 c.steps.length ∧ c.homes.length ≤ k0 ∧ c.steps.length ≤ k1

theorem PnTo.below {w w' : World} {N : Nat} {f : Nat → Value} {l : List Pn} {k : Nat} (h : PnTo w N f l k) (hb : Below w.heap.size w w') : PnTo w' N f l k := fun i c hi hc => by
  obtain ⟨r0, k0, r1, k1, c0, c1, c2, c3, c4, q0, m0, R0, q1, m1, R1, e0, e1⟩ := h i c hi hc
  exact ⟨r0, k0, r1, k1, c0, c1, c2, c3, c4, q0.below hb, m0, R0.below hb, q1.below hb, m1, R1.below hb, e0, e1⟩

set_option maxHeartbeats 1000000 in
theorem PnTo_step {w : World} {N : Nat} {t : TypeId} {m : Nat} {f : Nat → Value} {l : List Pn} {k : Nat} {b : Pn} {r0 : Option Addr} {k0 : Nat} {r1 : Option Addr} {k1 : Nat} (hR : w.rowIs N t (m * 5) f) (hO : PnTo w N f l k) (hb : l[k]? = some b) (h0 : Ints w r0 b.homes) (m0 : b.homes.length ≤ maxLen) (R0 : RowI w (N + 1) r0 b.homes.length) (h1 : Ints w r1 b.steps) (m1 : b.steps.length ≤ maxLen) (R1 : RowI w (N + 1) r1 b.steps.length) (e0 : b.homes.length ≤ k0) (e1 : b.steps.length ≤ k1) :
    ∃ g, (((((w.setCell ⟨N, k * 5, none⟩ (.slice r0 b.homes.length k0)).setCell ⟨N, k * 5 + 1, none⟩ (.slice r1 b.steps.length k1)).setCell ⟨N, k * 5 + 2, none⟩ (.int .i64 b.leader)).setCell ⟨N, k * 5 + 3, none⟩ (.int .i64 b.epoch)).setCell ⟨N, k * 5 + 4, none⟩ (.int .i64 b.stamp)).rowIs N t (m * 5) g ∧ PnTo (((((w.setCell ⟨N, k * 5, none⟩ (.slice r0 b.homes.length k0)).setCell ⟨N, k * 5 + 1, none⟩ (.slice r1 b.steps.length k1)).setCell ⟨N, k * 5 + 2, none⟩ (.int .i64 b.leader)).setCell ⟨N, k * 5 + 3, none⟩ (.int .i64 b.epoch)).setCell ⟨N, k * 5 + 4, none⟩ (.int .i64 b.stamp)) N g l (k + 1) := by
  refine ⟨_, (((((hR.set _ _).set _ _).set _ _).set _ _).set _ _), fun i c hi hc => ?_⟩
  by_cases e : i = k
  · subst e
    obtain rfl : b = c := by rw [hb] at hc; simpa using hc
    refine ⟨r0, k0, r1, k1, ?_, ?_, ?_, ?_, ?_, (((((h0.setR R0 (by omega) _ _).setR (R0.setR (by omega) _ _) (by omega) _ _).setR ((R0.setR (by omega) _ _).setR (by omega) _ _) (by omega) _ _).setR (((R0.setR (by omega) _ _).setR (by omega) _ _).setR (by omega) _ _) (by omega) _ _).setR ((((R0.setR (by omega) _ _).setR (by omega) _ _).setR (by omega) _ _).setR (by omega) _ _) (by omega) _ _), m0, (((((R0.setR (by omega) _ _).setR (by omega) _ _).setR (by omega) _ _).setR (by omega) _ _).setR (by omega) _ _), (((((h1.setR R1 (by omega) _ _).setR (R1.setR (by omega) _ _) (by omega) _ _).setR ((R1.setR (by omega) _ _).setR (by omega) _ _) (by omega) _ _).setR (((R1.setR (by omega) _ _).setR (by omega) _ _).setR (by omega) _ _) (by omega) _ _).setR ((((R1.setR (by omega) _ _).setR (by omega) _ _).setR (by omega) _ _).setR (by omega) _ _) (by omega) _ _), m1, (((((R1.setR (by omega) _ _).setR (by omega) _ _).setR (by omega) _ _).setR (by omega) _ _).setR (by omega) _ _), e0, e1⟩ <;> simp
  · obtain ⟨r0', k0', r1', k1', c0, c1, c2, c3, c4, q0, m0', S0, q1, m1', S1, e0', e1'⟩ := hO i c (by omega) hc
    refine ⟨r0', k0', r1', k1', ?_, ?_, ?_, ?_, ?_, (((((q0.setR S0 (by omega) _ _).setR (S0.setR (by omega) _ _) (by omega) _ _).setR ((S0.setR (by omega) _ _).setR (by omega) _ _) (by omega) _ _).setR (((S0.setR (by omega) _ _).setR (by omega) _ _).setR (by omega) _ _) (by omega) _ _).setR ((((S0.setR (by omega) _ _).setR (by omega) _ _).setR (by omega) _ _).setR (by omega) _ _) (by omega) _ _), m0', (((((S0.setR (by omega) _ _).setR (by omega) _ _).setR (by omega) _ _).setR (by omega) _ _).setR (by omega) _ _), (((((q1.setR S1 (by omega) _ _).setR (S1.setR (by omega) _ _) (by omega) _ _).setR ((S1.setR (by omega) _ _).setR (by omega) _ _) (by omega) _ _).setR (((S1.setR (by omega) _ _).setR (by omega) _ _).setR (by omega) _ _) (by omega) _ _).setR ((((S1.setR (by omega) _ _).setR (by omega) _ _).setR (by omega) _ _).setR (by omega) _ _) (by omega) _ _), m1', (((((S1.setR (by omega) _ _).setR (by omega) _ _).setR (by omega) _ _).setR (by omega) _ _).setR (by omega) _ _), e0', e1'⟩
    · rw [if_neg (by omega), if_neg (by omega), if_neg (by omega), if_neg (by omega), if_neg (by omega)]; exact c0
    · rw [if_neg (by omega), if_neg (by omega), if_neg (by omega), if_neg (by omega), if_neg (by omega)]; exact c1
    · rw [if_neg (by omega), if_neg (by omega), if_neg (by omega), if_neg (by omega), if_neg (by omega)]; exact c2
    · rw [if_neg (by omega), if_neg (by omega), if_neg (by omega), if_neg (by omega), if_neg (by omega)]; exact c3
    · rw [if_neg (by omega), if_neg (by omega), if_neg (by omega), if_neg (by omega), if_neg (by omega)]; exact c4

theorem Pns.of_to {w : World} {N : Nat} {t : TypeId} {f : Nat → Value} {l : List Pn} (hR : w.rowIs N t (l.length * 5) f) (hO : PnTo w N f l l.length) : Pns w (some ⟨N, 0, none⟩) l := fun i c hi => by
  have hlt := (List.getElem?_eq_some_iff.1 hi).1
  obtain ⟨r0, k0, r1, k1, c0, c1, c2, c3, c4, q0, m0, -, q1, m1, -, -, -⟩ := hO i c hlt hi
  refine ⟨N, 0, rfl, r0, k0, r1, k1, ?_, ?_, ?_, ?_, ?_, q0, m0, q1, m1⟩
  · rw [Nat.zero_add, hR.cell (by omega), c0]
  · rw [Nat.zero_add, hR.cell (by omega), c1]
  · rw [Nat.zero_add, hR.cell (by omega), c2]
  · rw [Nat.zero_add, hR.cell (by omega), c3]
  · rw [Nat.zero_add, hR.cell (by omega), c4]

/-- Their lists are no longer than they have room for. -/
def PnsK (w : World) (a : Option Addr) (l : List Pn) : Prop :=
  ∀ i c, l[i]? = some c → ∃ K o r0 k0 r1 k1, a = some ⟨K, o, none⟩ ∧ w.cell? ⟨K, o + i * 5, none⟩ = some (.slice r0 c.homes.length k0) ∧ c.homes.length ≤ k0 ∧ w.cell? ⟨K, o + i * 5 + 1, none⟩ = some (.slice r1 c.steps.length k1) ∧ c.steps.length ≤ k1

theorem PnsK.below {w w' : World} {a : Option Addr} {l : List Pn} (h : PnsK w a l) (hb : Below w.heap.size w w') : PnsK w' a l := fun i c hi => by
  obtain ⟨K, o, r0, k0, r1, k1, e, x0, y0, x1, y1⟩ := h i c hi
  exact ⟨K, o, r0, k0, r1, k1, e, celB hb x0, y0, celB hb x1, y1⟩

theorem PnsK.of_to {w : World} {N : Nat} {t : TypeId} {f : Nat → Value} {l : List Pn} (hR : w.rowIs N t (l.length * 5) f) (hO : PnTo w N f l l.length) : PnsK w (some ⟨N, 0, none⟩) l := fun i c hi => by
  have hlt := (List.getElem?_eq_some_iff.1 hi).1
  obtain ⟨r0, k0, r1, k1, c0, c1, c2, c3, c4, -, -, -, -, -, -, e0, e1⟩ := hO i c hlt hi
  refine ⟨N, 0, r0, k0, r1, k1, rfl, ?_, e0, ?_, e1⟩
  · rw [Nat.zero_add, hR.cell (by omega), c0]
  · rw [Nat.zero_add, hR.cell (by omega), c1]

/-- It reads so, and all of it lies in blocks from B on. -/
def PnsA (w : World) (B : Nat) (a : Option Addr) (l : List Pn) : Prop := ∀ w2 : World, (∀ b, B ≤ b → b < w.heap.size → w2.heap[b]? = w.heap[b]?) → Pns w2 a l ∧ PnsK w2 a l

theorem PnsA.here {w : World} {B : Nat} {a : Option Addr} {l : List Pn} (h : PnsA w B a l) : Pns w a l := (h w fun _ _ _ => rfl).1

theorem PnsA.hereK {w : World} {B : Nat} {a : Option Addr} {l : List Pn} (h : PnsA w B a l) : PnsK w a l := (h w fun _ _ _ => rfl).2

theorem PnsA.below {w w' : World} {B : Nat} {a : Option Addr} {l : List Pn} (h : PnsA w B a l) (hb : Below w.heap.size w w') : PnsA w' B a l := fun w2 h2 =>
  h w2 fun b h1 hl => (h2 b h1 (by have := hb.size; omega)).trans (hb.block b hl)

theorem PnsA.mono {w : World} {B B' : Nat} {a : Option Addr} {l : List Pn} (h : PnsA w B a l) (hb : B' ≤ B) : PnsA w B' a l := fun w2 h2 =>
  h w2 fun b h1 hl => h2 b (by omega) hl

theorem PnsA.setR {w : World} {B N : Nat} {a : Option Addr} {l : List Pn} (h : PnsA w B a l) (hN : N < B) (o : Nat) (v : Value) : PnsA (w.setCell ⟨N, o, none⟩ v) B a l := fun w2 h2 =>
  h w2 fun b h1 hl => (h2 b h1 (by simpa using hl)).trans (Below.heap_setCell w ⟨N, o, none⟩ v b (by simp; omega))

theorem PnsA.of_to {w : World} {N : Nat} {t : TypeId} {f : Nat → Value} {l : List Pn} (hR : w.rowIs N t (l.length * 5) f) (hO : PnTo w N f l l.length) : PnsA w N (some ⟨N, 0, none⟩) l := fun w2 h2 => by
  have hO2 : PnTo w2 N f l l.length := fun i c hi hc => by
    obtain ⟨r0, k0, r1, k1, c0, c1, c2, c3, c4, q0, m0, R0, q1, m1, R1, e0, e1⟩ := hO i c hi hc
    exact ⟨r0, k0, r1, k1, c0, c1, c2, c3, c4, q0.of_block fun b hb => h2 b (by have := (R0.lt hb).1; omega) (R0.lt hb).2, m0, R0.of_block fun b hb => h2 b (by have := (R0.lt hb).1; omega) (R0.lt hb).2, q1.of_block fun b hb => h2 b (by have := (R1.lt hb).1; omega) (R1.lt hb).2, m1, R1.of_block fun b hb => h2 b (by have := (R1.lt hb).1; omega) (R1.lt hb).2, e0, e1⟩
  exact ⟨Pns.of_to (hR.of_block (h2 N (Nat.le_refl _) hR.lt)) hO2, PnsK.of_to (hR.of_block (h2 N (Nat.le_refl _) hR.lt)) hO2⟩

set_option maxHeartbeats 2000000 in
theorem toPartitionS_any (a : Option Addr) (c : Nat) (l : List Pn) (w : World) (hs : Pns w a l) (hl : l.length ≤ 1048576) (hrec : ∀ c, c ∈ l → c.homes.length ≤ 1048576 ∧ c.steps.length ≤ 1048576) :
    Calls Tryd.prog 17 #[.slice a l.length c] w fun e w' => ∃ a', e = .returned (.slice a' l.length l.length) ∧ Pns w' a' l ∧ PnsA w' w.heap.size a' l ∧ Below w.heap.size w w' := by
  have hmk := run_make_manyV (P := Tryd.prog) 31 61 _ 5 72 Tryd.underlying31 Tryd.infoPn .i64 .i64 l.length (by omega) (by omega)
  go_enter Tryd.func17, Tryd.ntmps17
  go_wp2
  have hB : ∀ o, Below w.heap.size w (w.alloc o) := fun o => (Below.refl _ _).alloc (Nat.le_refl _) o
  go_loopw [4] (fun i wr => ∃ k : Nat, k ≤ l.length ∧ i = .int .i64 k ∧ ∃ f, wr.rowIs w.heap.size 61 (l.length * 5) f ∧ PnTo wr w.heap.size f l k ∧ Below w.heap.size w wr) (fun i _ => l.length - (intOf i).toNat)
  case atStart => exact ⟨0, Nat.zero_le _, rfl, _, by simpa [size_madeCells] using rowIs_of_allocV w (madeCells _ (l.length * 5)) 61, fun i b hi => absurd hi (Nat.not_lt_zero _), hB _⟩
  case round =>
    clear hB
    obtain ⟨k, hk, rfl, f, hR, hO, hB⟩ := hrel
    by_cases hlt : k < l.length
    · obtain ⟨b, hkb⟩ := getPn hlt
      obtain ⟨kb, ob, rfl, hbt⟩ := (hs.below hB) k b hkb
      obtain ⟨r0, k0, r1, k1, c0, c1, c2, c3, c4, q0, m0, q1, m1⟩ := hbt
      have hrl := hrec b (List.mem_of_getElem? hkb)
      have HK : Hid (l[k]? = some b) := hkb
      clear hs hkb
      go_wp2_with fail
      refine (toPartition_any b _ _ _ _ _ q0 q1 hrl.1 hrl.2).mono ?_
      rintro r w1 ⟨s0, s1, rfl, H0, R0, H1, R1, hB1⟩
      have hR1 : w1.rowIs w.heap.size 61 (l.length * 5) f := hR.of_block (hB1.block _ hR.lt)
      have d0 := hR1.cell (i := k * 5) (by omega)
      have d1 := hR1.cell (i := k * 5 + 1) (by omega)
      have d2 := hR1.cell (i := k * 5 + 2) (by omega)
      have d3 := hR1.cell (i := k * 5 + 3) (by omega)
      have d4 := hR1.cell (i := k * 5 + 4) (by omega)
      replace R0 := R0.mono (B' := w.heap.size + 1) (by have := hR.lt; omega)
      replace R1 := R1.mono (B' := w.heap.size + 1) (by have := hR.lt; omega)
      have hf := hR1.frozen
      have hO1 := hO.below hB1
      have hBn := hB.trans (hB1.mono hB.size)
      clear hO hB hB1 hR
      go_wp2
      go_roundw
      case rel =>
        obtain ⟨g, hg, hOg⟩ := PnTo_step (k0 := b.homes.length) (k1 := b.steps.length) hR1 hO1 HK.out H0 m0 R0 H1 m1 R1 (Nat.le_refl _) (Nat.le_refl _)
        exact ⟨k + 1, by omega, by go_num, g, hg, hOg, (((((hBn.setCell (Nat.le_refl _) _).setCell (Nat.le_refl _) _).setCell (Nat.le_refl _) _).setCell (Nat.le_refl _) _).setCell (Nat.le_refl _) _)⟩
      case measure => simp [intOf]; omega
    · go_wp2
      go_ret
      obtain rfl : k = l.length := by omega
      exact ⟨_, rfl, Pns.of_to hR hO, PnsA.of_to hR hO, hB⟩

set_option maxHeartbeats 1000000 in
theorem eqPartition_same (c : Pn) (r0 t0 r1 t1 : Option Addr) (k0 j0 k1 j1 : Nat) (w : World) (h0 : Ints w r0 c.homes) (g0 : Ints w t0 c.homes) (l0 : c.homes.length ≤ maxLen) (h1 : Ints w r1 c.steps) (g1 : Ints w t1 c.steps) (l1 : c.steps.length ≤ maxLen) :
    Calls Tryd.prog 42 #[.agg #[.slice r0 c.homes.length k0, .slice r1 c.steps.length k1, .int .i64 c.leader, .int .i64 c.epoch, .int .i64 c.stamp], .agg #[.slice t0 c.homes.length j0, .slice t1 c.steps.length j1, .int .i64 c.leader, .int .i64 c.epoch, .int .i64 c.stamp]] w fun r w' => r = .returned (.bool true) ∧ Below w.heap.size w w' := by
  have HB : ∀ x y, Below w.heap.size w ((w.alloc x).alloc y) := fun _ _ => ((Below.refl _ _).alloc (Nat.le_refl _) _).alloc (by simp) _
  go_enter Tryd.func42, Tryd.ntmps42
  go_wp2_with fail
  refine (eqIntS_same _ _ _ _ _ _ (h0.below (HB _ _)) (g0.below (HB _ _)) l0).mono ?_
  rintro r w1 ⟨rfl, hB⟩
  have p1 : w1.cell? ⟨w.heap.size, 1, none⟩ = some (.slice r1 c.steps.length k1) := celB hB (by simp [go_sem])
  have o1 : w1.cell? ⟨w.heap.size + 1, 1, none⟩ = some (.slice t1 c.steps.length j1) := celB hB (by simp [go_sem])
  have p2 : w1.cell? ⟨w.heap.size, 2, none⟩ = some (.int .i64 c.leader) := celB hB (by simp [go_sem])
  have o2 : w1.cell? ⟨w.heap.size + 1, 2, none⟩ = some (.int .i64 c.leader) := celB hB (by simp [go_sem])
  have p3 : w1.cell? ⟨w.heap.size, 3, none⟩ = some (.int .i64 c.epoch) := celB hB (by simp [go_sem])
  have o3 : w1.cell? ⟨w.heap.size + 1, 3, none⟩ = some (.int .i64 c.epoch) := celB hB (by simp [go_sem])
  have p4 : w1.cell? ⟨w.heap.size, 4, none⟩ = some (.int .i64 c.stamp) := celB hB (by simp [go_sem])
  have o4 : w1.cell? ⟨w.heap.size + 1, 4, none⟩ = some (.int .i64 c.stamp) := celB hB (by simp [go_sem])
  have BB : Below w.heap.size w w1 := (HB _ _).trans (hB.mono (HB _ _).size)
  clear hB
  go_wp2_with fail
  refine (eqIntS_same _ _ _ _ _ _ (h1.below BB) (g1.below BB) l1).mono ?_
  rintro r w2 ⟨rfl, hB⟩
  replace p2 := celB hB p2
  replace o2 := celB hB o2
  replace p3 := celB hB p3
  replace o3 := celB hB o3
  replace p4 := celB hB p4
  replace o4 := celB hB o4
  replace BB : Below w.heap.size w w2 := BB.trans (hB.mono BB.size)
  clear hB
  go_wp2
  go_ret
  exact ⟨rfl, BB⟩

set_option maxHeartbeats 1000000 in
theorem eqPartitionS_same (a a2 : Option Addr) (c c2 : Nat) (l : List Pn) (w : World) (hx : Pns w a l) (hy : Pns w a2 l) (hl : l.length ≤ maxLen) :
    Calls Tryd.prog 23 #[.slice a l.length c, .slice a2 l.length c2] w fun e w' => e = .returned (.bool true) ∧ Below w.heap.size w w' := by
  unfold maxLen at hl
  go_enter Tryd.func23, Tryd.ntmps23
  go_wp2
  go_loopw [5] (fun i wr => ∃ k : Nat, k ≤ l.length ∧ i = .int .i64 k ∧ Below w.heap.size w wr) (fun i _ => l.length - (intOf i).toNat)
  case atStart => exact ⟨0, Nat.zero_le _, rfl, Below.refl _ _⟩
  case round =>
    obtain ⟨k, hk, rfl, hB⟩ := hrel
    by_cases hlt : k < l.length
    · obtain ⟨b, hkb⟩ := getPn hlt
      obtain ⟨kb, ob, rfl, hbt⟩ := (hx.below hB) k b hkb
      obtain ⟨r0, k0, r1, k1, c0, c1, c2, c3, c4, q0, m0, q1, m1⟩ := hbt
      obtain ⟨kb2, ob2, rfl, hbt2⟩ := (hy.below hB) k b hkb
      obtain ⟨t0, j0, t1, j1, d0, d1, d2, d3, d4, g0, -, g1, -⟩ := hbt2
      clear hx hy hkb
      go_wp2
      go_region_with (go_at_call 42; refine (eqPartition_same _ _ _ _ _ _ _ _ _ _ ?_ ?_ m0 ?_ ?_ m1).mono ?_; exact q0.below (Below.refl _ _).drew; exact g0.below (Below.refl _ _).drew; exact q1.below (Below.refl _ _).drew; exact g1.below (Below.refl _ _).drew; rintro r w1 ⟨rfl, hB1⟩)
      all_goals
        go_wp2
        go_roundw
        case rel => exact ⟨k + 1, by omega, by go_num, hB.drew.trans (hB1.mono (by simpa using hB.size))⟩
        case measure => simp [intOf]; omega
    · go_wp2
      go_ret
      exact ⟨rfl, hB⟩

end Go.Proofs.YtfehndedkffpfaaDoor
