/-
  Lists of Node as a call reads them, and the contracts of the laws' helpers on them: szNode, szNodeS, toNode, toNodeS, eqNode, eqNodeS. Made by mkbag.py.
-/
import Derived.Test.YtekjpbfmiebigaaDoorBagAid
import Derived.Test.YtekjpbfmiebigaaDoorRwi
import Derived.Test.YtekjpbfmiebigaaDoorVw
namespace Go.Proofs.YtekjpbfmiebigaaDoor
open Go.RowKit

/-- One Node: what its fields read. -/
structure Nd where
  epoch : Int
  leader : Int
  steps : List Int
  log : List Rw
  known : List Int
  told : Int
deriving DecidableEq

/-- At block K, from cell o on, one lies. -/
def NdAt (w : World) (K o : Nat) (c : Nd) : Prop :=
  ∃ r2 k2 r3 k3 r4 k4, w.cell? ⟨K, o, none⟩ = some (.int .i64 c.epoch) ∧ w.cell? ⟨K, o + 1, none⟩ = some (.int .i64 c.leader) ∧ w.cell? ⟨K, o + 2, none⟩ = some (.slice r2 c.steps.length k2) ∧ w.cell? ⟨K, o + 3, none⟩ = some (.slice r3 c.log.length k3) ∧ w.cell? ⟨K, o + 4, none⟩ = some (.slice r4 c.known.length k4) ∧ w.cell? ⟨K, o + 5, none⟩ = some (.int .i64 c.told) ∧ Ints w r2 c.steps ∧ c.steps.length ≤ maxLen ∧ Rws w r3 c.log ∧ c.log.length ≤ maxLen ∧ Ints w r4 c.known ∧ c.known.length ≤ maxLen

/-- The slice value at 'a' reads as these. -/
def Nds (w : World) (a : Option Addr) (l : List Nd) : Prop :=
  ∀ i c, l[i]? = some c → ∃ K o, a = some ⟨K, o, none⟩ ∧ NdAt w K (o + i * 6) c

theorem NdAt.below {w w' : World} {K o : Nat} {c : Nd} (h : NdAt w K o c) (hb : Below w.heap.size w w') : NdAt w' K o c := by
  obtain ⟨r2, k2, r3, k3, r4, k4, c0, c1, c2, c3, c4, c5, q2, m2, q3, m3, q4, m4⟩ := h
  have lt := lt_of_cell c0
  exact ⟨r2, k2, r3, k3, r4, k4, (hb.cell (p := ⟨K, o, none⟩) lt).trans c0, (hb.cell (p := ⟨K, o + 1, none⟩) lt).trans c1, (hb.cell (p := ⟨K, o + 2, none⟩) lt).trans c2, (hb.cell (p := ⟨K, o + 3, none⟩) lt).trans c3, (hb.cell (p := ⟨K, o + 4, none⟩) lt).trans c4, (hb.cell (p := ⟨K, o + 5, none⟩) lt).trans c5, q2.below hb, m2, q3.below hb, m3, q4.below hb, m4⟩

theorem Nds.below {w w' : World} {a : Option Addr} {l : List Nd} (h : Nds w a l) (hb : Below w.heap.size w w') : Nds w' a l := fun i c hi => by
  obtain ⟨K, o, e, hB⟩ := h i c hi
  exact ⟨K, o, e, hB.below hb⟩

theorem Nds.nil (w : World) (a : Option Addr) : Nds w a [] := fun i f hi => by simp at hi

theorem getNd {l : List Nd} {k : Nat} (h : k < l.length) : ∃ s, l[k]? = some s := ⟨_, List.getElem?_eq_getElem h⟩

theorem takeNd_snoc {l : List Nd} {k : Nat} {s : Nd} (h : l[k]? = some s) : l.take (k + 1) = l.take k ++ [s] := by
  rw [List.take_add_one, h]; rfl

theorem dropNd_cons {l : List Nd} {k : Nat} {b : Nd} (h : l[k]? = some b) : l.drop k = b :: l.drop (k + 1) := by
  obtain ⟨hlt, e⟩ := List.getElem?_eq_some_iff.1 h
  rw [List.drop_eq_getElem_cons hlt, e]

def szNd (c : Nd) (left : Int) : Int := if szN c.steps.length left < 0 then -1 else if szN c.log.length (szN c.steps.length left) < 0 then -1 else szN c.known.length (szN c.log.length (szN c.steps.length left))

theorem szNd_range (c : Nd) {left : Int} (h0 : 0 ≤ left) : -1 ≤ szNd c left ∧ szNd c left ≤ left := by
  unfold szNd
  have e0 := szN_range c.steps.length (left := left)
  have e1 := szN_range c.log.length (left := (szN c.steps.length left))
  have e2 := szN_range c.known.length (left := (szN c.log.length (szN c.steps.length left)))
  repeat' split
  all_goals omega

theorem szNd_bound {c : Nd} {left : Int} (h : 0 ≤ szNd c left) : (c.steps.length : Int) ≤ left ∧ (c.log.length : Int) ≤ left ∧ (c.known.length : Int) ≤ left := by
  unfold szNd szN at h
  repeat' split at h
  all_goals omega

theorem szVw_n (e d : Int) (l : List Int) {left : Int} (h0 : 0 ≤ left) : szVw ⟨e, d, l⟩ left = szN l.length left := by
  have e0 := szN_range l.length (left := left) h0
  unfold szVw
  dsimp only
  repeat' split
  all_goals omega

set_option maxHeartbeats 1000000 in
theorem szNode_any (c : Nd) (r2 r3 r4 : Option Addr) (k2 k3 k4 : Nat) (left : Int) (w : World) (l2 : c.steps.length ≤ maxLen) (l3 : c.log.length ≤ maxLen) (l4 : c.known.length ≤ maxLen) (h0 : 0 ≤ left) (h1 : left ≤ 1048576) :
    Calls Tryd.prog 51 #[.agg #[.int .i64 c.epoch, .int .i64 c.leader, .slice r2 c.steps.length k2, .slice r3 c.log.length k3, .slice r4 c.known.length k4, .int .i64 c.told], .int .i64 left] w fun r w' => r = .returned (.int .i64 (szNd c left)) ∧ Below w.heap.size w w' := by
  have e0 := szN_range c.steps.length (left := left) h0
  have hv := szVw_n c.epoch c.leader c.steps (left := left) h0
  have HB : ∀ x, Below w.heap.size w (w.alloc x) := fun _ => (Below.refl _ _).alloc (Nat.le_refl _) _
  go_enter Tryd.func51, Tryd.ntmps51
  go_wp2_with fail
  refine (szView_any ⟨c.epoch, c.leader, c.steps⟩ r2 k2 left _ l2 h0 h1).mono ?_
  rintro r w1 ⟨rfl, hB⟩
  rw [hv]
  have p3 : w1.cell? ⟨w.heap.size, 3, none⟩ = some (.slice r3 c.log.length k3) := celB hB (by simp [go_sem])
  have p4 : w1.cell? ⟨w.heap.size, 4, none⟩ = some (.slice r4 c.known.length k4) := celB hB (by simp [go_sem])
  have HW : Below w.heap.size w w1 := (HB _).trans (hB.mono (HB _).size)
  clear hB hv HB
  by_cases n0 : szN c.steps.length left < 0
  · go_wp2
    go_ret
    exact ⟨ret_int (by unfold szNd; repeat' split
                       all_goals omega), HW⟩
  have e1 := szN_range c.log.length (left := (szN c.steps.length left)) (by omega)
  by_cases n1 : szN c.log.length (szN c.steps.length left) < 0
  · go_wp2_with (first | (go_at_call 50; refine (szIntN_any _ _ _ _ _ (by first | exact l2 | exact l4) (by omega) (by omega)).mono ?_; rintro e w' ⟨rfl, rfl⟩) | (go_at_call 34; refine (szRowS_any _ _ _ _ _ (by first | exact l3) (by omega) (by omega)).mono ?_; rintro e w' ⟨rfl, rfl⟩))
    go_ret
    exact ⟨ret_int (by unfold szNd; repeat' split
                       all_goals omega), HW⟩
  have e2 := szN_range c.known.length (left := (szN c.log.length (szN c.steps.length left))) (by omega)
  by_cases n2 : szN c.known.length (szN c.log.length (szN c.steps.length left)) < 0
  · go_wp2_with (first | (go_at_call 50; refine (szIntN_any _ _ _ _ _ (by first | exact l2 | exact l4) (by omega) (by omega)).mono ?_; rintro e w' ⟨rfl, rfl⟩) | (go_at_call 34; refine (szRowS_any _ _ _ _ _ (by first | exact l3) (by omega) (by omega)).mono ?_; rintro e w' ⟨rfl, rfl⟩))
    go_ret
    exact ⟨ret_int (by unfold szNd; repeat' split
                       all_goals omega), HW⟩
  go_wp2_with (first | (go_at_call 50; refine (szIntN_any _ _ _ _ _ (by first | exact l2 | exact l4) (by omega) (by omega)).mono ?_; rintro e w' ⟨rfl, rfl⟩) | (go_at_call 34; refine (szRowS_any _ _ _ _ _ (by first | exact l3) (by omega) (by omega)).mono ?_; rintro e w' ⟨rfl, rfl⟩))
  go_ret
  exact ⟨ret_int (by unfold szNd; repeat' split
                     all_goals omega), HW⟩

/-- What szNodeS answers, one by one. -/
def szNds' : List Nd → Int → Int
  | [], left => left
  | c :: r, left => if szNd c left < 0 then -1 else szNds' r (szNd c left)

def szNds (l : List Nd) (left : Int) : Int := if left - l.length < 0 then -1 else szNds' l (left - l.length)

theorem szNds'_range : ∀ (l : List Nd) (left : Int), 0 ≤ left → -1 ≤ szNds' l left ∧ szNds' l left ≤ left
  | [], left, h => by simp only [szNds']; omega
  | c :: r, left, h => by
    have e := szNd_range c h
    simp only [szNds']; split
    · omega
    · have := szNds'_range r (szNd c left) (by omega)
      omega

theorem szNds_range (l : List Nd) {left : Int} (h : 0 ≤ left) : -1 ≤ szNds l left ∧ szNds l left ≤ left := by
  unfold szNds; split
  · omega
  · have := szNds'_range l (left - l.length) (by omega)
    omega

theorem szNds'_bound : ∀ (l : List Nd) (left : Int), left ≤ 1048576 → 0 ≤ left → 0 ≤ szNds' l left → ∀ c, c ∈ l → c.steps.length ≤ 1048576 ∧ c.log.length ≤ 1048576 ∧ c.known.length ≤ 1048576
  | [], left, _, _, _ => fun c hc => by simp at hc
  | d :: r, left, hl, h0, h => fun c hc => by
    simp only [szNds'] at h; split at h
    · omega
    · have e := szNd_range d h0
      have e2 := szNd_bound (c := d) (left := left) (by omega)
      rcases List.mem_cons.1 hc with rfl | hc
      · omega
      · exact szNds'_bound r (szNd d left) (by omega) (by omega) h c hc

theorem szNds_bound {l : List Nd} {left : Int} (hl : left ≤ 1048576) (h : 0 ≤ szNds l left) : l.length ≤ 1048576 ∧ ∀ c, c ∈ l → c.steps.length ≤ 1048576 ∧ c.log.length ≤ 1048576 ∧ c.known.length ≤ 1048576 := by
  unfold szNds at h; split at h
  · omega
  · exact ⟨by omega, szNds'_bound l (left - l.length) (by omega) (by omega) h⟩

set_option maxHeartbeats 1000000 in
theorem szNodeS_any (a : Option Addr) (c : Nat) (l : List Nd) (left : Int) (w : World) (hs : Nds w a l) (hl : l.length ≤ maxLen) (h0 : 0 ≤ left) (h1 : left ≤ 1048576) :
    Calls Tryd.prog 33 #[.slice a l.length c, .int .i64 left] w fun e w' => e = .returned (.int .i64 (szNds l left)) ∧ Below w.heap.size w w' := by
  unfold maxLen at hl
  by_cases hn : left - (l.length : Int) < 0
  · go_enter Tryd.func33, Tryd.ntmps33
    go_wp2
    go_ret
    exact ⟨ret_int (by unfold szNds; rw [if_pos hn]), Below.refl _ _⟩
  · go_enter Tryd.func33, Tryd.ntmps33
    go_wp2
    go_loopw [1, 5] (fun x i wr => ∃ k : Nat, k ≤ l.length ∧ i = .int .i64 k ∧ ∃ lf : Int, 0 ≤ lf ∧ lf ≤ 1048576 ∧ x = .int .i64 lf ∧ szNds' (l.drop k) lf = szNds' l (left - l.length) ∧ Below w.heap.size w wr) (fun _ i _ => l.length - (intOf i).toNat)
    case atStart => exact ⟨0, Nat.zero_le _, rfl, _, by omega, by omega, rfl, rfl, Below.refl _ _⟩
    case round =>
      obtain ⟨k, hk, rfl, lf, hlf, hlf2, rfl, hsz, hB⟩ := hrel
      by_cases hlt : k < l.length
      · obtain ⟨b, hkb⟩ := getNd hlt
        obtain ⟨kb, ob, rfl, hbt⟩ := (hs.below hB) k b hkb
        obtain ⟨r2, k2, r3, k3, r4, k4, c0, c1, c2, c3, c4, c5, q2, m2, q3, m3, q4, m4⟩ := hbt
        have HD : Hid (szNds' (l.drop k) lf = szNds' l (left - l.length)) := hsz
        clear hsz
        have hr := szNd_range b hlf
        go_wp2_with fail
        refine (szNode_any _ _ _ _ _ _ _ _ _ m2 m3 m4 hlf hlf2).mono ?_
        rintro r w1 ⟨rfl, hB1⟩
        have hBn := hB.trans (hB1.mono hB.size)
        have HK : Hid (l.drop k = b :: l.drop (k + 1)) := dropNd_cons hkb
        clear hs hB1 hB hkb c0 c1 c2 c3 c4 c5
        by_cases hneg : szNd b lf < 0
        · go_wp2
          go_ret
          refine ⟨ret_int ?_, hBn⟩
          have e := HD.out
          rw [HK.out, szNds', if_pos hneg] at e
          unfold szNds; rw [if_neg (by omega), ← e]
        · go_wp2
          go_roundw
          case rel =>
            refine ⟨k + 1, by omega, by go_num, _, by omega, by omega, rfl, ?_, hBn⟩
            have e := HD.out
            rwa [HK.out, szNds', if_neg (by omega)] at e
          case measure => simp [intOf]; omega
      · go_wp2
        go_ret
        refine ⟨ret_int ?_, hB⟩
        rw [List.drop_eq_nil_of_le (by omega)] at hsz
        unfold szNds; rw [if_neg (by omega), ← hsz, szNds']

/-- What toNode answers. -/
def NdNew (w w' : World) (c : Nd) (r : Ending) : Prop :=
  ∃ s2 s3 s4, r = .returned (.agg #[.int .i64 c.epoch, .int .i64 c.leader, .slice s2 c.steps.length c.steps.length, .slice s3 c.log.length c.log.length, .slice s4 c.known.length c.known.length, .int .i64 c.told]) ∧ Ints w' s2 c.steps ∧ RowI w' w.heap.size s2 c.steps.length ∧ Rws w' s3 c.log ∧ RowRw w' w.heap.size s3 c.log.length ∧ Ints w' s4 c.known ∧ RowI w' w.heap.size s4 c.known.length ∧ Below w.heap.size w w'

set_option maxHeartbeats 2000000 in
theorem toNode_any (c : Nd) (r2 r3 r4 : Option Addr) (k2 k3 k4 : Nat) (w : World) (h2 : Ints w r2 c.steps) (h3 : Rws w r3 c.log) (h4 : Ints w r4 c.known) (l2 : c.steps.length ≤ 1048576) (l3 : c.log.length ≤ 1048576) (l4 : c.known.length ≤ 1048576) :
    Calls Tryd.prog 57 #[.agg #[.int .i64 c.epoch, .int .i64 c.leader, .slice r2 c.steps.length k2, .slice r3 c.log.length k3, .slice r4 c.known.length k4, .int .i64 c.told]] w fun r w' => NdNew w w' c r := by
  have hb3 : ∀ x y z, Below w.heap.size w (((w.alloc x).alloc y).alloc z) := fun _ _ _ => (((Below.refl _ _).alloc (Nat.le_refl _) _).alloc (by simp) _).alloc (by simp; omega) _
  go_enter Tryd.func57, Tryd.ntmps57
  go_wp2_with fail
  refine (toView_any ⟨c.epoch, c.leader, c.steps⟩ r2 k2 _ (h2.below (hb3 _ _ _)) l2).mono ?_
  rintro r w1 ⟨s2, rfl, H2, R2, hB⟩
  have HB : Below w.heap.size w w1 := (hb3 _ _ _).trans (hB.mono (hb3 _ _ _).size)
  have p0 : w1.cell? ⟨w.heap.size, 0, none⟩ = some (.int .i64 c.epoch) := celB hB (by simp [go_sem])
  have p1 : w1.cell? ⟨w.heap.size, 1, none⟩ = some (.int .i64 c.leader) := celB hB (by simp [go_sem])
  have p2 : w1.cell? ⟨w.heap.size, 2, none⟩ = some (.slice r2 c.steps.length k2) := celB hB (by simp [go_sem])
  have p3 : w1.cell? ⟨w.heap.size, 3, none⟩ = some (.slice r3 c.log.length k3) := celB hB (by simp [go_sem])
  have p4 : w1.cell? ⟨w.heap.size, 4, none⟩ = some (.slice r4 c.known.length k4) := celB hB (by simp [go_sem])
  have p5 : w1.cell? ⟨w.heap.size, 5, none⟩ = some (.int .i64 c.told) := celB hB (by simp [go_sem])
  have o0 : w1.cell? ⟨w.heap.size + 1 + 1, 0, none⟩ = some (.int .i64 0) := celB hB (by simp [go_sem])
  have o1 : w1.cell? ⟨w.heap.size + 1 + 1, 1, none⟩ = some (.int .i64 0) := celB hB (by simp [go_sem])
  have o2 : w1.cell? ⟨w.heap.size + 1 + 1, 2, none⟩ = some (.slice none 0 0) := celB hB (by simp [go_sem])
  have o3 : w1.cell? ⟨w.heap.size + 1 + 1, 3, none⟩ = some (.slice none 0 0) := celB hB (by simp [go_sem])
  have o4 : w1.cell? ⟨w.heap.size + 1 + 1, 4, none⟩ = some (.slice none 0 0) := celB hB (by simp [go_sem])
  have o5 : w1.cell? ⟨w.heap.size + 1 + 1, 5, none⟩ = some (.int .i64 0) := celB hB (by simp [go_sem])
  have t0 : w1.cell? ⟨w.heap.size + 1, 0, none⟩ = some (.int .i64 0) := celB hB (by simp [go_sem])
  have t1 : w1.cell? ⟨w.heap.size + 1, 1, none⟩ = some (.int .i64 0) := celB hB (by simp [go_sem])
  have t2 : w1.cell? ⟨w.heap.size + 1, 2, none⟩ = some (.slice none 0 0) := celB hB (by simp [go_sem])
  have t3 : w1.cell? ⟨w.heap.size + 1, 3, none⟩ = some (.slice none 0 0) := celB hB (by simp [go_sem])
  have t4 : w1.cell? ⟨w.heap.size + 1, 4, none⟩ = some (.slice none 0 0) := celB hB (by simp [go_sem])
  have t5 : w1.cell? ⟨w.heap.size + 1, 5, none⟩ = some (.int .i64 0) := celB hB (by simp [go_sem])
  have x0 : ∀ o, w1.frozen? ⟨w.heap.size, o, none⟩ = false := fun o => frzB hB (by simp; omega) (by simp [go_sem])
  have x1 : ∀ o, w1.frozen? ⟨w.heap.size + 1, o, none⟩ = false := fun o => frzB hB (by simp) (by simp [go_sem])
  have x2 : ∀ o, w1.frozen? ⟨w.heap.size + 1 + 1, o, none⟩ = false := fun o => frzB hB (by simp) (by simp [go_sem])
  have hz1 := hB.size
  simp only [World.size_alloc] at hz1 R2
  clear hB
  go_wp2_with fail
  obtain ⟨u, hu⟩ : ∃ u, (((w1.setCell ⟨w.heap.size + 1 + 1, 0, none⟩ (.int .i64 c.epoch)).setCell ⟨w.heap.size + 1 + 1, 1, none⟩ (.int .i64 c.leader)).setCell ⟨w.heap.size + 1 + 1, 2, none⟩ (.slice s2 c.steps.length c.steps.length)) = u := ⟨_, rfl⟩
  rw [hu]
  have HS : Below w.heap.size w u := by rw [← hu]; exact ((HB.setCell (by first | (simp; done) | (simp; omega)) _).setCell (by first | (simp; done) | (simp; omega)) _).setCell (by first | (simp; done) | (simp; omega)) _
  replace p0 : u.cell? ⟨w.heap.size, 0, none⟩ = some (.int .i64 c.epoch) := by rw [← hu]; simp [go_sem, p0]
  replace p1 : u.cell? ⟨w.heap.size, 1, none⟩ = some (.int .i64 c.leader) := by rw [← hu]; simp [go_sem, p1]
  replace p2 : u.cell? ⟨w.heap.size, 2, none⟩ = some (.slice r2 c.steps.length k2) := by rw [← hu]; simp [go_sem, p2]
  replace p3 : u.cell? ⟨w.heap.size, 3, none⟩ = some (.slice r3 c.log.length k3) := by rw [← hu]; simp [go_sem, p3]
  replace p4 : u.cell? ⟨w.heap.size, 4, none⟩ = some (.slice r4 c.known.length k4) := by rw [← hu]; simp [go_sem, p4]
  replace p5 : u.cell? ⟨w.heap.size, 5, none⟩ = some (.int .i64 c.told) := by rw [← hu]; simp [go_sem, p5]
  replace o0 : u.cell? ⟨w.heap.size + 1 + 1, 0, none⟩ = some (.int .i64 c.epoch) := by rw [← hu]; simp [go_sem, o0]
  replace o1 : u.cell? ⟨w.heap.size + 1 + 1, 1, none⟩ = some (.int .i64 c.leader) := by rw [← hu]; simp [go_sem, o1]
  replace o2 : u.cell? ⟨w.heap.size + 1 + 1, 2, none⟩ = some (.slice s2 c.steps.length c.steps.length) := by rw [← hu]; simp [go_sem, o2]
  replace o3 : u.cell? ⟨w.heap.size + 1 + 1, 3, none⟩ = some (.slice none 0 0) := by rw [← hu]; simp [go_sem, o3]
  replace o4 : u.cell? ⟨w.heap.size + 1 + 1, 4, none⟩ = some (.slice none 0 0) := by rw [← hu]; simp [go_sem, o4]
  replace o5 : u.cell? ⟨w.heap.size + 1 + 1, 5, none⟩ = some (.int .i64 0) := by rw [← hu]; simp [go_sem, o5]
  replace t0 : u.cell? ⟨w.heap.size + 1, 0, none⟩ = some (.int .i64 0) := by rw [← hu]; simp [go_sem, t0]
  replace t1 : u.cell? ⟨w.heap.size + 1, 1, none⟩ = some (.int .i64 0) := by rw [← hu]; simp [go_sem, t1]
  replace t2 : u.cell? ⟨w.heap.size + 1, 2, none⟩ = some (.slice none 0 0) := by rw [← hu]; simp [go_sem, t2]
  replace t3 : u.cell? ⟨w.heap.size + 1, 3, none⟩ = some (.slice none 0 0) := by rw [← hu]; simp [go_sem, t3]
  replace t4 : u.cell? ⟨w.heap.size + 1, 4, none⟩ = some (.slice none 0 0) := by rw [← hu]; simp [go_sem, t4]
  replace t5 : u.cell? ⟨w.heap.size + 1, 5, none⟩ = some (.int .i64 0) := by rw [← hu]; simp [go_sem, t5]
  replace x0 : ∀ o, u.frozen? ⟨w.heap.size, o, none⟩ = false := fun o => by rw [← hu]; simp [go_sem, x0]
  replace x1 : ∀ o, u.frozen? ⟨w.heap.size + 1, o, none⟩ = false := fun o => by rw [← hu]; simp [go_sem, x1]
  replace x2 : ∀ o, u.frozen? ⟨w.heap.size + 1 + 1, o, none⟩ = false := fun o => by rw [← hu]; simp [go_sem, x2]
  replace hz1 : w.heap.size + 1 + 1 + 1 ≤ u.heap.size := by rw [← hu]; simpa using hz1
  have H2' : Ints u s2 c.steps := by rw [← hu]; exact ((H2.setR R2 (by omega) _ _).setR (R2.setR (by omega) _ _) (by omega) _ _).setR ((R2.setR (by omega) _ _).setR (by omega) _ _) (by omega) _ _
  have R2' : RowI u (w.heap.size + 1 + 1 + 1) s2 c.steps.length := by rw [← hu]; exact ((R2.setR (by omega) _ _).setR (by omega) _ _).setR (by omega) _ _
  clear hu H2 R2
  refine (toRowS_row _ _ _ _ (h3.below HS) l3).mono ?_
  rintro r w2 ⟨s3, rfl, H3, R3, hB⟩
  have H2 := H2'.below hB
  have R2 := R2'.below hB
  replace p0 := celB hB p0
  replace o0 := celB hB o0
  replace t0 := celB hB t0
  replace p1 := celB hB p1
  replace o1 := celB hB o1
  replace t1 := celB hB t1
  replace p2 := celB hB p2
  replace o2 := celB hB o2
  replace t2 := celB hB t2
  replace p3 := celB hB p3
  replace o3 := celB hB o3
  replace t3 := celB hB t3
  replace p4 := celB hB p4
  replace o4 := celB hB o4
  replace t4 := celB hB t4
  replace p5 := celB hB p5
  replace o5 := celB hB o5
  replace t5 := celB hB t5
  replace x0 := fun o => frzB (o := o) hB (by omega) (x0 o)
  replace x1 := fun o => frzB (o := o) hB (by omega) (x1 o)
  replace x2 := fun o => frzB (o := o) hB (by omega) (x2 o)
  replace R3 := R3.mono (B' := w.heap.size + 1 + 1 + 1) (by omega)
  have HB : Below w.heap.size w w2 := HS.trans (hB.mono HS.size)
  have hz2 : w.heap.size + 1 + 1 + 1 ≤ w2.heap.size := by have := hB.size; omega
  clear hB HS hz1 
  go_wp2_with fail
  obtain ⟨u, hu⟩ : ∃ u, (w2.setCell ⟨w.heap.size + 1 + 1, 3, none⟩ (.slice s3 c.log.length c.log.length)) = u := ⟨_, rfl⟩
  rw [hu]
  have HS : Below w.heap.size w u := by rw [← hu]; exact HB.setCell (by first | (simp; done) | (simp; omega)) _
  replace p0 : u.cell? ⟨w.heap.size, 0, none⟩ = some (.int .i64 c.epoch) := by rw [← hu]; simp [go_sem, p0]
  replace p1 : u.cell? ⟨w.heap.size, 1, none⟩ = some (.int .i64 c.leader) := by rw [← hu]; simp [go_sem, p1]
  replace p2 : u.cell? ⟨w.heap.size, 2, none⟩ = some (.slice r2 c.steps.length k2) := by rw [← hu]; simp [go_sem, p2]
  replace p3 : u.cell? ⟨w.heap.size, 3, none⟩ = some (.slice r3 c.log.length k3) := by rw [← hu]; simp [go_sem, p3]
  replace p4 : u.cell? ⟨w.heap.size, 4, none⟩ = some (.slice r4 c.known.length k4) := by rw [← hu]; simp [go_sem, p4]
  replace p5 : u.cell? ⟨w.heap.size, 5, none⟩ = some (.int .i64 c.told) := by rw [← hu]; simp [go_sem, p5]
  replace o0 : u.cell? ⟨w.heap.size + 1 + 1, 0, none⟩ = some (.int .i64 c.epoch) := by rw [← hu]; simp [go_sem, o0]
  replace o1 : u.cell? ⟨w.heap.size + 1 + 1, 1, none⟩ = some (.int .i64 c.leader) := by rw [← hu]; simp [go_sem, o1]
  replace o2 : u.cell? ⟨w.heap.size + 1 + 1, 2, none⟩ = some (.slice s2 c.steps.length c.steps.length) := by rw [← hu]; simp [go_sem, o2]
  replace o3 : u.cell? ⟨w.heap.size + 1 + 1, 3, none⟩ = some (.slice s3 c.log.length c.log.length) := by rw [← hu]; simp [go_sem, o3]
  replace o4 : u.cell? ⟨w.heap.size + 1 + 1, 4, none⟩ = some (.slice none 0 0) := by rw [← hu]; simp [go_sem, o4]
  replace o5 : u.cell? ⟨w.heap.size + 1 + 1, 5, none⟩ = some (.int .i64 0) := by rw [← hu]; simp [go_sem, o5]
  replace t0 : u.cell? ⟨w.heap.size + 1, 0, none⟩ = some (.int .i64 0) := by rw [← hu]; simp [go_sem, t0]
  replace t1 : u.cell? ⟨w.heap.size + 1, 1, none⟩ = some (.int .i64 0) := by rw [← hu]; simp [go_sem, t1]
  replace t2 : u.cell? ⟨w.heap.size + 1, 2, none⟩ = some (.slice none 0 0) := by rw [← hu]; simp [go_sem, t2]
  replace t3 : u.cell? ⟨w.heap.size + 1, 3, none⟩ = some (.slice none 0 0) := by rw [← hu]; simp [go_sem, t3]
  replace t4 : u.cell? ⟨w.heap.size + 1, 4, none⟩ = some (.slice none 0 0) := by rw [← hu]; simp [go_sem, t4]
  replace t5 : u.cell? ⟨w.heap.size + 1, 5, none⟩ = some (.int .i64 0) := by rw [← hu]; simp [go_sem, t5]
  replace x0 : ∀ o, u.frozen? ⟨w.heap.size, o, none⟩ = false := fun o => by rw [← hu]; simp [go_sem, x0]
  replace x1 : ∀ o, u.frozen? ⟨w.heap.size + 1, o, none⟩ = false := fun o => by rw [← hu]; simp [go_sem, x1]
  replace x2 : ∀ o, u.frozen? ⟨w.heap.size + 1 + 1, o, none⟩ = false := fun o => by rw [← hu]; simp [go_sem, x2]
  replace hz2 : w.heap.size + 1 + 1 + 1 ≤ u.heap.size := by rw [← hu]; simpa using hz2
  have H2' : Ints u s2 c.steps := by rw [← hu]; exact H2.setR R2 (by omega) _ _
  have R2' : RowI u (w.heap.size + 1 + 1 + 1) s2 c.steps.length := by rw [← hu]; exact R2.setR (by omega) _ _
  have H3' : Rws u s3 c.log := by rw [← hu]; exact H3.setR R3 (by omega) _ _
  have R3' : RowRw u (w.heap.size + 1 + 1 + 1) s3 c.log.length := by rw [← hu]; exact R3.setR (by omega) _ _
  clear hu H2 R2 H3 R3
  refine (toIntS_any _ _ _ _ (h4.below HS) l4).mono ?_
  rintro r w3 ⟨s4, rfl, H4, R4, hB⟩
  have H2 := H2'.below hB
  have R2 := R2'.below hB
  have H3 := H3'.below hB
  have R3 := R3'.below hB
  replace p0 := celB hB p0
  replace o0 := celB hB o0
  replace t0 := celB hB t0
  replace p1 := celB hB p1
  replace o1 := celB hB o1
  replace t1 := celB hB t1
  replace p2 := celB hB p2
  replace o2 := celB hB o2
  replace t2 := celB hB t2
  replace p3 := celB hB p3
  replace o3 := celB hB o3
  replace t3 := celB hB t3
  replace p4 := celB hB p4
  replace o4 := celB hB o4
  replace t4 := celB hB t4
  replace p5 := celB hB p5
  replace o5 := celB hB o5
  replace t5 := celB hB t5
  replace x0 := fun o => frzB (o := o) hB (by omega) (x0 o)
  replace x1 := fun o => frzB (o := o) hB (by omega) (x1 o)
  replace x2 := fun o => frzB (o := o) hB (by omega) (x2 o)
  replace R4 := R4.mono (B' := w.heap.size + 1 + 1 + 1) (by omega)
  have HB : Below w.heap.size w w3 := HS.trans (hB.mono HS.size)
  have hz3 : w.heap.size + 1 + 1 + 1 ≤ w3.heap.size := by have := hB.size; omega
  clear hB HS hz2 
  go_wp2
  refine bodyPost_ret (v := .agg #[.int .i64 c.epoch, .int .i64 c.leader, .slice s2 c.steps.length c.steps.length, .slice s3 c.log.length c.log.length, .slice s4 c.known.length c.known.length, .int .i64 c.told]) (by simp [results, Tryd.results57, go_sem, t0, t1, t2, t3, t4, t5]) rfl ⟨_, _, _, rfl, ?_, ?_, ?_, ?_, ?_, ?_, ?_⟩
  · exact ((((((((H2.setR R2 (by omega) _ _).setR (R2.setR (by omega) _ _) (by omega) _ _).setR ((R2.setR (by omega) _ _).setR (by omega) _ _) (by omega) _ _).setR (((R2.setR (by omega) _ _).setR (by omega) _ _).setR (by omega) _ _) (by omega) _ _).setR ((((R2.setR (by omega) _ _).setR (by omega) _ _).setR (by omega) _ _).setR (by omega) _ _) (by omega) _ _).setR (((((R2.setR (by omega) _ _).setR (by omega) _ _).setR (by omega) _ _).setR (by omega) _ _).setR (by omega) _ _) (by omega) _ _).setR ((((((R2.setR (by omega) _ _).setR (by omega) _ _).setR (by omega) _ _).setR (by omega) _ _).setR (by omega) _ _).setR (by omega) _ _) (by omega) _ _).setR (((((((R2.setR (by omega) _ _).setR (by omega) _ _).setR (by omega) _ _).setR (by omega) _ _).setR (by omega) _ _).setR (by omega) _ _).setR (by omega) _ _) (by omega) _ _)
  · exact ((((((((R2.setR (by omega) _ _).setR (by omega) _ _).setR (by omega) _ _).setR (by omega) _ _).setR (by omega) _ _).setR (by omega) _ _).setR (by omega) _ _).setR (by omega) _ _).mono (by omega)
  · exact ((((((((H3.setR R3 (by omega) _ _).setR (R3.setR (by omega) _ _) (by omega) _ _).setR ((R3.setR (by omega) _ _).setR (by omega) _ _) (by omega) _ _).setR (((R3.setR (by omega) _ _).setR (by omega) _ _).setR (by omega) _ _) (by omega) _ _).setR ((((R3.setR (by omega) _ _).setR (by omega) _ _).setR (by omega) _ _).setR (by omega) _ _) (by omega) _ _).setR (((((R3.setR (by omega) _ _).setR (by omega) _ _).setR (by omega) _ _).setR (by omega) _ _).setR (by omega) _ _) (by omega) _ _).setR ((((((R3.setR (by omega) _ _).setR (by omega) _ _).setR (by omega) _ _).setR (by omega) _ _).setR (by omega) _ _).setR (by omega) _ _) (by omega) _ _).setR (((((((R3.setR (by omega) _ _).setR (by omega) _ _).setR (by omega) _ _).setR (by omega) _ _).setR (by omega) _ _).setR (by omega) _ _).setR (by omega) _ _) (by omega) _ _)
  · exact ((((((((R3.setR (by omega) _ _).setR (by omega) _ _).setR (by omega) _ _).setR (by omega) _ _).setR (by omega) _ _).setR (by omega) _ _).setR (by omega) _ _).setR (by omega) _ _).mono (by omega)
  · exact ((((((((H4.setR R4 (by omega) _ _).setR (R4.setR (by omega) _ _) (by omega) _ _).setR ((R4.setR (by omega) _ _).setR (by omega) _ _) (by omega) _ _).setR (((R4.setR (by omega) _ _).setR (by omega) _ _).setR (by omega) _ _) (by omega) _ _).setR ((((R4.setR (by omega) _ _).setR (by omega) _ _).setR (by omega) _ _).setR (by omega) _ _) (by omega) _ _).setR (((((R4.setR (by omega) _ _).setR (by omega) _ _).setR (by omega) _ _).setR (by omega) _ _).setR (by omega) _ _) (by omega) _ _).setR ((((((R4.setR (by omega) _ _).setR (by omega) _ _).setR (by omega) _ _).setR (by omega) _ _).setR (by omega) _ _).setR (by omega) _ _) (by omega) _ _).setR (((((((R4.setR (by omega) _ _).setR (by omega) _ _).setR (by omega) _ _).setR (by omega) _ _).setR (by omega) _ _).setR (by omega) _ _).setR (by omega) _ _) (by omega) _ _)
  · exact ((((((((R4.setR (by omega) _ _).setR (by omega) _ _).setR (by omega) _ _).setR (by omega) _ _).setR (by omega) _ _).setR (by omega) _ _).setR (by omega) _ _).setR (by omega) _ _).mono (by omega)
  · exact ((((((((HB.setCell (by first | (simp; done) | (simp; omega)) _).setCell (by first | (simp; done) | (simp; omega)) _).setCell (by first | (simp; done) | (simp; omega)) _).setCell (by first | (simp; done) | (simp; omega)) _).setCell (by first | (simp; done) | (simp; omega)) _).setCell (by first | (simp; done) | (simp; omega)) _).setCell (by first | (simp; done) | (simp; omega)) _).setCell (by first | (simp; done) | (simp; omega)) _)

theorem Tryd.infoNd : (Tryd.prog.info? 49).map (fun i => (i.zero, i.size, i.bytes)) = some (some (.agg #[.int .i64 0, .int .i64 0, .slice none 0 0, .slice none 0 0, .slice none 0 0, .int .i64 0]), 6, 96) := by kernel_rfl

/-- The row at N holds the first k; their own lists lie behind N. -/
def NdTo (w : World) (N : Nat) (f : Nat → Value) (l : List Nd) (k : Nat) : Prop :=
  ∀ i c, i < k → l[i]? = some c → ∃ r2 k2 r3 k3 r4 k4, f (i * 6) = .int .i64 c.epoch ∧ f (i * 6 + 1) = .int .i64 c.leader ∧ f (i * 6 + 2) = .slice r2 c.steps.length k2 ∧ f (i * 6 + 3) = .slice r3 c.log.length k3 ∧ f (i * 6 + 4) = .slice r4 c.known.length k4 ∧ f (i * 6 + 5) = .int .i64 c.told ∧ Ints w r2 c.steps ∧ c.steps.length ≤ maxLen ∧ RowI w (N + 1) r2 c.steps.length ∧ Rws w r3 c.log ∧ c.log.length ≤ maxLen ∧ RowRw w (N + 1) r3 c.log.length ∧ Ints w r4 c.known ∧ c.known.length ≤ maxLen ∧ RowI w (N + 1) r4 c.known.length ∧ c.steps.length ≤ k2 ∧ c.log.length ≤ k3 ∧ c.known.length ≤ k4

theorem NdTo.below {w w' : World} {N : Nat} {f : Nat → Value} {l : List Nd} {k : Nat} (h : NdTo w N f l k) (hb : Below w.heap.size w w') : NdTo w' N f l k := fun i c hi hc => by
  obtain ⟨r2, k2, r3, k3, r4, k4, c0, c1, c2, c3, c4, c5, q2, m2, R2, q3, m3, R3, q4, m4, R4, e2, e3, e4⟩ := h i c hi hc
  exact ⟨r2, k2, r3, k3, r4, k4, c0, c1, c2, c3, c4, c5, q2.below hb, m2, R2.below hb, q3.below hb, m3, R3.below hb, q4.below hb, m4, R4.below hb, e2, e3, e4⟩

set_option maxHeartbeats 1000000 in
theorem NdTo_step {w : World} {N : Nat} {t : TypeId} {m : Nat} {f : Nat → Value} {l : List Nd} {k : Nat} {b : Nd} {r2 : Option Addr} {k2 : Nat} {r3 : Option Addr} {k3 : Nat} {r4 : Option Addr} {k4 : Nat} (hR : w.rowIs N t (m * 6) f) (hO : NdTo w N f l k) (hb : l[k]? = some b) (h2 : Ints w r2 b.steps) (m2 : b.steps.length ≤ maxLen) (R2 : RowI w (N + 1) r2 b.steps.length) (h3 : Rws w r3 b.log) (m3 : b.log.length ≤ maxLen) (R3 : RowRw w (N + 1) r3 b.log.length) (h4 : Ints w r4 b.known) (m4 : b.known.length ≤ maxLen) (R4 : RowI w (N + 1) r4 b.known.length) (e2 : b.steps.length ≤ k2) (e3 : b.log.length ≤ k3) (e4 : b.known.length ≤ k4) :
    ∃ g, ((((((w.setCell ⟨N, k * 6, none⟩ (.int .i64 b.epoch)).setCell ⟨N, k * 6 + 1, none⟩ (.int .i64 b.leader)).setCell ⟨N, k * 6 + 2, none⟩ (.slice r2 b.steps.length k2)).setCell ⟨N, k * 6 + 3, none⟩ (.slice r3 b.log.length k3)).setCell ⟨N, k * 6 + 4, none⟩ (.slice r4 b.known.length k4)).setCell ⟨N, k * 6 + 5, none⟩ (.int .i64 b.told)).rowIs N t (m * 6) g ∧ NdTo ((((((w.setCell ⟨N, k * 6, none⟩ (.int .i64 b.epoch)).setCell ⟨N, k * 6 + 1, none⟩ (.int .i64 b.leader)).setCell ⟨N, k * 6 + 2, none⟩ (.slice r2 b.steps.length k2)).setCell ⟨N, k * 6 + 3, none⟩ (.slice r3 b.log.length k3)).setCell ⟨N, k * 6 + 4, none⟩ (.slice r4 b.known.length k4)).setCell ⟨N, k * 6 + 5, none⟩ (.int .i64 b.told)) N g l (k + 1) := by
  refine ⟨_, ((((((hR.set _ _).set _ _).set _ _).set _ _).set _ _).set _ _), fun i c hi hc => ?_⟩
  by_cases e : i = k
  · subst e
    obtain rfl : b = c := by rw [hb] at hc; simpa using hc
    refine ⟨r2, k2, r3, k3, r4, k4, ?_, ?_, ?_, ?_, ?_, ?_, ((((((h2.setR R2 (by omega) _ _).setR (R2.setR (by omega) _ _) (by omega) _ _).setR ((R2.setR (by omega) _ _).setR (by omega) _ _) (by omega) _ _).setR (((R2.setR (by omega) _ _).setR (by omega) _ _).setR (by omega) _ _) (by omega) _ _).setR ((((R2.setR (by omega) _ _).setR (by omega) _ _).setR (by omega) _ _).setR (by omega) _ _) (by omega) _ _).setR (((((R2.setR (by omega) _ _).setR (by omega) _ _).setR (by omega) _ _).setR (by omega) _ _).setR (by omega) _ _) (by omega) _ _), m2, ((((((R2.setR (by omega) _ _).setR (by omega) _ _).setR (by omega) _ _).setR (by omega) _ _).setR (by omega) _ _).setR (by omega) _ _), ((((((h3.setR R3 (by omega) _ _).setR (R3.setR (by omega) _ _) (by omega) _ _).setR ((R3.setR (by omega) _ _).setR (by omega) _ _) (by omega) _ _).setR (((R3.setR (by omega) _ _).setR (by omega) _ _).setR (by omega) _ _) (by omega) _ _).setR ((((R3.setR (by omega) _ _).setR (by omega) _ _).setR (by omega) _ _).setR (by omega) _ _) (by omega) _ _).setR (((((R3.setR (by omega) _ _).setR (by omega) _ _).setR (by omega) _ _).setR (by omega) _ _).setR (by omega) _ _) (by omega) _ _), m3, ((((((R3.setR (by omega) _ _).setR (by omega) _ _).setR (by omega) _ _).setR (by omega) _ _).setR (by omega) _ _).setR (by omega) _ _), ((((((h4.setR R4 (by omega) _ _).setR (R4.setR (by omega) _ _) (by omega) _ _).setR ((R4.setR (by omega) _ _).setR (by omega) _ _) (by omega) _ _).setR (((R4.setR (by omega) _ _).setR (by omega) _ _).setR (by omega) _ _) (by omega) _ _).setR ((((R4.setR (by omega) _ _).setR (by omega) _ _).setR (by omega) _ _).setR (by omega) _ _) (by omega) _ _).setR (((((R4.setR (by omega) _ _).setR (by omega) _ _).setR (by omega) _ _).setR (by omega) _ _).setR (by omega) _ _) (by omega) _ _), m4, ((((((R4.setR (by omega) _ _).setR (by omega) _ _).setR (by omega) _ _).setR (by omega) _ _).setR (by omega) _ _).setR (by omega) _ _), e2, e3, e4⟩ <;> simp
  · obtain ⟨r2', k2', r3', k3', r4', k4', c0, c1, c2, c3, c4, c5, q2, m2', S2, q3, m3', S3, q4, m4', S4, e2', e3', e4'⟩ := hO i c (by omega) hc
    refine ⟨r2', k2', r3', k3', r4', k4', ?_, ?_, ?_, ?_, ?_, ?_, ((((((q2.setR S2 (by omega) _ _).setR (S2.setR (by omega) _ _) (by omega) _ _).setR ((S2.setR (by omega) _ _).setR (by omega) _ _) (by omega) _ _).setR (((S2.setR (by omega) _ _).setR (by omega) _ _).setR (by omega) _ _) (by omega) _ _).setR ((((S2.setR (by omega) _ _).setR (by omega) _ _).setR (by omega) _ _).setR (by omega) _ _) (by omega) _ _).setR (((((S2.setR (by omega) _ _).setR (by omega) _ _).setR (by omega) _ _).setR (by omega) _ _).setR (by omega) _ _) (by omega) _ _), m2', ((((((S2.setR (by omega) _ _).setR (by omega) _ _).setR (by omega) _ _).setR (by omega) _ _).setR (by omega) _ _).setR (by omega) _ _), ((((((q3.setR S3 (by omega) _ _).setR (S3.setR (by omega) _ _) (by omega) _ _).setR ((S3.setR (by omega) _ _).setR (by omega) _ _) (by omega) _ _).setR (((S3.setR (by omega) _ _).setR (by omega) _ _).setR (by omega) _ _) (by omega) _ _).setR ((((S3.setR (by omega) _ _).setR (by omega) _ _).setR (by omega) _ _).setR (by omega) _ _) (by omega) _ _).setR (((((S3.setR (by omega) _ _).setR (by omega) _ _).setR (by omega) _ _).setR (by omega) _ _).setR (by omega) _ _) (by omega) _ _), m3', ((((((S3.setR (by omega) _ _).setR (by omega) _ _).setR (by omega) _ _).setR (by omega) _ _).setR (by omega) _ _).setR (by omega) _ _), ((((((q4.setR S4 (by omega) _ _).setR (S4.setR (by omega) _ _) (by omega) _ _).setR ((S4.setR (by omega) _ _).setR (by omega) _ _) (by omega) _ _).setR (((S4.setR (by omega) _ _).setR (by omega) _ _).setR (by omega) _ _) (by omega) _ _).setR ((((S4.setR (by omega) _ _).setR (by omega) _ _).setR (by omega) _ _).setR (by omega) _ _) (by omega) _ _).setR (((((S4.setR (by omega) _ _).setR (by omega) _ _).setR (by omega) _ _).setR (by omega) _ _).setR (by omega) _ _) (by omega) _ _), m4', ((((((S4.setR (by omega) _ _).setR (by omega) _ _).setR (by omega) _ _).setR (by omega) _ _).setR (by omega) _ _).setR (by omega) _ _), e2', e3', e4'⟩
    · rw [if_neg (by omega), if_neg (by omega), if_neg (by omega), if_neg (by omega), if_neg (by omega), if_neg (by omega)]; exact c0
    · rw [if_neg (by omega), if_neg (by omega), if_neg (by omega), if_neg (by omega), if_neg (by omega), if_neg (by omega)]; exact c1
    · rw [if_neg (by omega), if_neg (by omega), if_neg (by omega), if_neg (by omega), if_neg (by omega), if_neg (by omega)]; exact c2
    · rw [if_neg (by omega), if_neg (by omega), if_neg (by omega), if_neg (by omega), if_neg (by omega), if_neg (by omega)]; exact c3
    · rw [if_neg (by omega), if_neg (by omega), if_neg (by omega), if_neg (by omega), if_neg (by omega), if_neg (by omega)]; exact c4
    · rw [if_neg (by omega), if_neg (by omega), if_neg (by omega), if_neg (by omega), if_neg (by omega), if_neg (by omega)]; exact c5

theorem Nds.of_to {w : World} {N : Nat} {t : TypeId} {f : Nat → Value} {l : List Nd} (hR : w.rowIs N t (l.length * 6) f) (hO : NdTo w N f l l.length) : Nds w (some ⟨N, 0, none⟩) l := fun i c hi => by
  have hlt := (List.getElem?_eq_some_iff.1 hi).1
  obtain ⟨r2, k2, r3, k3, r4, k4, c0, c1, c2, c3, c4, c5, q2, m2, -, q3, m3, -, q4, m4, -, -, -, -⟩ := hO i c hlt hi
  refine ⟨N, 0, rfl, r2, k2, r3, k3, r4, k4, ?_, ?_, ?_, ?_, ?_, ?_, q2, m2, q3, m3, q4, m4⟩
  · rw [Nat.zero_add, hR.cell (by omega), c0]
  · rw [Nat.zero_add, hR.cell (by omega), c1]
  · rw [Nat.zero_add, hR.cell (by omega), c2]
  · rw [Nat.zero_add, hR.cell (by omega), c3]
  · rw [Nat.zero_add, hR.cell (by omega), c4]
  · rw [Nat.zero_add, hR.cell (by omega), c5]

/-- Their lists are no longer than they have room for. -/
def NdsK (w : World) (a : Option Addr) (l : List Nd) : Prop :=
  ∀ i c, l[i]? = some c → ∃ K o r2 k2 r3 k3 r4 k4, a = some ⟨K, o, none⟩ ∧ w.cell? ⟨K, o + i * 6 + 2, none⟩ = some (.slice r2 c.steps.length k2) ∧ c.steps.length ≤ k2 ∧ w.cell? ⟨K, o + i * 6 + 3, none⟩ = some (.slice r3 c.log.length k3) ∧ c.log.length ≤ k3 ∧ w.cell? ⟨K, o + i * 6 + 4, none⟩ = some (.slice r4 c.known.length k4) ∧ c.known.length ≤ k4

theorem NdsK.below {w w' : World} {a : Option Addr} {l : List Nd} (h : NdsK w a l) (hb : Below w.heap.size w w') : NdsK w' a l := fun i c hi => by
  obtain ⟨K, o, r2, k2, r3, k3, r4, k4, e, x2, y2, x3, y3, x4, y4⟩ := h i c hi
  exact ⟨K, o, r2, k2, r3, k3, r4, k4, e, celB hb x2, y2, celB hb x3, y3, celB hb x4, y4⟩

theorem NdsK.of_to {w : World} {N : Nat} {t : TypeId} {f : Nat → Value} {l : List Nd} (hR : w.rowIs N t (l.length * 6) f) (hO : NdTo w N f l l.length) : NdsK w (some ⟨N, 0, none⟩) l := fun i c hi => by
  have hlt := (List.getElem?_eq_some_iff.1 hi).1
  obtain ⟨r2, k2, r3, k3, r4, k4, c0, c1, c2, c3, c4, c5, -, -, -, -, -, -, -, -, -, e2, e3, e4⟩ := hO i c hlt hi
  refine ⟨N, 0, r2, k2, r3, k3, r4, k4, rfl, ?_, e2, ?_, e3, ?_, e4⟩
  · rw [Nat.zero_add, hR.cell (by omega), c2]
  · rw [Nat.zero_add, hR.cell (by omega), c3]
  · rw [Nat.zero_add, hR.cell (by omega), c4]

/-- It reads so, and all of it lies in blocks from B on. -/
def NdsA (w : World) (B : Nat) (a : Option Addr) (l : List Nd) : Prop := ∀ w2 : World, (∀ b, B ≤ b → b < w.heap.size → w2.heap[b]? = w.heap[b]?) → Nds w2 a l ∧ NdsK w2 a l

theorem NdsA.here {w : World} {B : Nat} {a : Option Addr} {l : List Nd} (h : NdsA w B a l) : Nds w a l := (h w fun _ _ _ => rfl).1

theorem NdsA.hereK {w : World} {B : Nat} {a : Option Addr} {l : List Nd} (h : NdsA w B a l) : NdsK w a l := (h w fun _ _ _ => rfl).2

theorem NdsA.below {w w' : World} {B : Nat} {a : Option Addr} {l : List Nd} (h : NdsA w B a l) (hb : Below w.heap.size w w') : NdsA w' B a l := fun w2 h2 =>
  h w2 fun b h1 hl => (h2 b h1 (by have := hb.size; omega)).trans (hb.block b hl)

theorem NdsA.mono {w : World} {B B' : Nat} {a : Option Addr} {l : List Nd} (h : NdsA w B a l) (hb : B' ≤ B) : NdsA w B' a l := fun w2 h2 =>
  h w2 fun b h1 hl => h2 b (by omega) hl

theorem NdsA.setR {w : World} {B N : Nat} {a : Option Addr} {l : List Nd} (h : NdsA w B a l) (hN : N < B) (o : Nat) (v : Value) : NdsA (w.setCell ⟨N, o, none⟩ v) B a l := fun w2 h2 =>
  h w2 fun b h1 hl => (h2 b h1 (by simpa using hl)).trans (Below.heap_setCell w ⟨N, o, none⟩ v b (by simp; omega))

theorem NdsA.of_to {w : World} {N : Nat} {t : TypeId} {f : Nat → Value} {l : List Nd} (hR : w.rowIs N t (l.length * 6) f) (hO : NdTo w N f l l.length) : NdsA w N (some ⟨N, 0, none⟩) l := fun w2 h2 => by
  have hO2 : NdTo w2 N f l l.length := fun i c hi hc => by
    obtain ⟨r2, k2, r3, k3, r4, k4, c0, c1, c2, c3, c4, c5, q2, m2, R2, q3, m3, R3, q4, m4, R4, e2, e3, e4⟩ := hO i c hi hc
    exact ⟨r2, k2, r3, k3, r4, k4, c0, c1, c2, c3, c4, c5, q2.of_block fun b hb => h2 b (by have := (R2.lt hb).1; omega) (R2.lt hb).2, m2, R2.of_block fun b hb => h2 b (by have := (R2.lt hb).1; omega) (R2.lt hb).2, q3.of_block fun b hb => h2 b (by have := (R3.lt hb).1; omega) (R3.lt hb).2, m3, R3.of_block fun b hb => h2 b (by have := (R3.lt hb).1; omega) (R3.lt hb).2, q4.of_block fun b hb => h2 b (by have := (R4.lt hb).1; omega) (R4.lt hb).2, m4, R4.of_block fun b hb => h2 b (by have := (R4.lt hb).1; omega) (R4.lt hb).2, e2, e3, e4⟩
  exact ⟨Nds.of_to (hR.of_block (h2 N (Nat.le_refl _) hR.lt)) hO2, NdsK.of_to (hR.of_block (h2 N (Nat.le_refl _) hR.lt)) hO2⟩

set_option maxHeartbeats 2000000 in
theorem toNodeS_any (a : Option Addr) (c : Nat) (l : List Nd) (w : World) (hs : Nds w a l) (hl : l.length ≤ 1048576) (hrec : ∀ c, c ∈ l → c.steps.length ≤ 1048576 ∧ c.log.length ≤ 1048576 ∧ c.known.length ≤ 1048576) :
    Calls Tryd.prog 38 #[.slice a l.length c] w fun e w' => ∃ a', e = .returned (.slice a' l.length l.length) ∧ Nds w' a' l ∧ NdsA w' w.heap.size a' l ∧ Below w.heap.size w w' := by
  have hmk := run_make_manyV (P := Tryd.prog) 25 49 _ 6 96 Tryd.underlying25 Tryd.infoNd .i64 .i64 l.length (by omega) (by omega)
  go_enter Tryd.func38, Tryd.ntmps38
  go_wp2
  have hB : ∀ o, Below w.heap.size w (w.alloc o) := fun o => (Below.refl _ _).alloc (Nat.le_refl _) o
  go_loopw [4] (fun i wr => ∃ k : Nat, k ≤ l.length ∧ i = .int .i64 k ∧ ∃ f, wr.rowIs w.heap.size 49 (l.length * 6) f ∧ NdTo wr w.heap.size f l k ∧ Below w.heap.size w wr) (fun i _ => l.length - (intOf i).toNat)
  case atStart => exact ⟨0, Nat.zero_le _, rfl, _, by simpa [size_madeCells] using rowIs_of_allocV w (madeCells _ (l.length * 6)) 49, fun i b hi => absurd hi (Nat.not_lt_zero _), hB _⟩
  case round =>
    clear hB
    obtain ⟨k, hk, rfl, f, hR, hO, hB⟩ := hrel
    by_cases hlt : k < l.length
    · obtain ⟨b, hkb⟩ := getNd hlt
      obtain ⟨kb, ob, rfl, hbt⟩ := (hs.below hB) k b hkb
      obtain ⟨r2, k2, r3, k3, r4, k4, c0, c1, c2, c3, c4, c5, q2, m2, q3, m3, q4, m4⟩ := hbt
      have hrl := hrec b (List.mem_of_getElem? hkb)
      have HK : Hid (l[k]? = some b) := hkb
      clear hs hkb
      go_wp2_with fail
      refine (toNode_any b _ _ _ _ _ _ _ q2 q3 q4 hrl.1 hrl.2.1 hrl.2.2).mono ?_
      rintro r w1 ⟨s2, s3, s4, rfl, H2, R2, H3, R3, H4, R4, hB1⟩
      have hR1 : w1.rowIs w.heap.size 49 (l.length * 6) f := hR.of_block (hB1.block _ hR.lt)
      have d0 := hR1.cell (i := k * 6) (by omega)
      have d1 := hR1.cell (i := k * 6 + 1) (by omega)
      have d2 := hR1.cell (i := k * 6 + 2) (by omega)
      have d3 := hR1.cell (i := k * 6 + 3) (by omega)
      have d4 := hR1.cell (i := k * 6 + 4) (by omega)
      have d5 := hR1.cell (i := k * 6 + 5) (by omega)
      replace R2 := R2.mono (B' := w.heap.size + 1) (by have := hR.lt; omega)
      replace R3 := R3.mono (B' := w.heap.size + 1) (by have := hR.lt; omega)
      replace R4 := R4.mono (B' := w.heap.size + 1) (by have := hR.lt; omega)
      have hf := hR1.frozen
      have hO1 := hO.below hB1
      have hBn := hB.trans (hB1.mono hB.size)
      clear hO hB hB1 hR
      go_wp2
      go_roundw
      case rel =>
        obtain ⟨g, hg, hOg⟩ := NdTo_step (k2 := b.steps.length) (k3 := b.log.length) (k4 := b.known.length) hR1 hO1 HK.out H2 m2 R2 H3 m3 R3 H4 m4 R4 (Nat.le_refl _) (Nat.le_refl _) (Nat.le_refl _)
        exact ⟨k + 1, by omega, by go_num, g, hg, hOg, ((((((hBn.setCell (Nat.le_refl _) _).setCell (Nat.le_refl _) _).setCell (Nat.le_refl _) _).setCell (Nat.le_refl _) _).setCell (Nat.le_refl _) _).setCell (Nat.le_refl _) _)⟩
      case measure => simp [intOf]; omega
    · go_wp2
      go_ret
      obtain rfl : k = l.length := by omega
      exact ⟨_, rfl, Nds.of_to hR hO, NdsA.of_to hR hO, hB⟩

set_option maxHeartbeats 1000000 in
theorem eqNode_same (c : Nd) (r2 t2 r3 t3 r4 t4 : Option Addr) (k2 j2 k3 j3 k4 j4 : Nat) (w : World) (h2 : Ints w r2 c.steps) (g2 : Ints w t2 c.steps) (l2 : c.steps.length ≤ maxLen) (h3 : Rws w r3 c.log) (g3 : Rws w t3 c.log) (l3 : c.log.length ≤ maxLen) (h4 : Ints w r4 c.known) (g4 : Ints w t4 c.known) (l4 : c.known.length ≤ maxLen) :
    Calls Tryd.prog 48 #[.agg #[.int .i64 c.epoch, .int .i64 c.leader, .slice r2 c.steps.length k2, .slice r3 c.log.length k3, .slice r4 c.known.length k4, .int .i64 c.told], .agg #[.int .i64 c.epoch, .int .i64 c.leader, .slice t2 c.steps.length j2, .slice t3 c.log.length j3, .slice t4 c.known.length j4, .int .i64 c.told]] w fun r w' => r = .returned (.bool true) ∧ Below w.heap.size w w' := by
  have HB : ∀ x y, Below w.heap.size w ((w.alloc x).alloc y) := fun _ _ => ((Below.refl _ _).alloc (Nat.le_refl _) _).alloc (by simp) _
  go_enter Tryd.func48, Tryd.ntmps48
  go_wp2_with fail
  refine (eqView_same ⟨c.epoch, c.leader, c.steps⟩ r2 t2 k2 j2 _ (h2.below (HB _ _)) (g2.below (HB _ _)) l2).mono ?_
  rintro r w1 ⟨rfl, hB⟩
  have p3 : w1.cell? ⟨w.heap.size, 3, none⟩ = some (.slice r3 c.log.length k3) := celB hB (by simp [go_sem])
  have o3 : w1.cell? ⟨w.heap.size + 1, 3, none⟩ = some (.slice t3 c.log.length j3) := celB hB (by simp [go_sem])
  have p4 : w1.cell? ⟨w.heap.size, 4, none⟩ = some (.slice r4 c.known.length k4) := celB hB (by simp [go_sem])
  have o4 : w1.cell? ⟨w.heap.size + 1, 4, none⟩ = some (.slice t4 c.known.length j4) := celB hB (by simp [go_sem])
  have p5 : w1.cell? ⟨w.heap.size, 5, none⟩ = some (.int .i64 c.told) := celB hB (by simp [go_sem])
  have o5 : w1.cell? ⟨w.heap.size + 1, 5, none⟩ = some (.int .i64 c.told) := celB hB (by simp [go_sem])
  have BB : Below w.heap.size w w1 := (HB _ _).trans (hB.mono (HB _ _).size)
  clear hB
  go_wp2_with fail
  refine (eqRowS_same _ _ _ _ _ _ (h3.below BB) (g3.below BB) l3).mono ?_
  rintro r w2 ⟨rfl, hB⟩
  replace p4 := celB hB p4
  replace o4 := celB hB o4
  replace p5 := celB hB p5
  replace o5 := celB hB o5
  replace BB : Below w.heap.size w w2 := BB.trans (hB.mono BB.size)
  clear hB
  go_wp2_with fail
  refine (eqIntS_same _ _ _ _ _ _ (h4.below BB) (g4.below BB) l4).mono ?_
  rintro r w3 ⟨rfl, hB⟩
  replace p5 := celB hB p5
  replace o5 := celB hB o5
  replace BB : Below w.heap.size w w3 := BB.trans (hB.mono BB.size)
  clear hB
  go_wp2
  go_ret
  exact ⟨rfl, BB⟩

set_option maxHeartbeats 1000000 in
theorem eqNodeS_same (a a2 : Option Addr) (c c2 : Nat) (l : List Nd) (w : World) (hx : Nds w a l) (hy : Nds w a2 l) (hl : l.length ≤ maxLen) :
    Calls Tryd.prog 24 #[.slice a l.length c, .slice a2 l.length c2] w fun e w' => e = .returned (.bool true) ∧ Below w.heap.size w w' := by
  unfold maxLen at hl
  go_enter Tryd.func24, Tryd.ntmps24
  go_wp2
  go_loopw [5] (fun i wr => ∃ k : Nat, k ≤ l.length ∧ i = .int .i64 k ∧ Below w.heap.size w wr) (fun i _ => l.length - (intOf i).toNat)
  case atStart => exact ⟨0, Nat.zero_le _, rfl, Below.refl _ _⟩
  case round =>
    obtain ⟨k, hk, rfl, hB⟩ := hrel
    by_cases hlt : k < l.length
    · obtain ⟨b, hkb⟩ := getNd hlt
      obtain ⟨kb, ob, rfl, hbt⟩ := (hx.below hB) k b hkb
      obtain ⟨r2, k2, r3, k3, r4, k4, c0, c1, c2, c3, c4, c5, q2, m2, q3, m3, q4, m4⟩ := hbt
      obtain ⟨kb2, ob2, rfl, hbt2⟩ := (hy.below hB) k b hkb
      obtain ⟨t2, j2, t3, j3, t4, j4, d0, d1, d2, d3, d4, d5, g2, -, g3, -, g4, -⟩ := hbt2
      clear hx hy hkb
      go_wp2
      go_region_with (go_at_call 48; refine (eqNode_same _ _ _ _ _ _ _ _ _ _ _ _ _ _ ?_ ?_ m2 ?_ ?_ m3 ?_ ?_ m4).mono ?_; exact q2.below (Below.refl _ _).drew; exact g2.below (Below.refl _ _).drew; exact q3.below (Below.refl _ _).drew; exact g3.below (Below.refl _ _).drew; exact q4.below (Below.refl _ _).drew; exact g4.below (Below.refl _ _).drew; rintro r w1 ⟨rfl, hB1⟩)
      all_goals
        go_wp2
        go_roundw
        case rel => exact ⟨k + 1, by omega, by go_num, hB.drew.trans (hB1.mono (by simpa using hB.size))⟩
        case measure => simp [intOf]; omega
    · go_wp2
      go_ret
      exact ⟨rfl, hB⟩

end Go.Proofs.YtekjpbfmiebigaaDoor
