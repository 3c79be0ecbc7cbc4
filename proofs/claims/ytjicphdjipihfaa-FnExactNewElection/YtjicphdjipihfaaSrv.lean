/-
  Lists of Server as a call reads them, and the contracts of the laws' helpers on them: szServer, szServerS, toServer, toServerS, eqServer, eqServerS. Made by mkbag.py.
-/
import Derived.Test.YtjicphdjipihfaaBagAid
namespace Go.Proofs.Ytjicphdjipihfaa
open Go.RowKit

/-- One Server: what its fields read. -/
structure Sv where
  term : Int
  voted : Int
  stands : Bool
  leads : Bool
  got : List Int
  log : List Int
deriving DecidableEq

/-- At block K, from cell o on, one lies. -/
def SvAt (w : World) (K o : Nat) (c : Sv) : Prop :=
  ∃ r4 k4 r5 k5, w.cell? ⟨K, o, none⟩ = some (.int .i64 c.term) ∧ w.cell? ⟨K, o + 1, none⟩ = some (.int .i64 c.voted) ∧ w.cell? ⟨K, o + 2, none⟩ = some (.bool c.stands) ∧ w.cell? ⟨K, o + 3, none⟩ = some (.bool c.leads) ∧ w.cell? ⟨K, o + 4, none⟩ = some (.slice r4 c.got.length k4) ∧ w.cell? ⟨K, o + 5, none⟩ = some (.slice r5 c.log.length k5) ∧ Ints w r4 c.got ∧ c.got.length ≤ maxLen ∧ Ints w r5 c.log ∧ c.log.length ≤ maxLen

/-- The slice value at 'a' reads as these. -/
def Svs (w : World) (a : Option Addr) (l : List Sv) : Prop :=
  ∀ i c, l[i]? = some c → ∃ K o, a = some ⟨K, o, none⟩ ∧ SvAt w K (o + i * 6) c

theorem SvAt.below {w w' : World} {K o : Nat} {c : Sv} (h : SvAt w K o c) (hb : Below w.heap.size w w') : SvAt w' K o c := by
  obtain ⟨r4, k4, r5, k5, c0, c1, c2, c3, c4, c5, q4, m4, q5, m5⟩ := h
  have lt := lt_of_cell c0
  exact ⟨r4, k4, r5, k5, (hb.cell (p := ⟨K, o, none⟩) lt).trans c0, (hb.cell (p := ⟨K, o + 1, none⟩) lt).trans c1, (hb.cell (p := ⟨K, o + 2, none⟩) lt).trans c2, (hb.cell (p := ⟨K, o + 3, none⟩) lt).trans c3, (hb.cell (p := ⟨K, o + 4, none⟩) lt).trans c4, (hb.cell (p := ⟨K, o + 5, none⟩) lt).trans c5, q4.below hb, m4, q5.below hb, m5⟩

theorem Svs.below {w w' : World} {a : Option Addr} {l : List Sv} (h : Svs w a l) (hb : Below w.heap.size w w') : Svs w' a l := fun i c hi => by
  obtain ⟨K, o, e, hB⟩ := h i c hi
  exact ⟨K, o, e, hB.below hb⟩

theorem Svs.nil (w : World) (a : Option Addr) : Svs w a [] := fun i f hi => by simp at hi

theorem getSv {l : List Sv} {k : Nat} (h : k < l.length) : ∃ s, l[k]? = some s := ⟨_, List.getElem?_eq_getElem h⟩

theorem takeSv_snoc {l : List Sv} {k : Nat} {s : Sv} (h : l[k]? = some s) : l.take (k + 1) = l.take k ++ [s] := by
  rw [List.take_add_one, h]; rfl

theorem dropSv_cons {l : List Sv} {k : Nat} {b : Sv} (h : l[k]? = some b) : l.drop k = b :: l.drop (k + 1) := by
  obtain ⟨hlt, e⟩ := List.getElem?_eq_some_iff.1 h
  rw [List.drop_eq_getElem_cons hlt, e]

def szSv (c : Sv) (left : Int) : Int := if szN c.got.length left < 0 then -1 else szN c.log.length (szN c.got.length left)

theorem szSv_range (c : Sv) {left : Int} (h0 : 0 ≤ left) : -1 ≤ szSv c left ∧ szSv c left ≤ left := by
  unfold szSv
  have e0 := szN_range c.got.length (left := left)
  have e1 := szN_range c.log.length (left := (szN c.got.length left))
  repeat' split
  all_goals omega

theorem szSv_bound {c : Sv} {left : Int} (h : 0 ≤ szSv c left) : (c.got.length : Int) ≤ left ∧ (c.log.length : Int) ≤ left := by
  unfold szSv szN at h
  repeat' split at h
  all_goals omega

set_option maxHeartbeats 1000000 in
theorem szServer_any (c : Sv) (r4 r5 : Option Addr) (k4 k5 : Nat) (left : Int) (w : World) (l4 : c.got.length ≤ maxLen) (l5 : c.log.length ≤ maxLen) (h0 : 0 ≤ left) (h1 : left ≤ 1048576) :
    Calls Try.prog 67 #[.agg #[.int .i64 c.term, .int .i64 c.voted, .bool c.stands, .bool c.leads, .slice r4 c.got.length k4, .slice r5 c.log.length k5], .int .i64 left] w fun r w' => r = .returned (.int .i64 (szSv c left)) ∧ Below w.heap.size w w' := by
  have e0 := szN_range c.got.length (left := left)
  have e1 := szN_range c.log.length (left := (szN c.got.length left))
  by_cases n0 : szN c.got.length left < 0
  · go_enter Try.func67, Try.ntmps67
    go_wp2_with (first | (go_at_call 29; refine (szIntN_any _ _ _ _ _ (by first | exact l4 | exact l5) (by omega) (by omega)).mono ?_; rintro e w' ⟨rfl, rfl⟩))
    go_ret
    exact ⟨ret_int (by unfold szSv; repeat' split
                       all_goals omega), (Below.refl _ _).alloc (Nat.le_refl _) _⟩
  by_cases n1 : szN c.log.length (szN c.got.length left) < 0
  · go_enter Try.func67, Try.ntmps67
    go_wp2_with (first | (go_at_call 29; refine (szIntN_any _ _ _ _ _ (by first | exact l4 | exact l5) (by omega) (by omega)).mono ?_; rintro e w' ⟨rfl, rfl⟩))
    go_ret
    exact ⟨ret_int (by unfold szSv; repeat' split
                       all_goals omega), (Below.refl _ _).alloc (Nat.le_refl _) _⟩
  go_enter Try.func67, Try.ntmps67
  go_wp2_with (first | (go_at_call 29; refine (szIntN_any _ _ _ _ _ (by first | exact l4 | exact l5) (by omega) (by omega)).mono ?_; rintro e w' ⟨rfl, rfl⟩))
  go_ret
  exact ⟨ret_int (by unfold szSv; repeat' split
                     all_goals omega), (Below.refl _ _).alloc (Nat.le_refl _) _⟩

/-- What szServerS answers, one by one. -/
def szSvs' : List Sv → Int → Int
  | [], left => left
  | c :: r, left => if szSv c left < 0 then -1 else szSvs' r (szSv c left)

def szSvs (l : List Sv) (left : Int) : Int := if left - l.length < 0 then -1 else szSvs' l (left - l.length)

theorem szSvs'_range : ∀ (l : List Sv) (left : Int), 0 ≤ left → -1 ≤ szSvs' l left ∧ szSvs' l left ≤ left
  | [], left, h => by simp only [szSvs']; omega
  | c :: r, left, h => by
    have e := szSv_range c h
    simp only [szSvs']; split
    · omega
    · have := szSvs'_range r (szSv c left) (by omega)
      omega

theorem szSvs_range (l : List Sv) {left : Int} (h : 0 ≤ left) : -1 ≤ szSvs l left ∧ szSvs l left ≤ left := by
  unfold szSvs; split
  · omega
  · have := szSvs'_range l (left - l.length) (by omega)
    omega

theorem szSvs'_bound : ∀ (l : List Sv) (left : Int), left ≤ 1048576 → 0 ≤ left → 0 ≤ szSvs' l left → ∀ c, c ∈ l → c.got.length ≤ 1048576 ∧ c.log.length ≤ 1048576
  | [], left, _, _, _ => fun c hc => by simp at hc
  | d :: r, left, hl, h0, h => fun c hc => by
    simp only [szSvs'] at h; split at h
    · omega
    · have e := szSv_range d h0
      have e2 := szSv_bound (c := d) (left := left) (by omega)
      rcases List.mem_cons.1 hc with rfl | hc
      · omega
      · exact szSvs'_bound r (szSv d left) (by omega) (by omega) h c hc

theorem szSvs_bound {l : List Sv} {left : Int} (hl : left ≤ 1048576) (h : 0 ≤ szSvs l left) : l.length ≤ 1048576 ∧ ∀ c, c ∈ l → c.got.length ≤ 1048576 ∧ c.log.length ≤ 1048576 := by
  unfold szSvs at h; split at h
  · omega
  · exact ⟨by omega, szSvs'_bound l (left - l.length) (by omega) (by omega) h⟩

set_option maxHeartbeats 1000000 in
theorem szServerS_any (a : Option Addr) (c : Nat) (l : List Sv) (left : Int) (w : World) (hs : Svs w a l) (hl : l.length ≤ maxLen) (h0 : 0 ≤ left) (h1 : left ≤ 1048576) :
    Calls Try.prog 47 #[.slice a l.length c, .int .i64 left] w fun e w' => e = .returned (.int .i64 (szSvs l left)) ∧ Below w.heap.size w w' := by
  unfold maxLen at hl
  by_cases hn : left - (l.length : Int) < 0
  · go_enter Try.func47, Try.ntmps47
    go_wp2
    go_ret
    exact ⟨ret_int (by unfold szSvs; rw [if_pos hn]), Below.refl _ _⟩
  · go_enter Try.func47, Try.ntmps47
    go_wp2
    go_loopw [1, 5] (fun x i wr => ∃ k : Nat, k ≤ l.length ∧ i = .int .i64 k ∧ ∃ lf : Int, 0 ≤ lf ∧ lf ≤ 1048576 ∧ x = .int .i64 lf ∧ szSvs' (l.drop k) lf = szSvs' l (left - l.length) ∧ Below w.heap.size w wr) (fun _ i _ => l.length - (intOf i).toNat)
    case atStart => exact ⟨0, Nat.zero_le _, rfl, _, by omega, by omega, rfl, rfl, Below.refl _ _⟩
    case round =>
      obtain ⟨k, hk, rfl, lf, hlf, hlf2, rfl, hsz, hB⟩ := hrel
      by_cases hlt : k < l.length
      · obtain ⟨b, hkb⟩ := getSv hlt
        obtain ⟨kb, ob, rfl, hbt⟩ := (hs.below hB) k b hkb
        obtain ⟨r4, k4, r5, k5, c0, c1, c2, c3, c4, c5, q4, m4, q5, m5⟩ := hbt
        have HD : Hid (szSvs' (l.drop k) lf = szSvs' l (left - l.length)) := hsz
        clear hsz
        have hr := szSv_range b hlf
        go_wp2_with fail
        refine (szServer_any _ _ _ _ _ _ _ m4 m5 hlf hlf2).mono ?_
        rintro r w1 ⟨rfl, hB1⟩
        have hBn := hB.trans (hB1.mono hB.size)
        have HK : Hid (l.drop k = b :: l.drop (k + 1)) := dropSv_cons hkb
        clear hs hB1 hB hkb c0 c1 c2 c3 c4 c5
        by_cases hneg : szSv b lf < 0
        · go_wp2
          go_ret
          refine ⟨ret_int ?_, hBn⟩
          have e := HD.out
          rw [HK.out, szSvs', if_pos hneg] at e
          unfold szSvs; rw [if_neg (by omega), ← e]
        · go_wp2
          go_roundw
          case rel =>
            refine ⟨k + 1, by omega, by go_num, _, by omega, by omega, rfl, ?_, hBn⟩
            have e := HD.out
            rwa [HK.out, szSvs', if_neg (by omega)] at e
          case measure => simp [intOf]; omega
      · go_wp2
        go_ret
        refine ⟨ret_int ?_, hB⟩
        rw [List.drop_eq_nil_of_le (by omega)] at hsz
        unfold szSvs; rw [if_neg (by omega), ← hsz, szSvs']

/-- What toServer answers. -/
def SvNew (w w' : World) (c : Sv) (r : Ending) : Prop :=
  ∃ s4 s5, r = .returned (.agg #[.int .i64 c.term, .int .i64 c.voted, .bool c.stands, .bool c.leads, .slice s4 c.got.length c.got.length, .slice s5 c.log.length c.log.length]) ∧ Ints w' s4 c.got ∧ RowI w' w.heap.size s4 c.got.length ∧ Ints w' s5 c.log ∧ RowI w' w.heap.size s5 c.log.length ∧ Below w.heap.size w w'

set_option maxHeartbeats 2000000 in
theorem toServer_any (c : Sv) (r4 r5 : Option Addr) (k4 k5 : Nat) (w : World) (h4 : Ints w r4 c.got) (h5 : Ints w r5 c.log) (l4 : c.got.length ≤ 1048576) (l5 : c.log.length ≤ 1048576) :
    Calls Try.prog 69 #[.agg #[.int .i64 c.term, .int .i64 c.voted, .bool c.stands, .bool c.leads, .slice r4 c.got.length k4, .slice r5 c.log.length k5]] w fun r w' => SvNew w w' c r := by
  have hb3 : ∀ x y z, Below w.heap.size w (((w.alloc x).alloc y).alloc z) := fun _ _ _ => (((Below.refl _ _).alloc (Nat.le_refl _) _).alloc (by simp) _).alloc (by simp; omega) _
  go_enter Try.func69, Try.ntmps69
  go_wp2_with fail
  refine (toIntS_any _ _ _ _ (h4.below (hb3 _ _ _)) l4).mono ?_
  rintro r w1 ⟨s4, rfl, H4, R4, hB⟩
  have HB : Below w.heap.size w w1 := (hb3 _ _ _).trans (hB.mono (hb3 _ _ _).size)
  have p0 : w1.cell? ⟨w.heap.size, 0, none⟩ = some (.int .i64 c.term) := celB hB (by simp [go_sem])
  have p1 : w1.cell? ⟨w.heap.size, 1, none⟩ = some (.int .i64 c.voted) := celB hB (by simp [go_sem])
  have p2 : w1.cell? ⟨w.heap.size, 2, none⟩ = some (.bool c.stands) := celB hB (by simp [go_sem])
  have p3 : w1.cell? ⟨w.heap.size, 3, none⟩ = some (.bool c.leads) := celB hB (by simp [go_sem])
  have p4 : w1.cell? ⟨w.heap.size, 4, none⟩ = some (.slice r4 c.got.length k4) := celB hB (by simp [go_sem])
  have p5 : w1.cell? ⟨w.heap.size, 5, none⟩ = some (.slice r5 c.log.length k5) := celB hB (by simp [go_sem])
  have o0 : w1.cell? ⟨w.heap.size + 1 + 1, 0, none⟩ = some (.int .i64 c.term) := celB hB (by simp [go_sem])
  have o1 : w1.cell? ⟨w.heap.size + 1 + 1, 1, none⟩ = some (.int .i64 c.voted) := celB hB (by simp [go_sem])
  have o2 : w1.cell? ⟨w.heap.size + 1 + 1, 2, none⟩ = some (.bool c.stands) := celB hB (by simp [go_sem])
  have o3 : w1.cell? ⟨w.heap.size + 1 + 1, 3, none⟩ = some (.bool c.leads) := celB hB (by simp [go_sem])
  have o4 : w1.cell? ⟨w.heap.size + 1 + 1, 4, none⟩ = some (.slice none 0 0) := celB hB (by simp [go_sem])
  have o5 : w1.cell? ⟨w.heap.size + 1 + 1, 5, none⟩ = some (.slice none 0 0) := celB hB (by simp [go_sem])
  have t0 : w1.cell? ⟨w.heap.size + 1, 0, none⟩ = some (.int .i64 0) := celB hB (by simp [go_sem])
  have t1 : w1.cell? ⟨w.heap.size + 1, 1, none⟩ = some (.int .i64 0) := celB hB (by simp [go_sem])
  have t2 : w1.cell? ⟨w.heap.size + 1, 2, none⟩ = some (.bool false) := celB hB (by simp [go_sem])
  have t3 : w1.cell? ⟨w.heap.size + 1, 3, none⟩ = some (.bool false) := celB hB (by simp [go_sem])
  have t4 : w1.cell? ⟨w.heap.size + 1, 4, none⟩ = some (.slice none 0 0) := celB hB (by simp [go_sem])
  have t5 : w1.cell? ⟨w.heap.size + 1, 5, none⟩ = some (.slice none 0 0) := celB hB (by simp [go_sem])
  have x0 : ∀ o, w1.frozen? ⟨w.heap.size, o, none⟩ = false := fun o => frzB hB (by simp; omega) (by simp [go_sem])
  have x1 : ∀ o, w1.frozen? ⟨w.heap.size + 1, o, none⟩ = false := fun o => frzB hB (by simp) (by simp [go_sem])
  have x2 : ∀ o, w1.frozen? ⟨w.heap.size + 1 + 1, o, none⟩ = false := fun o => frzB hB (by simp) (by simp [go_sem])
  have hz1 := hB.size
  simp only [World.size_alloc] at hz1 R4
  clear hB
  go_wp2_with fail
  obtain ⟨u, hu⟩ : ∃ u, (w1.setCell ⟨w.heap.size + 1 + 1, 4, none⟩ (.slice s4 c.got.length c.got.length)) = u := ⟨_, rfl⟩
  rw [hu]
  have HS : Below w.heap.size w u := by rw [← hu]; exact HB.setCell (by first | (simp; done) | (simp; omega)) _
  replace p0 : u.cell? ⟨w.heap.size, 0, none⟩ = some (.int .i64 c.term) := by rw [← hu]; simp [go_sem, p0]
  replace p1 : u.cell? ⟨w.heap.size, 1, none⟩ = some (.int .i64 c.voted) := by rw [← hu]; simp [go_sem, p1]
  replace p2 : u.cell? ⟨w.heap.size, 2, none⟩ = some (.bool c.stands) := by rw [← hu]; simp [go_sem, p2]
  replace p3 : u.cell? ⟨w.heap.size, 3, none⟩ = some (.bool c.leads) := by rw [← hu]; simp [go_sem, p3]
  replace p4 : u.cell? ⟨w.heap.size, 4, none⟩ = some (.slice r4 c.got.length k4) := by rw [← hu]; simp [go_sem, p4]
  replace p5 : u.cell? ⟨w.heap.size, 5, none⟩ = some (.slice r5 c.log.length k5) := by rw [← hu]; simp [go_sem, p5]
  replace o0 : u.cell? ⟨w.heap.size + 1 + 1, 0, none⟩ = some (.int .i64 c.term) := by rw [← hu]; simp [go_sem, o0]
  replace o1 : u.cell? ⟨w.heap.size + 1 + 1, 1, none⟩ = some (.int .i64 c.voted) := by rw [← hu]; simp [go_sem, o1]
  replace o2 : u.cell? ⟨w.heap.size + 1 + 1, 2, none⟩ = some (.bool c.stands) := by rw [← hu]; simp [go_sem, o2]
  replace o3 : u.cell? ⟨w.heap.size + 1 + 1, 3, none⟩ = some (.bool c.leads) := by rw [← hu]; simp [go_sem, o3]
  replace o4 : u.cell? ⟨w.heap.size + 1 + 1, 4, none⟩ = some (.slice s4 c.got.length c.got.length) := by rw [← hu]; simp [go_sem, o4]
  replace o5 : u.cell? ⟨w.heap.size + 1 + 1, 5, none⟩ = some (.slice none 0 0) := by rw [← hu]; simp [go_sem, o5]
  replace t0 : u.cell? ⟨w.heap.size + 1, 0, none⟩ = some (.int .i64 0) := by rw [← hu]; simp [go_sem, t0]
  replace t1 : u.cell? ⟨w.heap.size + 1, 1, none⟩ = some (.int .i64 0) := by rw [← hu]; simp [go_sem, t1]
  replace t2 : u.cell? ⟨w.heap.size + 1, 2, none⟩ = some (.bool false) := by rw [← hu]; simp [go_sem, t2]
  replace t3 : u.cell? ⟨w.heap.size + 1, 3, none⟩ = some (.bool false) := by rw [← hu]; simp [go_sem, t3]
  replace t4 : u.cell? ⟨w.heap.size + 1, 4, none⟩ = some (.slice none 0 0) := by rw [← hu]; simp [go_sem, t4]
  replace t5 : u.cell? ⟨w.heap.size + 1, 5, none⟩ = some (.slice none 0 0) := by rw [← hu]; simp [go_sem, t5]
  replace x0 : ∀ o, u.frozen? ⟨w.heap.size, o, none⟩ = false := fun o => by rw [← hu]; simp [go_sem, x0]
  replace x1 : ∀ o, u.frozen? ⟨w.heap.size + 1, o, none⟩ = false := fun o => by rw [← hu]; simp [go_sem, x1]
  replace x2 : ∀ o, u.frozen? ⟨w.heap.size + 1 + 1, o, none⟩ = false := fun o => by rw [← hu]; simp [go_sem, x2]
  replace hz1 : w.heap.size + 1 + 1 + 1 ≤ u.heap.size := by rw [← hu]; simpa using hz1
  have H4' : Ints u s4 c.got := by rw [← hu]; exact H4.setR R4 (by omega) _ _
  have R4' : RowI u (w.heap.size + 1 + 1 + 1) s4 c.got.length := by rw [← hu]; exact R4.setR (by omega) _ _
  clear hu H4 R4
  refine (toIntS_any _ _ _ _ (h5.below HS) l5).mono ?_
  rintro r w2 ⟨s5, rfl, H5, R5, hB⟩
  have H4 := H4'.below hB
  have R4 := R4'.below hB
  replace p0 := celB hB p0
  replace o0 := celB hB o0
  replace t0 := celB hB t0
  replace p1 := celB hB p1
  replace o1 := celB hB o1
  replace t1 := celB hB t1
  replace p2 := celB hB p2
  replace o2 := celB hB o2
  replace t2 := celB hB t2
  replace p3 := celB hB p3
  replace o3 := celB hB o3
  replace t3 := celB hB t3
  replace p4 := celB hB p4
  replace o4 := celB hB o4
  replace t4 := celB hB t4
  replace p5 := celB hB p5
  replace o5 := celB hB o5
  replace t5 := celB hB t5
  replace x0 := fun o => frzB (o := o) hB (by omega) (x0 o)
  replace x1 := fun o => frzB (o := o) hB (by omega) (x1 o)
  replace x2 := fun o => frzB (o := o) hB (by omega) (x2 o)
  replace R5 := R5.mono (B' := w.heap.size + 1 + 1 + 1) (by omega)
  have HB : Below w.heap.size w w2 := HS.trans (hB.mono HS.size)
  have hz2 : w.heap.size + 1 + 1 + 1 ≤ w2.heap.size := by have := hB.size; omega
  clear hB HS hz1 
  go_wp2
  refine bodyPost_ret (v := .agg #[.int .i64 c.term, .int .i64 c.voted, .bool c.stands, .bool c.leads, .slice s4 c.got.length c.got.length, .slice s5 c.log.length c.log.length]) (by simp [results, Try.results69, go_sem, t0, t1, t2, t3, t4, t5]) rfl ⟨_, _, rfl, ?_, ?_, ?_, ?_, ?_⟩
  · exact (((((((H4.setR R4 (by omega) _ _).setR (R4.setR (by omega) _ _) (by omega) _ _).setR ((R4.setR (by omega) _ _).setR (by omega) _ _) (by omega) _ _).setR (((R4.setR (by omega) _ _).setR (by omega) _ _).setR (by omega) _ _) (by omega) _ _).setR ((((R4.setR (by omega) _ _).setR (by omega) _ _).setR (by omega) _ _).setR (by omega) _ _) (by omega) _ _).setR (((((R4.setR (by omega) _ _).setR (by omega) _ _).setR (by omega) _ _).setR (by omega) _ _).setR (by omega) _ _) (by omega) _ _).setR ((((((R4.setR (by omega) _ _).setR (by omega) _ _).setR (by omega) _ _).setR (by omega) _ _).setR (by omega) _ _).setR (by omega) _ _) (by omega) _ _)
  · exact (((((((R4.setR (by omega) _ _).setR (by omega) _ _).setR (by omega) _ _).setR (by omega) _ _).setR (by omega) _ _).setR (by omega) _ _).setR (by omega) _ _).mono (by omega)
  · exact (((((((H5.setR R5 (by omega) _ _).setR (R5.setR (by omega) _ _) (by omega) _ _).setR ((R5.setR (by omega) _ _).setR (by omega) _ _) (by omega) _ _).setR (((R5.setR (by omega) _ _).setR (by omega) _ _).setR (by omega) _ _) (by omega) _ _).setR ((((R5.setR (by omega) _ _).setR (by omega) _ _).setR (by omega) _ _).setR (by omega) _ _) (by omega) _ _).setR (((((R5.setR (by omega) _ _).setR (by omega) _ _).setR (by omega) _ _).setR (by omega) _ _).setR (by omega) _ _) (by omega) _ _).setR ((((((R5.setR (by omega) _ _).setR (by omega) _ _).setR (by omega) _ _).setR (by omega) _ _).setR (by omega) _ _).setR (by omega) _ _) (by omega) _ _)
  · exact (((((((R5.setR (by omega) _ _).setR (by omega) _ _).setR (by omega) _ _).setR (by omega) _ _).setR (by omega) _ _).setR (by omega) _ _).setR (by omega) _ _).mono (by omega)
  · exact (((((((HB.setCell (by first | (simp; done) | (simp; omega)) _).setCell (by first | (simp; done) | (simp; omega)) _).setCell (by first | (simp; done) | (simp; omega)) _).setCell (by first | (simp; done) | (simp; omega)) _).setCell (by first | (simp; done) | (simp; omega)) _).setCell (by first | (simp; done) | (simp; omega)) _).setCell (by first | (simp; done) | (simp; omega)) _)

theorem Try.infoSv : (Try.prog.info? 58).map (fun i => (i.zero, i.size, i.bytes)) = some (some (.agg #[.int .i64 0, .int .i64 0, .bool false, .bool false, .slice none 0 0, .slice none 0 0]), 6, 72) := by kernel_rfl

/-- The row at N holds the first k; their own lists lie behind N. -/
def SvTo (w : World) (N : Nat) (f : Nat → Value) (l : List Sv) (k : Nat) : Prop :=
  ∀ i c, i < k → l[i]? = some c → ∃ r4 k4 r5 k5, f (i * 6) = .int .i64 c.term ∧ f (i * 6 + 1) = .int .i64 c.voted ∧ f (i * 6 + 2) = .bool c.stands ∧ f (i * 6 + 3) = .bool c.leads ∧ f (i * 6 + 4) = .slice r4 c.got.length k4 ∧ f (i * 6 + 5) = .slice r5 c.log.length k5 ∧ Ints w r4 c.got ∧ c.got.length ≤ maxLen ∧ RowI w (N + 1) r4 c.got.length ∧ Ints w r5 c.log ∧ c.log.length ≤ maxLen ∧ RowI w (N + 1) r5 c.log.length

theorem SvTo.below {w w' : World} {N : Nat} {f : Nat → Value} {l : List Sv} {k : Nat} (h : SvTo w N f l k) (hb : Below w.heap.size w w') : SvTo w' N f l k := fun i c hi hc => by
  obtain ⟨r4, k4, r5, k5, c0, c1, c2, c3, c4, c5, q4, m4, R4, q5, m5, R5⟩ := h i c hi hc
  exact ⟨r4, k4, r5, k5, c0, c1, c2, c3, c4, c5, q4.below hb, m4, R4.below hb, q5.below hb, m5, R5.below hb⟩

set_option maxHeartbeats 1000000 in
theorem SvTo_step {w : World} {N : Nat} {t : TypeId} {m : Nat} {f : Nat → Value} {l : List Sv} {k : Nat} {b : Sv} {r4 : Option Addr} {k4 : Nat} {r5 : Option Addr} {k5 : Nat} (hR : w.rowIs N t (m * 6) f) (hO : SvTo w N f l k) (hb : l[k]? = some b) (h4 : Ints w r4 b.got) (m4 : b.got.length ≤ maxLen) (R4 : RowI w (N + 1) r4 b.got.length) (h5 : Ints w r5 b.log) (m5 : b.log.length ≤ maxLen) (R5 : RowI w (N + 1) r5 b.log.length) :
    ∃ g, ((((((w.setCell ⟨N, k * 6, none⟩ (.int .i64 b.term)).setCell ⟨N, k * 6 + 1, none⟩ (.int .i64 b.voted)).setCell ⟨N, k * 6 + 2, none⟩ (.bool b.stands)).setCell ⟨N, k * 6 + 3, none⟩ (.bool b.leads)).setCell ⟨N, k * 6 + 4, none⟩ (.slice r4 b.got.length k4)).setCell ⟨N, k * 6 + 5, none⟩ (.slice r5 b.log.length k5)).rowIs N t (m * 6) g ∧ SvTo ((((((w.setCell ⟨N, k * 6, none⟩ (.int .i64 b.term)).setCell ⟨N, k * 6 + 1, none⟩ (.int .i64 b.voted)).setCell ⟨N, k * 6 + 2, none⟩ (.bool b.stands)).setCell ⟨N, k * 6 + 3, none⟩ (.bool b.leads)).setCell ⟨N, k * 6 + 4, none⟩ (.slice r4 b.got.length k4)).setCell ⟨N, k * 6 + 5, none⟩ (.slice r5 b.log.length k5)) N g l (k + 1) := by
  refine ⟨_, ((((((hR.set _ _).set _ _).set _ _).set _ _).set _ _).set _ _), fun i c hi hc => ?_⟩
  by_cases e : i = k
  · subst e
    obtain rfl : b = c := by rw [hb] at hc; simpa using hc
    refine ⟨r4, k4, r5, k5, ?_, ?_, ?_, ?_, ?_, ?_, ((((((h4.setR R4 (by omega) _ _).setR (R4.setR (by omega) _ _) (by omega) _ _).setR ((R4.setR (by omega) _ _).setR (by omega) _ _) (by omega) _ _).setR (((R4.setR (by omega) _ _).setR (by omega) _ _).setR (by omega) _ _) (by omega) _ _).setR ((((R4.setR (by omega) _ _).setR (by omega) _ _).setR (by omega) _ _).setR (by omega) _ _) (by omega) _ _).setR (((((R4.setR (by omega) _ _).setR (by omega) _ _).setR (by omega) _ _).setR (by omega) _ _).setR (by omega) _ _) (by omega) _ _), m4, ((((((R4.setR (by omega) _ _).setR (by omega) _ _).setR (by omega) _ _).setR (by omega) _ _).setR (by omega) _ _).setR (by omega) _ _), ((((((h5.setR R5 (by omega) _ _).setR (R5.setR (by omega) _ _) (by omega) _ _).setR ((R5.setR (by omega) _ _).setR (by omega) _ _) (by omega) _ _).setR (((R5.setR (by omega) _ _).setR (by omega) _ _).setR (by omega) _ _) (by omega) _ _).setR ((((R5.setR (by omega) _ _).setR (by omega) _ _).setR (by omega) _ _).setR (by omega) _ _) (by omega) _ _).setR (((((R5.setR (by omega) _ _).setR (by omega) _ _).setR (by omega) _ _).setR (by omega) _ _).setR (by omega) _ _) (by omega) _ _), m5, ((((((R5.setR (by omega) _ _).setR (by omega) _ _).setR (by omega) _ _).setR (by omega) _ _).setR (by omega) _ _).setR (by omega) _ _)⟩ <;> simp
  · obtain ⟨r4', k4', r5', k5', c0, c1, c2, c3, c4, c5, q4, m4', S4, q5, m5', S5⟩ := hO i c (by omega) hc
    refine ⟨r4', k4', r5', k5', ?_, ?_, ?_, ?_, ?_, ?_, ((((((q4.setR S4 (by omega) _ _).setR (S4.setR (by omega) _ _) (by omega) _ _).setR ((S4.setR (by omega) _ _).setR (by omega) _ _) (by omega) _ _).setR (((S4.setR (by omega) _ _).setR (by omega) _ _).setR (by omega) _ _) (by omega) _ _).setR ((((S4.setR (by omega) _ _).setR (by omega) _ _).setR (by omega) _ _).setR (by omega) _ _) (by omega) _ _).setR (((((S4.setR (by omega) _ _).setR (by omega) _ _).setR (by omega) _ _).setR (by omega) _ _).setR (by omega) _ _) (by omega) _ _), m4', ((((((S4.setR (by omega) _ _).setR (by omega) _ _).setR (by omega) _ _).setR (by omega) _ _).setR (by omega) _ _).setR (by omega) _ _), ((((((q5.setR S5 (by omega) _ _).setR (S5.setR (by omega) _ _) (by omega) _ _).setR ((S5.setR (by omega) _ _).setR (by omega) _ _) (by omega) _ _).setR (((S5.setR (by omega) _ _).setR (by omega) _ _).setR (by omega) _ _) (by omega) _ _).setR ((((S5.setR (by omega) _ _).setR (by omega) _ _).setR (by omega) _ _).setR (by omega) _ _) (by omega) _ _).setR (((((S5.setR (by omega) _ _).setR (by omega) _ _).setR (by omega) _ _).setR (by omega) _ _).setR (by omega) _ _) (by omega) _ _), m5', ((((((S5.setR (by omega) _ _).setR (by omega) _ _).setR (by omega) _ _).setR (by omega) _ _).setR (by omega) _ _).setR (by omega) _ _)⟩
    · rw [if_neg (by omega), if_neg (by omega), if_neg (by omega), if_neg (by omega), if_neg (by omega), if_neg (by omega)]; exact c0
    · rw [if_neg (by omega), if_neg (by omega), if_neg (by omega), if_neg (by omega), if_neg (by omega), if_neg (by omega)]; exact c1
    · rw [if_neg (by omega), if_neg (by omega), if_neg (by omega), if_neg (by omega), if_neg (by omega), if_neg (by omega)]; exact c2
    · rw [if_neg (by omega), if_neg (by omega), if_neg (by omega), if_neg (by omega), if_neg (by omega), if_neg (by omega)]; exact c3
    · rw [if_neg (by omega), if_neg (by omega), if_neg (by omega), if_neg (by omega), if_neg (by omega), if_neg (by omega)]; exact c4
    · rw [if_neg (by omega), if_neg (by omega), if_neg (by omega), if_neg (by omega), if_neg (by omega), if_neg (by omega)]; exact c5

theorem Svs.of_to {w : World} {N : Nat} {t : TypeId} {f : Nat → Value} {l : List Sv} (hR : w.rowIs N t (l.length * 6) f) (hO : SvTo w N f l l.length) : Svs w (some ⟨N, 0, none⟩) l := fun i c hi => by
  have hlt := (List.getElem?_eq_some_iff.1 hi).1
  obtain ⟨r4, k4, r5, k5, c0, c1, c2, c3, c4, c5, q4, m4, -, q5, m5, -⟩ := hO i c hlt hi
  refine ⟨N, 0, rfl, r4, k4, r5, k5, ?_, ?_, ?_, ?_, ?_, ?_, q4, m4, q5, m5⟩
  · rw [Nat.zero_add, hR.cell (by omega), c0]
  · rw [Nat.zero_add, hR.cell (by omega), c1]
  · rw [Nat.zero_add, hR.cell (by omega), c2]
  · rw [Nat.zero_add, hR.cell (by omega), c3]
  · rw [Nat.zero_add, hR.cell (by omega), c4]
  · rw [Nat.zero_add, hR.cell (by omega), c5]

/-- It reads so, and all of it lies in blocks from B on. -/
def SvsA (w : World) (B : Nat) (a : Option Addr) (l : List Sv) : Prop := ∀ w2 : World, (∀ b, B ≤ b → b < w.heap.size → w2.heap[b]? = w.heap[b]?) → Svs w2 a l

theorem SvsA.here {w : World} {B : Nat} {a : Option Addr} {l : List Sv} (h : SvsA w B a l) : Svs w a l := h w fun _ _ _ => rfl

theorem SvsA.below {w w' : World} {B : Nat} {a : Option Addr} {l : List Sv} (h : SvsA w B a l) (hb : Below w.heap.size w w') : SvsA w' B a l := fun w2 h2 =>
  h w2 fun b h1 hl => (h2 b h1 (by have := hb.size; omega)).trans (hb.block b hl)

theorem SvsA.mono {w : World} {B B' : Nat} {a : Option Addr} {l : List Sv} (h : SvsA w B a l) (hb : B' ≤ B) : SvsA w B' a l := fun w2 h2 =>
  h w2 fun b h1 hl => h2 b (by omega) hl

theorem SvsA.setR {w : World} {B N : Nat} {a : Option Addr} {l : List Sv} (h : SvsA w B a l) (hN : N < B) (o : Nat) (v : Value) : SvsA (w.setCell ⟨N, o, none⟩ v) B a l := fun w2 h2 =>
  h w2 fun b h1 hl => (h2 b h1 (by simpa using hl)).trans (Below.heap_setCell w ⟨N, o, none⟩ v b (by simp; omega))

theorem SvsA.of_to {w : World} {N : Nat} {t : TypeId} {f : Nat → Value} {l : List Sv} (hR : w.rowIs N t (l.length * 6) f) (hO : SvTo w N f l l.length) : SvsA w N (some ⟨N, 0, none⟩) l := fun w2 h2 => by
  refine Svs.of_to (hR.of_block (h2 N (Nat.le_refl _) hR.lt)) fun i c hi hc => ?_
  obtain ⟨r4, k4, r5, k5, c0, c1, c2, c3, c4, c5, q4, m4, R4, q5, m5, R5⟩ := hO i c hi hc
  exact ⟨r4, k4, r5, k5, c0, c1, c2, c3, c4, c5, q4.of_block fun b hb => h2 b (by have := (R4.lt hb).1; omega) (R4.lt hb).2, m4, R4.of_block fun b hb => h2 b (by have := (R4.lt hb).1; omega) (R4.lt hb).2, q5.of_block fun b hb => h2 b (by have := (R5.lt hb).1; omega) (R5.lt hb).2, m5, R5.of_block fun b hb => h2 b (by have := (R5.lt hb).1; omega) (R5.lt hb).2⟩

set_option maxHeartbeats 2000000 in
theorem toServerS_any (a : Option Addr) (c : Nat) (l : List Sv) (w : World) (hs : Svs w a l) (hl : l.length ≤ 1048576) (hrec : ∀ c, c ∈ l → c.got.length ≤ 1048576 ∧ c.log.length ≤ 1048576) :
    Calls Try.prog 53 #[.slice a l.length c] w fun e w' => ∃ a', e = .returned (.slice a' l.length l.length) ∧ Svs w' a' l ∧ SvsA w' w.heap.size a' l ∧ Below w.heap.size w w' := by
  have hmk := run_make_manyV (P := Try.prog) 24 58 _ 6 72 Try.underlying24 Try.infoSv .i64 .i64 l.length (by omega) (by omega)
  go_enter Try.func53, Try.ntmps53
  go_wp2
  have hB : ∀ o, Below w.heap.size w (w.alloc o) := fun o => (Below.refl _ _).alloc (Nat.le_refl _) o
  go_loopw [4] (fun i wr => ∃ k : Nat, k ≤ l.length ∧ i = .int .i64 k ∧ ∃ f, wr.rowIs w.heap.size 58 (l.length * 6) f ∧ SvTo wr w.heap.size f l k ∧ Below w.heap.size w wr) (fun i _ => l.length - (intOf i).toNat)
  case atStart => exact ⟨0, Nat.zero_le _, rfl, _, by simpa [size_madeCells] using rowIs_of_allocV w (madeCells _ (l.length * 6)) 58, fun i b hi => absurd hi (Nat.not_lt_zero _), hB _⟩
  case round =>
    clear hB
    obtain ⟨k, hk, rfl, f, hR, hO, hB⟩ := hrel
    by_cases hlt : k < l.length
    · obtain ⟨b, hkb⟩ := getSv hlt
      obtain ⟨kb, ob, rfl, hbt⟩ := (hs.below hB) k b hkb
      obtain ⟨r4, k4, r5, k5, c0, c1, c2, c3, c4, c5, q4, m4, q5, m5⟩ := hbt
      have hrl := hrec b (List.mem_of_getElem? hkb)
      have HK : Hid (l[k]? = some b) := hkb
      clear hs hkb
      go_wp2_with fail
      refine (toServer_any b _ _ _ _ _ q4 q5 hrl.1 hrl.2).mono ?_
      rintro r w1 ⟨s4, s5, rfl, H4, R4, H5, R5, hB1⟩
      have hR1 : w1.rowIs w.heap.size 58 (l.length * 6) f := hR.of_block (hB1.block _ hR.lt)
      have d0 := hR1.cell (i := k * 6) (by omega)
      have d1 := hR1.cell (i := k * 6 + 1) (by omega)
      have d2 := hR1.cell (i := k * 6 + 2) (by omega)
      have d3 := hR1.cell (i := k * 6 + 3) (by omega)
      have d4 := hR1.cell (i := k * 6 + 4) (by omega)
      have d5 := hR1.cell (i := k * 6 + 5) (by omega)
      replace R4 := R4.mono (B' := w.heap.size + 1) (by have := hR.lt; omega)
      replace R5 := R5.mono (B' := w.heap.size + 1) (by have := hR.lt; omega)
      have hf := hR1.frozen
      have hO1 := hO.below hB1
      have hBn := hB.trans (hB1.mono hB.size)
      clear hO hB hB1 hR
      go_wp2
      go_roundw
      case rel =>
        obtain ⟨g, hg, hOg⟩ := SvTo_step (k4 := b.got.length) (k5 := b.log.length) hR1 hO1 HK.out H4 m4 R4 H5 m5 R5
        exact ⟨k + 1, by omega, by go_num, g, hg, hOg, ((((((hBn.setCell (Nat.le_refl _) _).setCell (Nat.le_refl _) _).setCell (Nat.le_refl _) _).setCell (Nat.le_refl _) _).setCell (Nat.le_refl _) _).setCell (Nat.le_refl _) _)⟩
      case measure => simp [intOf]; omega
    · go_wp2
      go_ret
      obtain rfl : k = l.length := by omega
      exact ⟨_, rfl, Svs.of_to hR hO, SvsA.of_to hR hO, hB⟩

set_option maxHeartbeats 1000000 in
theorem eqServer_same (c : Sv) (r4 t4 r5 t5 : Option Addr) (k4 j4 k5 j5 : Nat) (w : World) (h4 : Ints w r4 c.got) (g4 : Ints w t4 c.got) (l4 : c.got.length ≤ maxLen) (h5 : Ints w r5 c.log) (g5 : Ints w t5 c.log) (l5 : c.log.length ≤ maxLen) :
    Calls Try.prog 63 #[.agg #[.int .i64 c.term, .int .i64 c.voted, .bool c.stands, .bool c.leads, .slice r4 c.got.length k4, .slice r5 c.log.length k5], .agg #[.int .i64 c.term, .int .i64 c.voted, .bool c.stands, .bool c.leads, .slice t4 c.got.length j4, .slice t5 c.log.length j5]] w fun r w' => r = .returned (.bool true) ∧ Below w.heap.size w w' := by
  have b2 : (c.stands != c.stands) = false := by simp
  have b2' : (!(c.stands == c.stands)) = false := by simp
  have b3 : (c.leads != c.leads) = false := by simp
  have b3' : (!(c.leads == c.leads)) = false := by simp
  have HB : ∀ x y, Below w.heap.size w ((w.alloc x).alloc y) := fun _ _ => ((Below.refl _ _).alloc (Nat.le_refl _) _).alloc (by simp) _
  go_enter Try.func63, Try.ntmps63
  go_wp2_with fail
  refine (eqIntS_same _ _ _ _ _ _ (h4.below (HB _ _)) (g4.below (HB _ _)) l4).mono ?_
  rintro r w1 ⟨rfl, hB⟩
  have p5 : w1.cell? ⟨w.heap.size, 5, none⟩ = some (.slice r5 c.log.length k5) := celB hB (by simp [go_sem])
  have o5 : w1.cell? ⟨w.heap.size + 1, 5, none⟩ = some (.slice t5 c.log.length j5) := celB hB (by simp [go_sem])
  have BB : Below w.heap.size w w1 := (HB _ _).trans (hB.mono (HB _ _).size)
  clear hB
  go_wp2_with fail
  refine (eqIntS_same _ _ _ _ _ _ (h5.below BB) (g5.below BB) l5).mono ?_
  rintro r w2 ⟨rfl, hB⟩
  replace BB : Below w.heap.size w w2 := BB.trans (hB.mono BB.size)
  clear hB
  go_wp2
  go_ret
  exact ⟨rfl, BB⟩

set_option maxHeartbeats 1000000 in
theorem eqServerS_same (a a2 : Option Addr) (c c2 : Nat) (l : List Sv) (w : World) (hx : Svs w a l) (hy : Svs w a2 l) (hl : l.length ≤ maxLen) :
    Calls Try.prog 37 #[.slice a l.length c, .slice a2 l.length c2] w fun e w' => e = .returned (.bool true) ∧ Below w.heap.size w w' := by
  unfold maxLen at hl
  go_enter Try.func37, Try.ntmps37
  go_wp2
  go_loopw [5] (fun i wr => ∃ k : Nat, k ≤ l.length ∧ i = .int .i64 k ∧ Below w.heap.size w wr) (fun i _ => l.length - (intOf i).toNat)
  case atStart => exact ⟨0, Nat.zero_le _, rfl, Below.refl _ _⟩
  case round =>
    obtain ⟨k, hk, rfl, hB⟩ := hrel
    by_cases hlt : k < l.length
    · obtain ⟨b, hkb⟩ := getSv hlt
      obtain ⟨kb, ob, rfl, hbt⟩ := (hx.below hB) k b hkb
      obtain ⟨r4, k4, r5, k5, c0, c1, c2, c3, c4, c5, q4, m4, q5, m5⟩ := hbt
      obtain ⟨kb2, ob2, rfl, hbt2⟩ := (hy.below hB) k b hkb
      obtain ⟨t4, j4, t5, j5, d0, d1, d2, d3, d4, d5, g4, -, g5, -⟩ := hbt2
      clear hx hy hkb
      go_wp2
      go_region_with (go_at_call 63; refine (eqServer_same _ _ _ _ _ _ _ _ _ _ ?_ ?_ m4 ?_ ?_ m5).mono ?_; exact q4.below (Below.refl _ _).drew; exact g4.below (Below.refl _ _).drew; exact q5.below (Below.refl _ _).drew; exact g5.below (Below.refl _ _).drew; rintro r w1 ⟨rfl, hB1⟩)
      all_goals
        go_wp2
        go_roundw
        case rel => exact ⟨k + 1, by omega, by go_num, hB.drew.trans (hB1.mono (by simpa using hB.size))⟩
        case measure => simp [intOf]; omega
    · go_wp2
      go_ret
      exact ⟨rfl, hB⟩

end Go.Proofs.Ytjicphdjipihfaa
