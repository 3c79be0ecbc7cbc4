/-
  A world of chapter 8 as a call reads it, and the contracts of szSnap, toSnap, eqSnap.
-/
import Derived.Test.YtaoecafibmfphaaChn
import Derived.Test.YtaoecafibmfphaaPic
namespace Go.Proofs.Ytaoecafibmfphaa
open Go.RowKit

structure Sn where
  am : List Int
  chs : List Ch
  pcs : List Pc
  sent : Int
  total : Int

abbrev snV (s : Sn) (a0 : Option Addr) (c0 : Nat) (a1 : Option Addr) (c1 : Nat) (a2 : Option Addr) (c2 : Nat) : Value :=
  .agg #[.slice a0 s.am.length c0, .slice a1 s.chs.length c1, .slice a2 s.pcs.length c2, .int .i64 s.sent, .int .i64 s.total]

/-- The world's three lists read so. -/
structure SnR (w : World) (s : Sn) (a0 a1 a2 : Option Addr) : Prop where
  am : Ints w a0 s.am
  chs : Chs w a1 s.chs
  pcs : Pcs w a2 s.pcs

theorem SnR.below {w w' : World} {s : Sn} {a0 a1 a2 : Option Addr} (h : SnR w s a0 a1 a2) (hb : Below w.heap.size w w') : SnR w' s a0 a1 a2 :=
  ⟨h.am.below hb, h.chs.below hb, h.pcs.below hb⟩

structure SnL (s : Sn) : Prop where
  am : s.am.length ≤ maxLen
  chs : s.chs.length ≤ maxLen
  pcs : s.pcs.length ≤ maxLen

structure SnB (s : Sn) : Prop where
  am : s.am.length ≤ 1048576
  chs : s.chs.length ≤ 1048576
  pcs : s.pcs.length ≤ 1048576
  ways : ∀ c, c ∈ s.chs → c.way.length ≤ 1048576
  pics : ∀ c, c ∈ s.pcs → c.ins.length ≤ 1048576 ∧ c.cl.length ≤ 1048576

def szSn (s : Sn) : Int := if szN s.am.length 1048576 < 0 then -1 else if szChs s.chs (szN s.am.length 1048576) < 0 then -1 else szPcs s.pcs (szChs s.chs (szN s.am.length 1048576))

theorem szSn_range (s : Sn) : -1 ≤ szSn s ∧ szSn s ≤ 1048576 := by
  have e0 := szN_range s.am.length (left := 1048576) (by omega)
  unfold szSn; split
  · omega
  · have e1 := szChs_range s.chs (left := szN s.am.length 1048576) (by omega)
    split
    · omega
    · have e2 := szPcs_range s.pcs (left := szChs s.chs (szN s.am.length 1048576)) (by omega)
      omega

theorem szSn_bound {s : Sn} (h : 0 ≤ szSn s) : SnB s := by
  have e0 := szN_range s.am.length (left := 1048576) (by omega)
  unfold szSn at h; split at h
  · omega
  · rename_i h0
    have b0 := szN_bound (n := s.am.length) (left := 1048576) (by omega)
    have e1 := szChs_range s.chs (left := szN s.am.length 1048576) (by omega)
    split at h
    · omega
    · obtain ⟨b1, b2⟩ := szChs_bound (l := s.chs) (left := szN s.am.length 1048576) (by omega) (by omega)
      obtain ⟨b3, b4⟩ := szPcs_bound (l := s.pcs) (left := szChs s.chs (szN s.am.length 1048576)) (by omega) h
      exact ⟨by omega, b1, b3, b2, b4⟩

theorem alB (u : World) (o : Obj) : Below u.heap.size u (u.alloc o) := (Below.refl _ _).alloc (Nat.le_refl _) o

theorem stB {W a b : World} (h : Below W.heap.size W a) (k : Below a.heap.size a b) : Below W.heap.size W b := h.trans (k.mono h.size)

set_option maxHeartbeats 2000000 in
theorem szSnap_any (s : Sn) (a0 a1 a2 : Option Addr) (c0 c1 c2 : Nat) (w : World) (hs : SnR w s a0 a1 a2) (hl : SnL s) :
    Calls Try.prog 15 #[snV s a0 c0 a1 c1 a2 c2, .int .i64 1048576] w fun r w' => r = .returned (.int .i64 (szSn s)) ∧ Below w.heap.size w w' := by
  have e0 := szN_range s.am.length (left := 1048576) (by omega)
  have hs1 : ∀ o, SnR (w.alloc o) s a0 a1 a2 := fun o => hs.below (alB w o)
  by_cases n0 : szN s.am.length 1048576 < 0
  · go_enter Try.func15, Try.ntmps15
    go_wp2_with (go_at_call 52; refine (szIntN_any _ _ _ _ _ hl.am (by omega) (by omega)).mono ?_; rintro e w' ⟨rfl, rfl⟩)
    go_ret
    exact ⟨ret_int (by unfold szSn; rw [if_pos n0]), alB _ _⟩
  have e1 := szChs_range s.chs (left := szN s.am.length 1048576) (by omega)
  have HN0 : Hid (¬ szN s.am.length 1048576 < 0) := n0
  by_cases n1 : szChs s.chs (szN s.am.length 1048576) < 0
  · go_enter Try.func15, Try.ntmps15
    go_wp2_with (go_at_call 52; refine (szIntN_any _ _ _ _ _ hl.am (by omega) (by omega)).mono ?_; rintro e w' ⟨rfl, rfl⟩)
    refine (szChanS_any _ _ _ _ _ (hs1 _).chs hl.chs (by omega) (by omega)).mono ?_
    rintro r w1 ⟨rfl, hB⟩
    have BB := stB (alB _ _) hB
    clear hB
    go_wp2
    go_ret
    exact ⟨ret_int (by unfold szSn; rw [if_neg (by omega), if_pos n1]), BB⟩
  have HN1 : Hid (¬ szChs s.chs (szN s.am.length 1048576) < 0) := n1
  have e2 := szPcs_range s.pcs (left := szChs s.chs (szN s.am.length 1048576)) (by omega)
  have HE : Hid (szSn s = szPcs s.pcs (szChs s.chs (szN s.am.length 1048576))) := by show _ = _; unfold szSn; rw [if_neg HN0.out, if_neg HN1.out]
  go_enter Try.func15, Try.ntmps15
  go_wp2_with (go_at_call 52; refine (szIntN_any _ _ _ _ _ hl.am (by omega) (by omega)).mono ?_; rintro e w' ⟨rfl, rfl⟩)
  refine (szChanS_any _ _ _ _ _ (hs1 _).chs hl.chs (by omega) (by omega)).mono ?_
  rintro r w1 ⟨rfl, hB⟩
  have p2 : w1.cell? ⟨w.heap.size, 2, none⟩ = some (.slice a2 s.pcs.length c2) := celB hB (by simp [go_sem])
  have hs2 := (hs1 _).below hB
  have BB := stB (alB _ _) hB
  clear hB
  go_wp2_with fail
  refine (szPictureS_any _ _ _ _ _ hs2.pcs hl.pcs (by omega) (by omega)).mono ?_
  rintro r w2 ⟨rfl, hB⟩
  replace BB := stB BB hB
  clear hB
  by_cases n2 : szPcs s.pcs (szChs s.chs (szN s.am.length 1048576)) < 0
  · go_wp2
    go_ret
    exact ⟨ret_int (by rw [HE.out]; omega), BB⟩
  · go_wp2
    go_ret
    exact ⟨ret_int HE.out.symm, BB⟩

set_option maxHeartbeats 4000000 in
theorem toSnap_any (s : Sn) (a0 a1 a2 : Option Addr) (c0 c1 c2 : Nat) (w : World) (hs : SnR w s a0 a1 a2) (hl : SnB s) :
    Calls Try.prog 17 #[snV s a0 c0 a1 c1 a2 c2] w fun r w' => ∃ b0 b1 b2, r = .returned (snV s b0 s.am.length b1 s.chs.length b2 s.pcs.length) ∧ SnR w' s b0 b1 b2 ∧ Below w.heap.size w w' := by
  have hb3 : ∀ x y z, Below w.heap.size w (((w.alloc x).alloc y).alloc z) := fun _ _ _ => (((Below.refl _ _).alloc (Nat.le_refl _) _).alloc (by simp) _).alloc (by simp; omega) _
  go_enter Try.func17, Try.ntmps17
  go_wp2_with fail
  refine (toIntS_any _ _ _ _ (hs.am.below (hb3 _ _ _)) hl.am).mono ?_
  rintro r w1 ⟨s0, rfl, H0, R0, hB⟩
  have HB : Below w.heap.size w w1 := (hb3 _ _ _).trans (hB.mono (hb3 _ _ _).size)
  have p1 : w1.cell? ⟨w.heap.size, 1, none⟩ = some (.slice a1 s.chs.length c1) := celB hB (by simp [go_sem])
  have p2 : w1.cell? ⟨w.heap.size, 2, none⟩ = some (.slice a2 s.pcs.length c2) := celB hB (by simp [go_sem])
  have p3 : w1.cell? ⟨w.heap.size, 3, none⟩ = some (.int .i64 s.sent) := celB hB (by simp [go_sem])
  have p4 : w1.cell? ⟨w.heap.size, 4, none⟩ = some (.int .i64 s.total) := celB hB (by simp [go_sem])
  have o0 : w1.cell? ⟨w.heap.size + 1 + 1, 0, none⟩ = some (.slice none 0 0) := celB hB (by simp [go_sem])
  have o1 : w1.cell? ⟨w.heap.size + 1 + 1, 1, none⟩ = some (.slice none 0 0) := celB hB (by simp [go_sem])
  have o2 : w1.cell? ⟨w.heap.size + 1 + 1, 2, none⟩ = some (.slice none 0 0) := celB hB (by simp [go_sem])
  have o3 : w1.cell? ⟨w.heap.size + 1 + 1, 3, none⟩ = some (.int .i64 0) := celB hB (by simp [go_sem])
  have o4 : w1.cell? ⟨w.heap.size + 1 + 1, 4, none⟩ = some (.int .i64 0) := celB hB (by simp [go_sem])
  have t0 : w1.cell? ⟨w.heap.size + 1, 0, none⟩ = some (.slice none 0 0) := celB hB (by simp [go_sem])
  have t1 : w1.cell? ⟨w.heap.size + 1, 1, none⟩ = some (.slice none 0 0) := celB hB (by simp [go_sem])
  have t2 : w1.cell? ⟨w.heap.size + 1, 2, none⟩ = some (.slice none 0 0) := celB hB (by simp [go_sem])
  have t3 : w1.cell? ⟨w.heap.size + 1, 3, none⟩ = some (.int .i64 0) := celB hB (by simp [go_sem])
  have t4 : w1.cell? ⟨w.heap.size + 1, 4, none⟩ = some (.int .i64 0) := celB hB (by simp [go_sem])
  have x1 : ∀ o, w1.frozen? ⟨w.heap.size + 1, o, none⟩ = false := fun o => frzB hB (by simp) (by simp [go_sem])
  have x2 : ∀ o, w1.frozen? ⟨w.heap.size + 1 + 1, o, none⟩ = false := fun o => frzB hB (by simp) (by simp [go_sem])
  have hz1 := hB.size
  simp only [World.size_alloc] at hz1 R0
  clear hB
  go_wp2_with fail
  obtain ⟨u, hu⟩ : ∃ u, (w1.setCell ⟨w.heap.size + 1 + 1, 0, none⟩ (.slice s0 s.am.length s.am.length)) = u := ⟨_, rfl⟩
  rw [hu]
  have HS : Below w.heap.size w u := by rw [← hu]; exact HB.setCell (by first | (simp; done) | (simp; omega)) _
  replace p2 : u.cell? ⟨w.heap.size, 2, none⟩ = some (.slice a2 s.pcs.length c2) := by rw [← hu]; simp [go_sem, p2]
  replace p3 : u.cell? ⟨w.heap.size, 3, none⟩ = some (.int .i64 s.sent) := by rw [← hu]; simp [go_sem, p3]
  replace p4 : u.cell? ⟨w.heap.size, 4, none⟩ = some (.int .i64 s.total) := by rw [← hu]; simp [go_sem, p4]
  replace o0 : u.cell? ⟨w.heap.size + 1 + 1, 0, none⟩ = some (.slice s0 s.am.length s.am.length) := by rw [← hu]; simp [go_sem, o0]
  replace o1 : u.cell? ⟨w.heap.size + 1 + 1, 1, none⟩ = some (.slice none 0 0) := by rw [← hu]; simp [go_sem, o1]
  replace o2 : u.cell? ⟨w.heap.size + 1 + 1, 2, none⟩ = some (.slice none 0 0) := by rw [← hu]; simp [go_sem, o2]
  replace o3 : u.cell? ⟨w.heap.size + 1 + 1, 3, none⟩ = some (.int .i64 0) := by rw [← hu]; simp [go_sem, o3]
  replace o4 : u.cell? ⟨w.heap.size + 1 + 1, 4, none⟩ = some (.int .i64 0) := by rw [← hu]; simp [go_sem, o4]
  replace t0 : u.cell? ⟨w.heap.size + 1, 0, none⟩ = some (.slice none 0 0) := by rw [← hu]; simp [go_sem, t0]
  replace t1 : u.cell? ⟨w.heap.size + 1, 1, none⟩ = some (.slice none 0 0) := by rw [← hu]; simp [go_sem, t1]
  replace t2 : u.cell? ⟨w.heap.size + 1, 2, none⟩ = some (.slice none 0 0) := by rw [← hu]; simp [go_sem, t2]
  replace t3 : u.cell? ⟨w.heap.size + 1, 3, none⟩ = some (.int .i64 0) := by rw [← hu]; simp [go_sem, t3]
  replace t4 : u.cell? ⟨w.heap.size + 1, 4, none⟩ = some (.int .i64 0) := by rw [← hu]; simp [go_sem, t4]
  replace x1 : ∀ o, u.frozen? ⟨w.heap.size + 1, o, none⟩ = false := fun o => by rw [← hu]; simp [go_sem, x1]
  replace x2 : ∀ o, u.frozen? ⟨w.heap.size + 1 + 1, o, none⟩ = false := fun o => by rw [← hu]; simp [go_sem, x2]
  replace hz1 : w.heap.size + 1 + 1 + 1 ≤ u.heap.size := by rw [← hu]; simpa using hz1
  have H0' : Ints u s0 s.am := by rw [← hu]; exact H0.setR R0 (by omega) _ _
  have R0' : RowI u (w.heap.size + 1 + 1 + 1) s0 s.am.length := by rw [← hu]; exact R0.setR (by omega) _ _
  clear hu H0 R0 p1 HB
  refine (toChanS_any _ _ _ _ (hs.chs.below HS) hl.chs hl.ways).mono ?_
  rintro r w2 ⟨s1, rfl, -, R1, hB⟩
  have H0 := H0'.below hB
  have R0 := R0'.below hB
  replace p2 := celB hB p2
  replace p3 := celB hB p3
  replace p4 := celB hB p4
  replace o0 := celB hB o0
  replace o1 := celB hB o1
  replace o2 := celB hB o2
  replace o3 := celB hB o3
  replace o4 := celB hB o4
  replace t0 := celB hB t0
  replace t1 := celB hB t1
  replace t2 := celB hB t2
  replace t3 := celB hB t3
  replace t4 := celB hB t4
  replace x1 := fun o => frzB (o := o) hB (by omega) (x1 o)
  replace x2 := fun o => frzB (o := o) hB (by omega) (x2 o)
  replace R1 := R1.mono (B' := w.heap.size + 1 + 1 + 1) (by omega)
  have HB : Below w.heap.size w w2 := HS.trans (hB.mono HS.size)
  have hz2 : w.heap.size + 1 + 1 + 1 ≤ w2.heap.size := by have := hB.size; omega
  clear hB HS hz1 H0' R0'
  go_wp2_with fail
  obtain ⟨u2, hu⟩ : ∃ u, (w2.setCell ⟨w.heap.size + 1 + 1, 1, none⟩ (.slice s1 s.chs.length s.chs.length)) = u := ⟨_, rfl⟩
  rw [hu]
  have HS : Below w.heap.size w u2 := by rw [← hu]; exact HB.setCell (by first | (simp; done) | (simp; omega)) _
  replace p3 : u2.cell? ⟨w.heap.size, 3, none⟩ = some (.int .i64 s.sent) := by rw [← hu]; simp [go_sem, p3]
  replace p4 : u2.cell? ⟨w.heap.size, 4, none⟩ = some (.int .i64 s.total) := by rw [← hu]; simp [go_sem, p4]
  replace o0 : u2.cell? ⟨w.heap.size + 1 + 1, 0, none⟩ = some (.slice s0 s.am.length s.am.length) := by rw [← hu]; simp [go_sem, o0]
  replace o1 : u2.cell? ⟨w.heap.size + 1 + 1, 1, none⟩ = some (.slice s1 s.chs.length s.chs.length) := by rw [← hu]; simp [go_sem, o1]
  replace o2 : u2.cell? ⟨w.heap.size + 1 + 1, 2, none⟩ = some (.slice none 0 0) := by rw [← hu]; simp [go_sem, o2]
  replace o3 : u2.cell? ⟨w.heap.size + 1 + 1, 3, none⟩ = some (.int .i64 0) := by rw [← hu]; simp [go_sem, o3]
  replace o4 : u2.cell? ⟨w.heap.size + 1 + 1, 4, none⟩ = some (.int .i64 0) := by rw [← hu]; simp [go_sem, o4]
  replace t0 : u2.cell? ⟨w.heap.size + 1, 0, none⟩ = some (.slice none 0 0) := by rw [← hu]; simp [go_sem, t0]
  replace t1 : u2.cell? ⟨w.heap.size + 1, 1, none⟩ = some (.slice none 0 0) := by rw [← hu]; simp [go_sem, t1]
  replace t2 : u2.cell? ⟨w.heap.size + 1, 2, none⟩ = some (.slice none 0 0) := by rw [← hu]; simp [go_sem, t2]
  replace t3 : u2.cell? ⟨w.heap.size + 1, 3, none⟩ = some (.int .i64 0) := by rw [← hu]; simp [go_sem, t3]
  replace t4 : u2.cell? ⟨w.heap.size + 1, 4, none⟩ = some (.int .i64 0) := by rw [← hu]; simp [go_sem, t4]
  replace x1 : ∀ o, u2.frozen? ⟨w.heap.size + 1, o, none⟩ = false := fun o => by rw [← hu]; simp [go_sem, x1]
  replace x2 : ∀ o, u2.frozen? ⟨w.heap.size + 1 + 1, o, none⟩ = false := fun o => by rw [← hu]; simp [go_sem, x2]
  replace hz2 : w.heap.size + 1 + 1 + 1 ≤ u2.heap.size := by rw [← hu]; simpa using hz2
  have H0' : Ints u2 s0 s.am := by rw [← hu]; exact H0.setR R0 (by omega) _ _
  have R0' : RowI u2 (w.heap.size + 1 + 1 + 1) s0 s.am.length := by rw [← hu]; exact R0.setR (by omega) _ _
  have R1' : ChsA u2 (w.heap.size + 1 + 1 + 1) s1 s.chs := by rw [← hu]; exact R1.setR (by omega) _ _
  clear hu H0 R0 R1 p2 HB
  refine (toPictureS_any _ _ _ _ (hs.pcs.below HS) hl.pcs hl.pics).mono ?_
  rintro r w3 ⟨s2, rfl, -, R2, hB⟩
  have H0 := H0'.below hB
  have R0 := R0'.below hB
  have R1 := R1'.below hB
  replace p3 := celB hB p3
  replace p4 := celB hB p4
  replace o0 := celB hB o0
  replace o1 := celB hB o1
  replace o2 := celB hB o2
  replace o3 := celB hB o3
  replace o4 := celB hB o4
  replace t0 := celB hB t0
  replace t1 := celB hB t1
  replace t2 := celB hB t2
  replace t3 := celB hB t3
  replace t4 := celB hB t4
  replace x1 := fun o => frzB (o := o) hB (by omega) (x1 o)
  replace x2 := fun o => frzB (o := o) hB (by omega) (x2 o)
  replace R2 := R2.mono (B' := w.heap.size + 1 + 1 + 1) (by omega)
  have HB : Below w.heap.size w w3 := HS.trans (hB.mono HS.size)
  have hz3 : w.heap.size + 1 + 1 + 1 ≤ w3.heap.size := by have := hB.size; omega
  clear hB HS hz2 H0' R0' R1'
  go_wp2
  refine bodyPost_ret (v := snV s s0 s.am.length s1 s.chs.length s2 s.pcs.length) (by simp [results, Try.results17, go_sem, t0, t1, t2, t3, t4]) rfl ⟨_, _, _, rfl, ⟨?_, ?_, ?_⟩, ?_⟩
  · exact (((((((((H0.setR R0 (by omega) _ _).setR (R0.setR (by omega) _ _) (by omega) _ _).setR ((R0.setR (by omega) _ _).setR (by omega) _ _) (by omega) _ _).setR (((R0.setR (by omega) _ _).setR (by omega) _ _).setR (by omega) _ _) (by omega) _ _).setR ((((R0.setR (by omega) _ _).setR (by omega) _ _).setR (by omega) _ _).setR (by omega) _ _) (by omega) _ _).setR (((((R0.setR (by omega) _ _).setR (by omega) _ _).setR (by omega) _ _).setR (by omega) _ _).setR (by omega) _ _) (by omega) _ _).setR ((((((R0.setR (by omega) _ _).setR (by omega) _ _).setR (by omega) _ _).setR (by omega) _ _).setR (by omega) _ _).setR (by omega) _ _) (by omega) _ _).setR (((((((R0.setR (by omega) _ _).setR (by omega) _ _).setR (by omega) _ _).setR (by omega) _ _).setR (by omega) _ _).setR (by omega) _ _).setR (by omega) _ _) (by omega) _ _))
  · exact ((((((((R1.setR (by omega) _ _).setR (by omega) _ _).setR (by omega) _ _).setR (by omega) _ _).setR (by omega) _ _).setR (by omega) _ _).setR (by omega) _ _).setR (by omega) _ _).here
  · exact ((((((((R2.setR (by omega) _ _).setR (by omega) _ _).setR (by omega) _ _).setR (by omega) _ _).setR (by omega) _ _).setR (by omega) _ _).setR (by omega) _ _).setR (by omega) _ _).here
  · exact (((((((HB.setCell (by simp; omega) _).setCell (by simp; omega) _).setCell (by simp; omega) _).setCell (by simp) _).setCell (by simp) _).setCell (by simp) _).setCell (by simp) _).setCell (by simp) _

set_option maxHeartbeats 2000000 in
theorem eqSnap_same (s : Sn) (a0 a1 a2 b0 b1 b2 : Option Addr) (c0 c1 c2 d0 d1 d2 : Nat) (w : World) (hs : SnR w s a0 a1 a2) (ht : SnR w s b0 b1 b2) (hl : SnL s) :
    Calls Try.prog 12 #[snV s a0 c0 a1 c1 a2 c2, snV s b0 d0 b1 d1 b2 d2] w fun r w' => r = .returned (.bool true) ∧ Below w.heap.size w w' := by
  have HB : ∀ x y, Below w.heap.size w ((w.alloc x).alloc y) := fun _ _ => ((Below.refl _ _).alloc (Nat.le_refl _) _).alloc (by simp) _
  go_enter Try.func12, Try.ntmps12
  go_wp2_with fail
  refine (eqIntS_same _ _ _ _ _ _ (hs.am.below (HB _ _)) (ht.am.below (HB _ _)) hl.am).mono ?_
  rintro r w1 ⟨rfl, hB⟩
  have p1 : w1.cell? ⟨w.heap.size, 1, none⟩ = some (.slice a1 s.chs.length c1) := celB hB (by simp [go_sem])
  have o1 : w1.cell? ⟨w.heap.size + 1, 1, none⟩ = some (.slice b1 s.chs.length d1) := celB hB (by simp [go_sem])
  have p2 : w1.cell? ⟨w.heap.size, 2, none⟩ = some (.slice a2 s.pcs.length c2) := celB hB (by simp [go_sem])
  have o2 : w1.cell? ⟨w.heap.size + 1, 2, none⟩ = some (.slice b2 s.pcs.length d2) := celB hB (by simp [go_sem])
  have p3 : w1.cell? ⟨w.heap.size, 3, none⟩ = some (.int .i64 s.sent) := celB hB (by simp [go_sem])
  have o3 : w1.cell? ⟨w.heap.size + 1, 3, none⟩ = some (.int .i64 s.sent) := celB hB (by simp [go_sem])
  have p4 : w1.cell? ⟨w.heap.size, 4, none⟩ = some (.int .i64 s.total) := celB hB (by simp [go_sem])
  have o4 : w1.cell? ⟨w.heap.size + 1, 4, none⟩ = some (.int .i64 s.total) := celB hB (by simp [go_sem])
  have BB : Below w.heap.size w w1 := (HB _ _).trans (hB.mono (HB _ _).size)
  clear hB
  go_wp2_with fail
  refine (eqChanS_same _ _ _ _ _ _ (hs.chs.below BB) (ht.chs.below BB) hl.chs).mono ?_
  rintro r w2 ⟨rfl, hB⟩
  replace p2 := celB hB p2
  replace o2 := celB hB o2
  replace p3 := celB hB p3
  replace o3 := celB hB o3
  replace p4 := celB hB p4
  replace o4 := celB hB o4
  replace BB := stB BB hB
  clear hB
  go_wp2_with fail
  refine (eqPictureS_same _ _ _ _ _ _ (hs.pcs.below BB) (ht.pcs.below BB) hl.pcs).mono ?_
  rintro r w3 ⟨rfl, hB⟩
  replace p3 := celB hB p3
  replace o3 := celB hB o3
  replace p4 := celB hB p4
  replace o4 := celB hB o4
  replace BB := stB BB hB
  clear hB
  go_wp2
  go_ret
  exact ⟨rfl, BB⟩

end Go.Proofs.Ytaoecafibmfphaa
