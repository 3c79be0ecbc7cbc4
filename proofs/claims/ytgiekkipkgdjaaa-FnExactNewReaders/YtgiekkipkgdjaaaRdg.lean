/-
  Readers as a call reads it, and the contracts of the laws' helpers szReaders, toReaders, eqReaders. Made by mktop.py.
-/
import Derived.Test.YtgiekkipkgdjaaaRdr
namespace Go.Proofs.Ytgiekkipkgdjaaa
open Go.RowKit

structure Rg where
  gen : Int
  rds : List Rx
  com : List Int
  ends : List Int

abbrev rgV (s : Rg) (a0 : Option Addr) (c0 : Nat) (a1 : Option Addr) (c1 : Nat) (a2 : Option Addr) (c2 : Nat) : Value :=
  .agg #[.int .i64 s.gen, .slice a0 s.rds.length c0, .slice a1 s.com.length c1, .slice a2 s.ends.length c2]

/-- Its lists read so. -/
structure RgR (w : World) (s : Rg) (a0 a1 a2 : Option Addr) : Prop where
  rds : Rxs w a0 s.rds
  com : Ints w a1 s.com
  ends : Ints w a2 s.ends

theorem RgR.below {w w' : World} {s : Rg} {a0 a1 a2 : Option Addr} (h : RgR w s a0 a1 a2) (hb : Below w.heap.size w w') : RgR w' s a0 a1 a2 :=
  ⟨h.rds.below hb, h.com.below hb, h.ends.below hb⟩

structure RgL (s : Rg) : Prop where
  rds : s.rds.length ≤ maxLen
  com : s.com.length ≤ maxLen
  ends : s.ends.length ≤ maxLen

structure RgB (s : Rg) : Prop where
  rds : s.rds.length ≤ 1048576
  rdsI : ∀ c, c ∈ s.rds → c.share.length ≤ 1048576 ∧ c.read.length ≤ 1048576
  com : s.com.length ≤ 1048576
  ends : s.ends.length ≤ 1048576

theorem RgB.len {s : Rg} (h : RgB s) : RgL s := by
  have h0 := h.rds
  have h1 := h.com
  have h2 := h.ends
  exact ⟨by unfold maxLen; omega, by unfold maxLen; omega, by unfold maxLen; omega⟩

def szRg (s : Rg) : Int := if szRxs s.rds 1048576 < 0 then -1 else if szN s.com.length (szRxs s.rds 1048576) < 0 then -1 else szN s.ends.length (szN s.com.length (szRxs s.rds 1048576))

theorem szRg_range (s : Rg) : -1 ≤ szRg s ∧ szRg s ≤ 1048576 := by
  unfold szRg
  have e0 := szRxs_range s.rds (left := 1048576) (by omega)
  split
  · omega
  have e1 := szN_range s.com.length (left := (szRxs s.rds 1048576)) (by omega)
  split
  · omega
  have e2 := szN_range s.ends.length (left := (szN s.com.length (szRxs s.rds 1048576))) (by omega)
  omega

theorem szRg_bound {s : Rg} (h : 0 ≤ szRg s) : RgB s := by
  unfold szRg at h
  have e0 := szRxs_range s.rds (left := 1048576) (by omega)
  split at h
  · omega
  obtain ⟨b0, g0⟩ := szRxs_bound (l := s.rds) (left := 1048576) (by omega) (by omega)
  have e1 := szN_range s.com.length (left := (szRxs s.rds 1048576)) (by omega)
  split at h
  · omega
  have b1 := szN_bound (n := s.com.length) (left := (szRxs s.rds 1048576)) (by omega)
  have e2 := szN_range s.ends.length (left := (szN s.com.length (szRxs s.rds 1048576))) (by omega)
  have b2 := szN_bound (n := s.ends.length) (left := (szN s.com.length (szRxs s.rds 1048576))) (by omega)
  exact ⟨by omega, g0, by omega, by omega⟩

theorem alRg (u : World) (o : Obj) : Below u.heap.size u (u.alloc o) := (Below.refl _ _).alloc (Nat.le_refl _) o

theorem stRg {W a b : World} (h : Below W.heap.size W a) (k : Below a.heap.size a b) : Below W.heap.size W b := h.trans (k.mono h.size)

set_option maxHeartbeats 2000000 in
theorem szReaders_any (s : Rg) (a0 a1 a2 : Option Addr) (c0 c1 c2 : Nat) (w : World) (hs : RgR w s a0 a1 a2) (hl : RgL s) :
    Calls Try.prog 18 #[rgV s a0 c0 a1 c1 a2 c2, .int .i64 1048576] w fun r w' => r = .returned (.int .i64 (szRg s)) ∧ Below w.heap.size w w' := by
  have hs1 : ∀ o, RgR (w.alloc o) s a0 a1 a2 := fun o => hs.below (alRg w o)
  have e0 := szRxs_range s.rds (left := 1048576) (by omega)
  by_cases n0 : szRxs s.rds 1048576 < 0
  · have HE : Hid (szRg s = -1) := by show _ = _; unfold szRg; rw [if_pos n0]
    go_enter Try.func18, Try.ntmps18
    go_wp2_with fail
    refine (szReaderS_any _ _ _ _ _ (hs1 _).rds hl.rds (by omega) (by omega)).mono ?_
    rintro r w1 ⟨rfl, hB⟩
    have p1 : w1.cell? ⟨w.heap.size, 2, none⟩ = some (.slice a1 s.com.length c1) := celB hB (by simp [go_sem])
    have p2 : w1.cell? ⟨w.heap.size, 3, none⟩ = some (.slice a2 s.ends.length c2) := celB hB (by simp [go_sem])
    have hs2 := (hs1 _).below hB
    have BB := stRg (alRg _ _) hB
    clear hB
    go_wp2
    go_ret
    exact ⟨ret_int (by rw [HE.out]), BB⟩
  have HN0 : Hid (¬ szRxs s.rds 1048576 < 0) := n0
  have e1 := szN_range s.com.length (left := (szRxs s.rds 1048576)) (by omega)
  by_cases n1 : szN s.com.length (szRxs s.rds 1048576) < 0
  · have HE : Hid (szRg s = -1) := by show _ = _; unfold szRg; rw [if_neg HN0.out]; rw [if_pos n1]
    go_enter Try.func18, Try.ntmps18
    go_wp2_with fail
    refine (szReaderS_any _ _ _ _ _ (hs1 _).rds hl.rds (by omega) (by omega)).mono ?_
    rintro r w1 ⟨rfl, hB⟩
    have p1 : w1.cell? ⟨w.heap.size, 2, none⟩ = some (.slice a1 s.com.length c1) := celB hB (by simp [go_sem])
    have p2 : w1.cell? ⟨w.heap.size, 3, none⟩ = some (.slice a2 s.ends.length c2) := celB hB (by simp [go_sem])
    have hs2 := (hs1 _).below hB
    have BB := stRg (alRg _ _) hB
    clear hB
    go_wp2_with fail
    refine (szIntN_any _ _ _ _ _ hl.com (by omega) (by omega)).mono ?_
    rintro e w' ⟨rfl, rfl⟩
    go_wp2
    go_ret
    exact ⟨ret_int (by rw [HE.out]), BB⟩
  have HN1 : Hid (¬ szN s.com.length (szRxs s.rds 1048576) < 0) := n1
  have e2 := szN_range s.ends.length (left := (szN s.com.length (szRxs s.rds 1048576))) (by omega)
  have HE : Hid (szRg s = szN s.ends.length (szN s.com.length (szRxs s.rds 1048576))) := by show _ = _; unfold szRg; rw [if_neg HN0.out, if_neg HN1.out]
  go_enter Try.func18, Try.ntmps18
  go_wp2_with fail
  refine (szReaderS_any _ _ _ _ _ (hs1 _).rds hl.rds (by omega) (by omega)).mono ?_
  rintro r w1 ⟨rfl, hB⟩
  have p1 : w1.cell? ⟨w.heap.size, 2, none⟩ = some (.slice a1 s.com.length c1) := celB hB (by simp [go_sem])
  have p2 : w1.cell? ⟨w.heap.size, 3, none⟩ = some (.slice a2 s.ends.length c2) := celB hB (by simp [go_sem])
  have hs2 := (hs1 _).below hB
  have BB := stRg (alRg _ _) hB
  clear hB
  go_wp2_with fail
  refine (szIntN_any _ _ _ _ _ hl.com (by omega) (by omega)).mono ?_
  rintro e w' ⟨rfl, rfl⟩
  go_wp2_with fail
  refine (szIntN_any _ _ _ _ _ hl.ends (by omega) (by omega)).mono ?_
  rintro e w' ⟨rfl, rfl⟩
  by_cases n2 : szN s.ends.length (szN s.com.length (szRxs s.rds 1048576)) < 0
  · go_wp2
    go_ret
    exact ⟨ret_int (by rw [HE.out]; omega), BB⟩
  · go_wp2
    go_ret
    exact ⟨ret_int HE.out.symm, BB⟩

set_option maxHeartbeats 4000000 in
theorem toReaders_k (s : Rg) (a0 a1 a2 : Option Addr) (c0 c1 c2 : Nat) (w : World) (hs : RgR w s a0 a1 a2) (hl : RgB s) :
    Calls Try.prog 20 #[rgV s a0 c0 a1 c1 a2 c2] w fun r w' => ∃ b0 b1 b2, r = .returned (rgV s b0 s.rds.length b1 s.com.length b2 s.ends.length) ∧ RgR w' s b0 b1 b2 ∧ RxsK w' b0 s.rds ∧ Below w.heap.size w w' := by
  have hb3 : ∀ x y z, Below w.heap.size w (((w.alloc x).alloc y).alloc z) := fun _ _ _ => (((Below.refl _ _).alloc (Nat.le_refl _) _).alloc (by simp) _).alloc (by simp; omega) _
  go_enter Try.func20, Try.ntmps20
  go_wp2_with fail
  refine (toReaderS_any _ _ _ _ (hs.rds.below (hb3 _ _ _)) hl.rds hl.rdsI).mono ?_
  rintro r w1 ⟨s1, rfl, -, R1, hB⟩
  have HB : Below w.heap.size w w1 := (hb3 _ _ _).trans (hB.mono (hb3 _ _ _).size)
  have p0 : w1.cell? ⟨w.heap.size, 0, none⟩ = some (.int .i64 s.gen) := celB hB (by simp [go_sem])
  have p1 : w1.cell? ⟨w.heap.size, 1, none⟩ = some (.slice a0 s.rds.length c0) := celB hB (by simp [go_sem])
  have p2 : w1.cell? ⟨w.heap.size, 2, none⟩ = some (.slice a1 s.com.length c1) := celB hB (by simp [go_sem])
  have p3 : w1.cell? ⟨w.heap.size, 3, none⟩ = some (.slice a2 s.ends.length c2) := celB hB (by simp [go_sem])
  have o0 : w1.cell? ⟨w.heap.size + 1 + 1, 0, none⟩ = some (.int .i64 s.gen) := celB hB (by simp [go_sem])
  have o1 : w1.cell? ⟨w.heap.size + 1 + 1, 1, none⟩ = some (.slice none 0 0) := celB hB (by simp [go_sem])
  have o2 : w1.cell? ⟨w.heap.size + 1 + 1, 2, none⟩ = some (.slice none 0 0) := celB hB (by simp [go_sem])
  have o3 : w1.cell? ⟨w.heap.size + 1 + 1, 3, none⟩ = some (.slice none 0 0) := celB hB (by simp [go_sem])
  have t0 : w1.cell? ⟨w.heap.size + 1, 0, none⟩ = some (.int .i64 0) := celB hB (by simp [go_sem])
  have t1 : w1.cell? ⟨w.heap.size + 1, 1, none⟩ = some (.slice none 0 0) := celB hB (by simp [go_sem])
  have t2 : w1.cell? ⟨w.heap.size + 1, 2, none⟩ = some (.slice none 0 0) := celB hB (by simp [go_sem])
  have t3 : w1.cell? ⟨w.heap.size + 1, 3, none⟩ = some (.slice none 0 0) := celB hB (by simp [go_sem])
  have x0 : ∀ o, w1.frozen? ⟨w.heap.size, o, none⟩ = false := fun o => frzB hB (by simp; omega) (by simp [go_sem])
  have x1 : ∀ o, w1.frozen? ⟨w.heap.size + 1, o, none⟩ = false := fun o => frzB hB (by simp) (by simp [go_sem])
  have x2 : ∀ o, w1.frozen? ⟨w.heap.size + 1 + 1, o, none⟩ = false := fun o => frzB hB (by simp) (by simp [go_sem])
  have hz1 := hB.size
  simp only [World.size_alloc] at hz1 R1
  clear hB
  go_wp2_with fail
  obtain ⟨u1, hu⟩ : ∃ u, (w1.setCell ⟨w.heap.size + 1 + 1, 1, none⟩ (.slice s1 s.rds.length s.rds.length)) = u := ⟨_, rfl⟩
  rw [hu]
  have HS : Below w.heap.size w u1 := by rw [← hu]; exact HB.setCell (by first | (simp; done) | (simp; omega)) _
  replace p0 : u1.cell? ⟨w.heap.size, 0, none⟩ = some (.int .i64 s.gen) := by rw [← hu]; simp [go_sem, p0]
  replace p1 : u1.cell? ⟨w.heap.size, 1, none⟩ = some (.slice a0 s.rds.length c0) := by rw [← hu]; simp [go_sem, p1]
  replace p2 : u1.cell? ⟨w.heap.size, 2, none⟩ = some (.slice a1 s.com.length c1) := by rw [← hu]; simp [go_sem, p2]
  replace p3 : u1.cell? ⟨w.heap.size, 3, none⟩ = some (.slice a2 s.ends.length c2) := by rw [← hu]; simp [go_sem, p3]
  replace o0 : u1.cell? ⟨w.heap.size + 1 + 1, 0, none⟩ = some (.int .i64 s.gen) := by rw [← hu]; simp [go_sem, o0]
  replace o1 : u1.cell? ⟨w.heap.size + 1 + 1, 1, none⟩ = some (.slice s1 s.rds.length s.rds.length) := by rw [← hu]; simp [go_sem, o1]
  replace o2 : u1.cell? ⟨w.heap.size + 1 + 1, 2, none⟩ = some (.slice none 0 0) := by rw [← hu]; simp [go_sem, o2]
  replace o3 : u1.cell? ⟨w.heap.size + 1 + 1, 3, none⟩ = some (.slice none 0 0) := by rw [← hu]; simp [go_sem, o3]
  replace t0 : u1.cell? ⟨w.heap.size + 1, 0, none⟩ = some (.int .i64 0) := by rw [← hu]; simp [go_sem, t0]
  replace t1 : u1.cell? ⟨w.heap.size + 1, 1, none⟩ = some (.slice none 0 0) := by rw [← hu]; simp [go_sem, t1]
  replace t2 : u1.cell? ⟨w.heap.size + 1, 2, none⟩ = some (.slice none 0 0) := by rw [← hu]; simp [go_sem, t2]
  replace t3 : u1.cell? ⟨w.heap.size + 1, 3, none⟩ = some (.slice none 0 0) := by rw [← hu]; simp [go_sem, t3]
  replace x0 : ∀ o, u1.frozen? ⟨w.heap.size, o, none⟩ = false := fun o => by rw [← hu]; simp [go_sem, x0]
  replace x1 : ∀ o, u1.frozen? ⟨w.heap.size + 1, o, none⟩ = false := fun o => by rw [← hu]; simp [go_sem, x1]
  replace x2 : ∀ o, u1.frozen? ⟨w.heap.size + 1 + 1, o, none⟩ = false := fun o => by rw [← hu]; simp [go_sem, x2]
  replace hz1 : w.heap.size + 1 + 1 + 1 ≤ u1.heap.size := by rw [← hu]; simpa using hz1
  have R1' : RxsA u1 (w.heap.size + 1 + 1 + 1) s1 s.rds := by rw [← hu]; exact R1.setR (by omega) _ _
  clear hu R1 HB
  refine (toIntS_any _ _ _ _ (hs.com.below HS) hl.com).mono ?_
  rintro r w2 ⟨s2, rfl, H2, R2, hB⟩
  have R1 := R1'.below hB
  replace p0 := celB hB p0
  replace o0 := celB hB o0
  replace t0 := celB hB t0
  replace p1 := celB hB p1
  replace o1 := celB hB o1
  replace t1 := celB hB t1
  replace p2 := celB hB p2
  replace o2 := celB hB o2
  replace t2 := celB hB t2
  replace p3 := celB hB p3
  replace o3 := celB hB o3
  replace t3 := celB hB t3
  replace x0 := fun o => frzB (o := o) hB (by omega) (x0 o)
  replace x1 := fun o => frzB (o := o) hB (by omega) (x1 o)
  replace x2 := fun o => frzB (o := o) hB (by omega) (x2 o)
  replace R2 := R2.mono (B' := w.heap.size + 1 + 1 + 1) (by omega)
  have HB : Below w.heap.size w w2 := HS.trans (hB.mono HS.size)
  have hz2 : w.heap.size + 1 + 1 + 1 ≤ w2.heap.size := by have := hB.size; omega
  clear hB HS hz1 R1'
  go_wp2_with fail
  obtain ⟨u2, hu⟩ : ∃ u, (w2.setCell ⟨w.heap.size + 1 + 1, 2, none⟩ (.slice s2 s.com.length s.com.length)) = u := ⟨_, rfl⟩
  rw [hu]
  have HS : Below w.heap.size w u2 := by rw [← hu]; exact HB.setCell (by first | (simp; done) | (simp; omega)) _
  replace p0 : u2.cell? ⟨w.heap.size, 0, none⟩ = some (.int .i64 s.gen) := by rw [← hu]; simp [go_sem, p0]
  replace p1 : u2.cell? ⟨w.heap.size, 1, none⟩ = some (.slice a0 s.rds.length c0) := by rw [← hu]; simp [go_sem, p1]
  replace p2 : u2.cell? ⟨w.heap.size, 2, none⟩ = some (.slice a1 s.com.length c1) := by rw [← hu]; simp [go_sem, p2]
  replace p3 : u2.cell? ⟨w.heap.size, 3, none⟩ = some (.slice a2 s.ends.length c2) := by rw [← hu]; simp [go_sem, p3]
  replace o0 : u2.cell? ⟨w.heap.size + 1 + 1, 0, none⟩ = some (.int .i64 s.gen) := by rw [← hu]; simp [go_sem, o0]
  replace o1 : u2.cell? ⟨w.heap.size + 1 + 1, 1, none⟩ = some (.slice s1 s.rds.length s.rds.length) := by rw [← hu]; simp [go_sem, o1]
  replace o2 : u2.cell? ⟨w.heap.size + 1 + 1, 2, none⟩ = some (.slice s2 s.com.length s.com.length) := by rw [← hu]; simp [go_sem, o2]
  replace o3 : u2.cell? ⟨w.heap.size + 1 + 1, 3, none⟩ = some (.slice none 0 0) := by rw [← hu]; simp [go_sem, o3]
  replace t0 : u2.cell? ⟨w.heap.size + 1, 0, none⟩ = some (.int .i64 0) := by rw [← hu]; simp [go_sem, t0]
  replace t1 : u2.cell? ⟨w.heap.size + 1, 1, none⟩ = some (.slice none 0 0) := by rw [← hu]; simp [go_sem, t1]
  replace t2 : u2.cell? ⟨w.heap.size + 1, 2, none⟩ = some (.slice none 0 0) := by rw [← hu]; simp [go_sem, t2]
  replace t3 : u2.cell? ⟨w.heap.size + 1, 3, none⟩ = some (.slice none 0 0) := by rw [← hu]; simp [go_sem, t3]
  replace x0 : ∀ o, u2.frozen? ⟨w.heap.size, o, none⟩ = false := fun o => by rw [← hu]; simp [go_sem, x0]
  replace x1 : ∀ o, u2.frozen? ⟨w.heap.size + 1, o, none⟩ = false := fun o => by rw [← hu]; simp [go_sem, x1]
  replace x2 : ∀ o, u2.frozen? ⟨w.heap.size + 1 + 1, o, none⟩ = false := fun o => by rw [← hu]; simp [go_sem, x2]
  replace hz2 : w.heap.size + 1 + 1 + 1 ≤ u2.heap.size := by rw [← hu]; simpa using hz2
  have R1' : RxsA u2 (w.heap.size + 1 + 1 + 1) s1 s.rds := by rw [← hu]; exact R1.setR (by omega) _ _
  have H2' : Ints u2 s2 s.com := by rw [← hu]; exact H2.setR R2 (by omega) _ _
  have R2' : RowI u2 (w.heap.size + 1 + 1 + 1) s2 s.com.length := by rw [← hu]; exact R2.setR (by omega) _ _
  clear hu R1 H2 R2 HB
  refine (toIntS_any _ _ _ _ (hs.ends.below HS) hl.ends).mono ?_
  rintro r w3 ⟨s3, rfl, H3, R3, hB⟩
  have R1 := R1'.below hB
  have H2 := H2'.below hB
  have R2 := R2'.below hB
  replace p0 := celB hB p0
  replace o0 := celB hB o0
  replace t0 := celB hB t0
  replace p1 := celB hB p1
  replace o1 := celB hB o1
  replace t1 := celB hB t1
  replace p2 := celB hB p2
  replace o2 := celB hB o2
  replace t2 := celB hB t2
  replace p3 := celB hB p3
  replace o3 := celB hB o3
  replace t3 := celB hB t3
  replace x0 := fun o => frzB (o := o) hB (by omega) (x0 o)
  replace x1 := fun o => frzB (o := o) hB (by omega) (x1 o)
  replace x2 := fun o => frzB (o := o) hB (by omega) (x2 o)
  replace R3 := R3.mono (B' := w.heap.size + 1 + 1 + 1) (by omega)
  have HB : Below w.heap.size w w3 := HS.trans (hB.mono HS.size)
  have hz3 : w.heap.size + 1 + 1 + 1 ≤ w3.heap.size := by have := hB.size; omega
  clear hB HS hz2 R1' H2' R2'
  go_wp2
  refine bodyPost_ret (v := rgV s s1 s.rds.length s2 s.com.length s3 s.ends.length) (by simp [results, Try.results20, go_sem, t0, t1, t2, t3]) rfl ⟨_, _, _, rfl, ⟨?_, ?_, ?_⟩, ?_, ?_⟩
  · exact (((((R1.setR (by omega) _ _).setR (by omega) _ _).setR (by omega) _ _).setR (by omega) _ _).setR (by omega) _ _).here
  · exact (((((H2.setR R2 (by omega) _ _).setR (R2.setR (by omega) _ _) (by omega) _ _).setR ((R2.setR (by omega) _ _).setR (by omega) _ _) (by omega) _ _).setR (((R2.setR (by omega) _ _).setR (by omega) _ _).setR (by omega) _ _) (by omega) _ _).setR ((((R2.setR (by omega) _ _).setR (by omega) _ _).setR (by omega) _ _).setR (by omega) _ _) (by omega) _ _)
  · exact (((((H3.setR R3 (by omega) _ _).setR (R3.setR (by omega) _ _) (by omega) _ _).setR ((R3.setR (by omega) _ _).setR (by omega) _ _) (by omega) _ _).setR (((R3.setR (by omega) _ _).setR (by omega) _ _).setR (by omega) _ _) (by omega) _ _).setR ((((R3.setR (by omega) _ _).setR (by omega) _ _).setR (by omega) _ _).setR (by omega) _ _) (by omega) _ _)
  · exact (((((R1.setR (by omega) _ _).setR (by omega) _ _).setR (by omega) _ _).setR (by omega) _ _).setR (by omega) _ _).hereK
  · exact (((((HB.setCell (by first | (simp; done) | (simp; omega)) _).setCell (by first | (simp; done) | (simp; omega)) _).setCell (by first | (simp; done) | (simp; omega)) _).setCell (by first | (simp; done) | (simp; omega)) _).setCell (by first | (simp; done) | (simp; omega)) _)

theorem toReaders_any (s : Rg) (a0 a1 a2 : Option Addr) (c0 c1 c2 : Nat) (w : World) (hs : RgR w s a0 a1 a2) (hl : RgB s) :
    Calls Try.prog 20 #[rgV s a0 c0 a1 c1 a2 c2] w fun r w' => ∃ b0 b1 b2, r = .returned (rgV s b0 s.rds.length b1 s.com.length b2 s.ends.length) ∧ RgR w' s b0 b1 b2 ∧ Below w.heap.size w w' :=
  (toReaders_k s a0 a1 a2 c0 c1 c2 w hs hl).mono fun _ _ ⟨b0, b1, b2, h1, h2, _, h3⟩ => ⟨b0, b1, b2, h1, h2, h3⟩

set_option maxHeartbeats 2000000 in
theorem eqReaders_same (s : Rg) (a0 a1 a2 b0 b1 b2 : Option Addr) (c0 c1 c2 d0 d1 d2 : Nat) (w : World) (hs : RgR w s a0 a1 a2) (ht : RgR w s b0 b1 b2) (hl : RgL s) :
    Calls Try.prog 13 #[rgV s a0 c0 a1 c1 a2 c2, rgV s b0 d0 b1 d1 b2 d2] w fun r w' => r = .returned (.bool true) ∧ Below w.heap.size w w' := by
  have HB : ∀ x y, Below w.heap.size w ((w.alloc x).alloc y) := fun _ _ => ((Below.refl _ _).alloc (Nat.le_refl _) _).alloc (by simp) _
  go_enter Try.func13, Try.ntmps13
  go_wp2_with fail
  refine (eqReaderS_same _ _ _ _ _ _ (hs.rds.below (HB _ _)) (ht.rds.below (HB _ _)) hl.rds).mono ?_
  rintro r w1 ⟨rfl, hB⟩
  have p2 : w1.cell? ⟨w.heap.size, 2, none⟩ = some (.slice a1 s.com.length c1) := celB hB (by simp [go_sem])
  have o2 : w1.cell? ⟨w.heap.size + 1, 2, none⟩ = some (.slice b1 s.com.length d1) := celB hB (by simp [go_sem])
  have p3 : w1.cell? ⟨w.heap.size, 3, none⟩ = some (.slice a2 s.ends.length c2) := celB hB (by simp [go_sem])
  have o3 : w1.cell? ⟨w.heap.size + 1, 3, none⟩ = some (.slice b2 s.ends.length d2) := celB hB (by simp [go_sem])
  have BB : Below w.heap.size w w1 := (HB _ _).trans (hB.mono (HB _ _).size)
  clear hB
  go_wp2_with fail
  refine (eqIntS_same _ _ _ _ _ _ (hs.com.below BB) (ht.com.below BB) hl.com).mono ?_
  rintro r w2 ⟨rfl, hB⟩
  replace p3 := celB hB p3
  replace o3 := celB hB o3
  replace BB := stRg BB hB
  clear hB
  go_wp2_with fail
  refine (eqIntS_same _ _ _ _ _ _ (hs.ends.below BB) (ht.ends.below BB) hl.ends).mono ?_
  rintro r w3 ⟨rfl, hB⟩
  replace BB := stRg BB hB
  clear hB
  go_wp2
  go_ret
  exact ⟨rfl, BB⟩

theorem rg_keep {w w' : World} {b : Nat} {v0 v1 v2 v3 : Value} (hb : Below w.heap.size w w') (h : w.cell? ⟨b, 0, none⟩ = some v0 ∧ w.cell? ⟨b, 1, none⟩ = some v1 ∧ w.cell? ⟨b, 2, none⟩ = some v2 ∧ w.cell? ⟨b, 3, none⟩ = some v3) : w'.cell? ⟨b, 0, none⟩ = some v0 ∧ w'.cell? ⟨b, 1, none⟩ = some v1 ∧ w'.cell? ⟨b, 2, none⟩ = some v2 ∧ w'.cell? ⟨b, 3, none⟩ = some v3 := by
  obtain ⟨h0, h1, h2, h3⟩ := h
  exact ⟨celB hb h0, celB hb h1, celB hb h2, celB hb h3⟩

end Go.Proofs.Ytgiekkipkgdjaaa
