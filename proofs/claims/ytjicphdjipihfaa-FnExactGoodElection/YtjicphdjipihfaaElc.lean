/-
  Election as a call reads it, and the contracts of the laws' helpers szElection, toElection, eqElection. Made by mktop.py.
-/
import Derived.Test.YtjicphdjipihfaaSrv
import Derived.Test.YtjicphdjipihfaaLtr
import Derived.Test.YtjicphdjipihfaaVte
namespace Go.Proofs.Ytjicphdjipihfaa
open Go.RowKit

structure El where
  svs : List Sv
  post : List Lt
  led : List Vt

abbrev elV (s : El) (a0 : Option Addr) (c0 : Nat) (a1 : Option Addr) (c1 : Nat) (a2 : Option Addr) (c2 : Nat) : Value :=
  .agg #[.slice a0 s.svs.length c0, .slice a1 s.post.length c1, .slice a2 s.led.length c2]

/-- Its lists read so. -/
structure ElR (w : World) (s : El) (a0 a1 a2 : Option Addr) : Prop where
  svs : Svs w a0 s.svs
  post : Lts w a1 s.post
  led : Vts w a2 s.led

theorem ElR.below {w w' : World} {s : El} {a0 a1 a2 : Option Addr} (h : ElR w s a0 a1 a2) (hb : Below w.heap.size w w') : ElR w' s a0 a1 a2 :=
  ⟨h.svs.below hb, h.post.below hb, h.led.below hb⟩

structure ElL (s : El) : Prop where
  svs : s.svs.length ≤ maxLen
  post : s.post.length ≤ maxLen
  led : s.led.length ≤ maxLen

structure ElB (s : El) : Prop where
  svs : s.svs.length ≤ 1048576
  svsI : ∀ c, c ∈ s.svs → c.got.length ≤ 1048576 ∧ c.log.length ≤ 1048576
  post : s.post.length ≤ 1048576
  led : s.led.length ≤ 1048576

theorem ElB.len {s : El} (h : ElB s) : ElL s := by
  have h0 := h.svs
  have h1 := h.post
  have h2 := h.led
  exact ⟨by unfold maxLen; omega, by unfold maxLen; omega, by unfold maxLen; omega⟩

def szEl (s : El) : Int := if szSvs s.svs 1048576 < 0 then -1 else if szN s.post.length (szSvs s.svs 1048576) < 0 then -1 else szN s.led.length (szN s.post.length (szSvs s.svs 1048576))

theorem szEl_range (s : El) : -1 ≤ szEl s ∧ szEl s ≤ 1048576 := by
  unfold szEl
  have e0 := szSvs_range s.svs (left := 1048576) (by omega)
  split
  · omega
  have e1 := szN_range s.post.length (left := (szSvs s.svs 1048576)) (by omega)
  split
  · omega
  have e2 := szN_range s.led.length (left := (szN s.post.length (szSvs s.svs 1048576))) (by omega)
  omega

theorem szEl_bound {s : El} (h : 0 ≤ szEl s) : ElB s := by
  unfold szEl at h
  have e0 := szSvs_range s.svs (left := 1048576) (by omega)
  split at h
  · omega
  obtain ⟨b0, g0⟩ := szSvs_bound (l := s.svs) (left := 1048576) (by omega) (by omega)
  have e1 := szN_range s.post.length (left := (szSvs s.svs 1048576)) (by omega)
  split at h
  · omega
  have b1 := szN_bound (n := s.post.length) (left := (szSvs s.svs 1048576)) (by omega)
  have e2 := szN_range s.led.length (left := (szN s.post.length (szSvs s.svs 1048576))) (by omega)
  have b2 := szN_bound (n := s.led.length) (left := (szN s.post.length (szSvs s.svs 1048576))) (by omega)
  exact ⟨by omega, g0, by omega, by omega⟩

theorem alEl (u : World) (o : Obj) : Below u.heap.size u (u.alloc o) := (Below.refl _ _).alloc (Nat.le_refl _) o

theorem stEl {W a b : World} (h : Below W.heap.size W a) (k : Below a.heap.size a b) : Below W.heap.size W b := h.trans (k.mono h.size)

set_option maxHeartbeats 2000000 in
theorem szElection_any (s : El) (a0 a1 a2 : Option Addr) (c0 c1 c2 : Nat) (w : World) (hs : ElR w s a0 a1 a2) (hl : ElL s) :
    Calls Try.prog 17 #[elV s a0 c0 a1 c1 a2 c2, .int .i64 1048576] w fun r w' => r = .returned (.int .i64 (szEl s)) ∧ Below w.heap.size w w' := by
  have hs1 : ∀ o, ElR (w.alloc o) s a0 a1 a2 := fun o => hs.below (alEl w o)
  have e0 := szSvs_range s.svs (left := 1048576) (by omega)
  by_cases n0 : szSvs s.svs 1048576 < 0
  · have HE : Hid (szEl s = -1) := by show _ = _; unfold szEl; rw [if_pos n0]
    go_enter Try.func17, Try.ntmps17
    go_wp2_with fail
    refine (szServerS_any _ _ _ _ _ (hs1 _).svs hl.svs (by omega) (by omega)).mono ?_
    rintro r w1 ⟨rfl, hB⟩
    have p1 : w1.cell? ⟨w.heap.size, 1, none⟩ = some (.slice a1 s.post.length c1) := celB hB (by simp [go_sem])
    have p2 : w1.cell? ⟨w.heap.size, 2, none⟩ = some (.slice a2 s.led.length c2) := celB hB (by simp [go_sem])
    have hs2 := (hs1 _).below hB
    have BB := stEl (alEl _ _) hB
    clear hB
    go_wp2
    go_ret
    exact ⟨ret_int (by rw [HE.out]), BB⟩
  have HN0 : Hid (¬ szSvs s.svs 1048576 < 0) := n0
  have e1 := szN_range s.post.length (left := (szSvs s.svs 1048576)) (by omega)
  by_cases n1 : szN s.post.length (szSvs s.svs 1048576) < 0
  · have HE : Hid (szEl s = -1) := by show _ = _; unfold szEl; rw [if_neg HN0.out]; rw [if_pos n1]
    go_enter Try.func17, Try.ntmps17
    go_wp2_with fail
    refine (szServerS_any _ _ _ _ _ (hs1 _).svs hl.svs (by omega) (by omega)).mono ?_
    rintro r w1 ⟨rfl, hB⟩
    have p1 : w1.cell? ⟨w.heap.size, 1, none⟩ = some (.slice a1 s.post.length c1) := celB hB (by simp [go_sem])
    have p2 : w1.cell? ⟨w.heap.size, 2, none⟩ = some (.slice a2 s.led.length c2) := celB hB (by simp [go_sem])
    have hs2 := (hs1 _).below hB
    have BB := stEl (alEl _ _) hB
    clear hB
    go_wp2_with fail
    refine (szLetterS_any _ _ _ _ _ hl.post (by omega) (by omega)).mono ?_
    rintro e w' ⟨rfl, rfl⟩
    go_wp2
    go_ret
    exact ⟨ret_int (by rw [HE.out]), BB⟩
  have HN1 : Hid (¬ szN s.post.length (szSvs s.svs 1048576) < 0) := n1
  have e2 := szN_range s.led.length (left := (szN s.post.length (szSvs s.svs 1048576))) (by omega)
  have HE : Hid (szEl s = szN s.led.length (szN s.post.length (szSvs s.svs 1048576))) := by show _ = _; unfold szEl; rw [if_neg HN0.out, if_neg HN1.out]
  go_enter Try.func17, Try.ntmps17
  go_wp2_with fail
  refine (szServerS_any _ _ _ _ _ (hs1 _).svs hl.svs (by omega) (by omega)).mono ?_
  rintro r w1 ⟨rfl, hB⟩
  have p1 : w1.cell? ⟨w.heap.size, 1, none⟩ = some (.slice a1 s.post.length c1) := celB hB (by simp [go_sem])
  have p2 : w1.cell? ⟨w.heap.size, 2, none⟩ = some (.slice a2 s.led.length c2) := celB hB (by simp [go_sem])
  have hs2 := (hs1 _).below hB
  have BB := stEl (alEl _ _) hB
  clear hB
  go_wp2_with fail
  refine (szLetterS_any _ _ _ _ _ hl.post (by omega) (by omega)).mono ?_
  rintro e w' ⟨rfl, rfl⟩
  go_wp2_with fail
  refine (szVoteS_any _ _ _ _ _ hl.led (by omega) (by omega)).mono ?_
  rintro e w' ⟨rfl, rfl⟩
  by_cases n2 : szN s.led.length (szN s.post.length (szSvs s.svs 1048576)) < 0
  · go_wp2
    go_ret
    exact ⟨ret_int (by rw [HE.out]; omega), BB⟩
  · go_wp2
    go_ret
    exact ⟨ret_int HE.out.symm, BB⟩

set_option maxHeartbeats 4000000 in
theorem toElection_any (s : El) (a0 a1 a2 : Option Addr) (c0 c1 c2 : Nat) (w : World) (hs : ElR w s a0 a1 a2) (hl : ElB s) :
    Calls Try.prog 19 #[elV s a0 c0 a1 c1 a2 c2] w fun r w' => ∃ b0 b1 b2, r = .returned (elV s b0 s.svs.length b1 s.post.length b2 s.led.length) ∧ ElR w' s b0 b1 b2 ∧ Below w.heap.size w w' := by
  have hb3 : ∀ x y z, Below w.heap.size w (((w.alloc x).alloc y).alloc z) := fun _ _ _ => (((Below.refl _ _).alloc (Nat.le_refl _) _).alloc (by simp) _).alloc (by simp; omega) _
  go_enter Try.func19, Try.ntmps19
  go_wp2_with fail
  refine (toServerS_any _ _ _ _ (hs.svs.below (hb3 _ _ _)) hl.svs hl.svsI).mono ?_
  rintro r w1 ⟨s0, rfl, -, R0, hB⟩
  have HB : Below w.heap.size w w1 := (hb3 _ _ _).trans (hB.mono (hb3 _ _ _).size)
  have p0 : w1.cell? ⟨w.heap.size, 0, none⟩ = some (.slice a0 s.svs.length c0) := celB hB (by simp [go_sem])
  have p1 : w1.cell? ⟨w.heap.size, 1, none⟩ = some (.slice a1 s.post.length c1) := celB hB (by simp [go_sem])
  have p2 : w1.cell? ⟨w.heap.size, 2, none⟩ = some (.slice a2 s.led.length c2) := celB hB (by simp [go_sem])
  have o0 : w1.cell? ⟨w.heap.size + 1 + 1, 0, none⟩ = some (.slice none 0 0) := celB hB (by simp [go_sem])
  have o1 : w1.cell? ⟨w.heap.size + 1 + 1, 1, none⟩ = some (.slice none 0 0) := celB hB (by simp [go_sem])
  have o2 : w1.cell? ⟨w.heap.size + 1 + 1, 2, none⟩ = some (.slice none 0 0) := celB hB (by simp [go_sem])
  have t0 : w1.cell? ⟨w.heap.size + 1, 0, none⟩ = some (.slice none 0 0) := celB hB (by simp [go_sem])
  have t1 : w1.cell? ⟨w.heap.size + 1, 1, none⟩ = some (.slice none 0 0) := celB hB (by simp [go_sem])
  have t2 : w1.cell? ⟨w.heap.size + 1, 2, none⟩ = some (.slice none 0 0) := celB hB (by simp [go_sem])
  have x0 : ∀ o, w1.frozen? ⟨w.heap.size, o, none⟩ = false := fun o => frzB hB (by simp; omega) (by simp [go_sem])
  have x1 : ∀ o, w1.frozen? ⟨w.heap.size + 1, o, none⟩ = false := fun o => frzB hB (by simp) (by simp [go_sem])
  have x2 : ∀ o, w1.frozen? ⟨w.heap.size + 1 + 1, o, none⟩ = false := fun o => frzB hB (by simp) (by simp [go_sem])
  have hz1 := hB.size
  simp only [World.size_alloc] at hz1 R0
  clear hB
  go_wp2_with fail
  obtain ⟨u1, hu⟩ : ∃ u, (w1.setCell ⟨w.heap.size + 1 + 1, 0, none⟩ (.slice s0 s.svs.length s.svs.length)) = u := ⟨_, rfl⟩
  rw [hu]
  have HS : Below w.heap.size w u1 := by rw [← hu]; exact HB.setCell (by first | (simp; done) | (simp; omega)) _
  replace p0 : u1.cell? ⟨w.heap.size, 0, none⟩ = some (.slice a0 s.svs.length c0) := by rw [← hu]; simp [go_sem, p0]
  replace p1 : u1.cell? ⟨w.heap.size, 1, none⟩ = some (.slice a1 s.post.length c1) := by rw [← hu]; simp [go_sem, p1]
  replace p2 : u1.cell? ⟨w.heap.size, 2, none⟩ = some (.slice a2 s.led.length c2) := by rw [← hu]; simp [go_sem, p2]
  replace o0 : u1.cell? ⟨w.heap.size + 1 + 1, 0, none⟩ = some (.slice s0 s.svs.length s.svs.length) := by rw [← hu]; simp [go_sem, o0]
  replace o1 : u1.cell? ⟨w.heap.size + 1 + 1, 1, none⟩ = some (.slice none 0 0) := by rw [← hu]; simp [go_sem, o1]
  replace o2 : u1.cell? ⟨w.heap.size + 1 + 1, 2, none⟩ = some (.slice none 0 0) := by rw [← hu]; simp [go_sem, o2]
  replace t0 : u1.cell? ⟨w.heap.size + 1, 0, none⟩ = some (.slice none 0 0) := by rw [← hu]; simp [go_sem, t0]
  replace t1 : u1.cell? ⟨w.heap.size + 1, 1, none⟩ = some (.slice none 0 0) := by rw [← hu]; simp [go_sem, t1]
  replace t2 : u1.cell? ⟨w.heap.size + 1, 2, none⟩ = some (.slice none 0 0) := by rw [← hu]; simp [go_sem, t2]
  replace x0 : ∀ o, u1.frozen? ⟨w.heap.size, o, none⟩ = false := fun o => by rw [← hu]; simp [go_sem, x0]
  replace x1 : ∀ o, u1.frozen? ⟨w.heap.size + 1, o, none⟩ = false := fun o => by rw [← hu]; simp [go_sem, x1]
  replace x2 : ∀ o, u1.frozen? ⟨w.heap.size + 1 + 1, o, none⟩ = false := fun o => by rw [← hu]; simp [go_sem, x2]
  replace hz1 : w.heap.size + 1 + 1 + 1 ≤ u1.heap.size := by rw [← hu]; simpa using hz1
  have R0' : SvsA u1 (w.heap.size + 1 + 1 + 1) s0 s.svs := by rw [← hu]; exact R0.setR (by omega) _ _
  clear hu R0 HB
  refine (toLetterS_any _ _ _ _ (hs.post.below HS) hl.post).mono ?_
  rintro r w2 ⟨s1, rfl, -, R1, hB⟩
  have R0 := R0'.below hB
  replace p0 := celB hB p0
  replace o0 := celB hB o0
  replace t0 := celB hB t0
  replace p1 := celB hB p1
  replace o1 := celB hB o1
  replace t1 := celB hB t1
  replace p2 := celB hB p2
  replace o2 := celB hB o2
  replace t2 := celB hB t2
  replace x0 := fun o => frzB (o := o) hB (by omega) (x0 o)
  replace x1 := fun o => frzB (o := o) hB (by omega) (x1 o)
  replace x2 := fun o => frzB (o := o) hB (by omega) (x2 o)
  replace R1 := R1.mono (B' := w.heap.size + 1 + 1 + 1) (by omega)
  have HB : Below w.heap.size w w2 := HS.trans (hB.mono HS.size)
  have hz2 : w.heap.size + 1 + 1 + 1 ≤ w2.heap.size := by have := hB.size; omega
  clear hB HS hz1 R0'
  go_wp2_with fail
  obtain ⟨u2, hu⟩ : ∃ u, (w2.setCell ⟨w.heap.size + 1 + 1, 1, none⟩ (.slice s1 s.post.length s.post.length)) = u := ⟨_, rfl⟩
  rw [hu]
  have HS : Below w.heap.size w u2 := by rw [← hu]; exact HB.setCell (by first | (simp; done) | (simp; omega)) _
  replace p0 : u2.cell? ⟨w.heap.size, 0, none⟩ = some (.slice a0 s.svs.length c0) := by rw [← hu]; simp [go_sem, p0]
  replace p1 : u2.cell? ⟨w.heap.size, 1, none⟩ = some (.slice a1 s.post.length c1) := by rw [← hu]; simp [go_sem, p1]
  replace p2 : u2.cell? ⟨w.heap.size, 2, none⟩ = some (.slice a2 s.led.length c2) := by rw [← hu]; simp [go_sem, p2]
  replace o0 : u2.cell? ⟨w.heap.size + 1 + 1, 0, none⟩ = some (.slice s0 s.svs.length s.svs.length) := by rw [← hu]; simp [go_sem, o0]
  replace o1 : u2.cell? ⟨w.heap.size + 1 + 1, 1, none⟩ = some (.slice s1 s.post.length s.post.length) := by rw [← hu]; simp [go_sem, o1]
  replace o2 : u2.cell? ⟨w.heap.size + 1 + 1, 2, none⟩ = some (.slice none 0 0) := by rw [← hu]; simp [go_sem, o2]
  replace t0 : u2.cell? ⟨w.heap.size + 1, 0, none⟩ = some (.slice none 0 0) := by rw [← hu]; simp [go_sem, t0]
  replace t1 : u2.cell? ⟨w.heap.size + 1, 1, none⟩ = some (.slice none 0 0) := by rw [← hu]; simp [go_sem, t1]
  replace t2 : u2.cell? ⟨w.heap.size + 1, 2, none⟩ = some (.slice none 0 0) := by rw [← hu]; simp [go_sem, t2]
  replace x0 : ∀ o, u2.frozen? ⟨w.heap.size, o, none⟩ = false := fun o => by rw [← hu]; simp [go_sem, x0]
  replace x1 : ∀ o, u2.frozen? ⟨w.heap.size + 1, o, none⟩ = false := fun o => by rw [← hu]; simp [go_sem, x1]
  replace x2 : ∀ o, u2.frozen? ⟨w.heap.size + 1 + 1, o, none⟩ = false := fun o => by rw [← hu]; simp [go_sem, x2]
  replace hz2 : w.heap.size + 1 + 1 + 1 ≤ u2.heap.size := by rw [← hu]; simpa using hz2
  have R0' : SvsA u2 (w.heap.size + 1 + 1 + 1) s0 s.svs := by rw [← hu]; exact R0.setR (by omega) _ _
  have R1' : LtsA u2 (w.heap.size + 1 + 1 + 1) s1 s.post := by rw [← hu]; exact R1.setR (by omega) _ _
  clear hu R0 R1 HB
  refine (toVoteS_any _ _ _ _ (hs.led.below HS) hl.led).mono ?_
  rintro r w3 ⟨s2, rfl, -, R2, hB⟩
  have R0 := R0'.below hB
  have R1 := R1'.below hB
  replace p0 := celB hB p0
  replace o0 := celB hB o0
  replace t0 := celB hB t0
  replace p1 := celB hB p1
  replace o1 := celB hB o1
  replace t1 := celB hB t1
  replace p2 := celB hB p2
  replace o2 := celB hB o2
  replace t2 := celB hB t2
  replace x0 := fun o => frzB (o := o) hB (by omega) (x0 o)
  replace x1 := fun o => frzB (o := o) hB (by omega) (x1 o)
  replace x2 := fun o => frzB (o := o) hB (by omega) (x2 o)
  replace R2 := R2.mono (B' := w.heap.size + 1 + 1 + 1) (by omega)
  have HB : Below w.heap.size w w3 := HS.trans (hB.mono HS.size)
  have hz3 : w.heap.size + 1 + 1 + 1 ≤ w3.heap.size := by have := hB.size; omega
  clear hB HS hz2 R0' R1'
  go_wp2
  refine bodyPost_ret (v := elV s s0 s.svs.length s1 s.post.length s2 s.led.length) (by simp [results, Try.results19, go_sem, t0, t1, t2]) rfl ⟨_, _, _, rfl, ⟨?_, ?_, ?_⟩, ?_⟩
  · exact ((((R0.setR (by omega) _ _).setR (by omega) _ _).setR (by omega) _ _).setR (by omega) _ _).here
  · exact ((((R1.setR (by omega) _ _).setR (by omega) _ _).setR (by omega) _ _).setR (by omega) _ _).here
  · exact ((((R2.setR (by omega) _ _).setR (by omega) _ _).setR (by omega) _ _).setR (by omega) _ _).here
  · exact ((((HB.setCell (by first | (simp; done) | (simp; omega)) _).setCell (by first | (simp; done) | (simp; omega)) _).setCell (by first | (simp; done) | (simp; omega)) _).setCell (by first | (simp; done) | (simp; omega)) _)

set_option maxHeartbeats 2000000 in
theorem eqElection_same (s : El) (a0 a1 a2 b0 b1 b2 : Option Addr) (c0 c1 c2 d0 d1 d2 : Nat) (w : World) (hs : ElR w s a0 a1 a2) (ht : ElR w s b0 b1 b2) (hl : ElL s) :
    Calls Try.prog 12 #[elV s a0 c0 a1 c1 a2 c2, elV s b0 d0 b1 d1 b2 d2] w fun r w' => r = .returned (.bool true) ∧ Below w.heap.size w w' := by
  have HB : ∀ x y, Below w.heap.size w ((w.alloc x).alloc y) := fun _ _ => ((Below.refl _ _).alloc (Nat.le_refl _) _).alloc (by simp) _
  go_enter Try.func12, Try.ntmps12
  go_wp2_with fail
  refine (eqServerS_same _ _ _ _ _ _ (hs.svs.below (HB _ _)) (ht.svs.below (HB _ _)) hl.svs).mono ?_
  rintro r w1 ⟨rfl, hB⟩
  have p1 : w1.cell? ⟨w.heap.size, 1, none⟩ = some (.slice a1 s.post.length c1) := celB hB (by simp [go_sem])
  have o1 : w1.cell? ⟨w.heap.size + 1, 1, none⟩ = some (.slice b1 s.post.length d1) := celB hB (by simp [go_sem])
  have p2 : w1.cell? ⟨w.heap.size, 2, none⟩ = some (.slice a2 s.led.length c2) := celB hB (by simp [go_sem])
  have o2 : w1.cell? ⟨w.heap.size + 1, 2, none⟩ = some (.slice b2 s.led.length d2) := celB hB (by simp [go_sem])
  have BB : Below w.heap.size w w1 := (HB _ _).trans (hB.mono (HB _ _).size)
  clear hB
  go_wp2_with fail
  refine (eqLetterS_same _ _ _ _ _ _ (hs.post.below BB) (ht.post.below BB) hl.post).mono ?_
  rintro r w2 ⟨rfl, hB⟩
  replace p2 := celB hB p2
  replace o2 := celB hB o2
  replace BB := stEl BB hB
  clear hB
  go_wp2_with fail
  refine (eqVoteS_same _ _ _ _ _ _ (hs.led.below BB) (ht.led.below BB) hl.led).mono ?_
  rintro r w3 ⟨rfl, hB⟩
  replace BB := stEl BB hB
  clear hB
  go_wp2
  go_ret
  exact ⟨rfl, BB⟩

theorem el_keep {w w' : World} {b : Nat} {v0 v1 v2 : Value} (hb : Below w.heap.size w w') (h : w.cell? ⟨b, 0, none⟩ = some v0 ∧ w.cell? ⟨b, 1, none⟩ = some v1 ∧ w.cell? ⟨b, 2, none⟩ = some v2) : w'.cell? ⟨b, 0, none⟩ = some v0 ∧ w'.cell? ⟨b, 1, none⟩ = some v1 ∧ w'.cell? ⟨b, 2, none⟩ = some v2 := by
  obtain ⟨h0, h1, h2⟩ := h
  exact ⟨celB hb h0, celB hb h1, celB hb h2⟩

end Go.Proofs.Ytjicphdjipihfaa
