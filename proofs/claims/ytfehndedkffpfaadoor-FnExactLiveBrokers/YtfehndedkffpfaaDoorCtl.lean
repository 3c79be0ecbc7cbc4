/-
  Control as a call reads it, and the contracts of the laws' helpers szControl, toControl, eqControl. Made by mktop.py.
-/
import Derived.Test.YtfehndedkffpfaaDoorBrk
import Derived.Test.YtfehndedkffpfaaDoorPrn
namespace Go.Proofs.YtfehndedkffpfaaDoor
open Go.RowKit

structure Ct where
  brks : List Br
  parts : List Pn
  next : Int

abbrev ctV (s : Ct) (a0 : Option Addr) (c0 : Nat) (a1 : Option Addr) (c1 : Nat) : Value :=
  .agg #[.slice a0 s.brks.length c0, .slice a1 s.parts.length c1, .int .i64 s.next]

/-- Its lists read so. -/
structure CtR (w : World) (s : Ct) (a0 a1 : Option Addr) : Prop where
  brks : Brs w a0 s.brks
  parts : Pns w a1 s.parts

theorem CtR.below {w w' : World} {s : Ct} {a0 a1 : Option Addr} (h : CtR w s a0 a1) (hb : Below w.heap.size w w') : CtR w' s a0 a1 :=
  ⟨h.brks.below hb, h.parts.below hb⟩

structure CtL (s : Ct) : Prop where
  brks : s.brks.length ≤ maxLen
  parts : s.parts.length ≤ maxLen

structure CtB (s : Ct) : Prop where
  brks : s.brks.length ≤ 1048576
  parts : s.parts.length ≤ 1048576
  partsI : ∀ c, c ∈ s.parts → c.homes.length ≤ 1048576 ∧ c.steps.length ≤ 1048576

theorem CtB.len {s : Ct} (h : CtB s) : CtL s := by
  have h0 := h.brks
  have h1 := h.parts
  exact ⟨by unfold maxLen; omega, by unfold maxLen; omega⟩

def szCt (s : Ct) : Int := if szN s.brks.length 1048576 < 0 then -1 else szPns s.parts (szN s.brks.length 1048576)

theorem szCt_range (s : Ct) : -1 ≤ szCt s ∧ szCt s ≤ 1048576 := by
  unfold szCt
  have e0 := szN_range s.brks.length (left := 1048576) (by omega)
  split
  · omega
  have e1 := szPns_range s.parts (left := (szN s.brks.length 1048576)) (by omega)
  omega

theorem szCt_bound {s : Ct} (h : 0 ≤ szCt s) : CtB s := by
  unfold szCt at h
  have e0 := szN_range s.brks.length (left := 1048576) (by omega)
  split at h
  · omega
  have b0 := szN_bound (n := s.brks.length) (left := 1048576) (by omega)
  have e1 := szPns_range s.parts (left := (szN s.brks.length 1048576)) (by omega)
  obtain ⟨b1, g1⟩ := szPns_bound (l := s.parts) (left := (szN s.brks.length 1048576)) (by omega) (by omega)
  exact ⟨by omega, by omega, g1⟩

theorem alCt (u : World) (o : Obj) : Below u.heap.size u (u.alloc o) := (Below.refl _ _).alloc (Nat.le_refl _) o

theorem stCt {W a b : World} (h : Below W.heap.size W a) (k : Below a.heap.size a b) : Below W.heap.size W b := h.trans (k.mono h.size)

set_option maxHeartbeats 2000000 in
theorem szControl_any (s : Ct) (a0 a1 : Option Addr) (c0 c1 : Nat) (w : World) (hs : CtR w s a0 a1) (hl : CtL s) :
    Calls Tryd.prog 4 #[ctV s a0 c0 a1 c1, .int .i64 1048576] w fun r w' => r = .returned (.int .i64 (szCt s)) ∧ Below w.heap.size w w' := by
  have hs1 : ∀ o, CtR (w.alloc o) s a0 a1 := fun o => hs.below (alCt w o)
  have e0 := szN_range s.brks.length (left := 1048576) (by omega)
  by_cases n0 : szN s.brks.length 1048576 < 0
  · have HE : Hid (szCt s = -1) := by show _ = _; unfold szCt; rw [if_pos n0]
    go_enter Tryd.func4, Tryd.ntmps4
    go_wp2_with fail
    refine (szBrokerS_any _ _ _ _ _ hl.brks (by omega) (by omega)).mono ?_
    rintro e w' ⟨rfl, rfl⟩
    go_wp2
    go_ret
    exact ⟨ret_int (by rw [HE.out]), alCt _ _⟩
  have HN0 : Hid (¬ szN s.brks.length 1048576 < 0) := n0
  have e1 := szPns_range s.parts (left := (szN s.brks.length 1048576)) (by omega)
  have HE : Hid (szCt s = szPns s.parts (szN s.brks.length 1048576)) := by show _ = _; unfold szCt; rw [if_neg HN0.out]
  go_enter Tryd.func4, Tryd.ntmps4
  go_wp2_with fail
  refine (szBrokerS_any _ _ _ _ _ hl.brks (by omega) (by omega)).mono ?_
  rintro e w' ⟨rfl, rfl⟩
  go_wp2_with fail
  refine (szPartitionS_any _ _ _ _ _ (hs1 _).parts hl.parts (by omega) (by omega)).mono ?_
  rintro r w2 ⟨rfl, hB⟩
  have hs2 := (hs1 _).below hB
  have BB := stCt (alCt _ _) hB
  clear hB
  by_cases n1 : szPns s.parts (szN s.brks.length 1048576) < 0
  · go_wp2
    go_ret
    exact ⟨ret_int (by rw [HE.out]; omega), BB⟩
  · go_wp2
    go_ret
    exact ⟨ret_int HE.out.symm, BB⟩

set_option maxHeartbeats 4000000 in
theorem toControl_k (s : Ct) (a0 a1 : Option Addr) (c0 c1 : Nat) (w : World) (hs : CtR w s a0 a1) (hl : CtB s) :
    Calls Tryd.prog 6 #[ctV s a0 c0 a1 c1] w fun r w' => ∃ b0 b1, r = .returned (ctV s b0 s.brks.length b1 s.parts.length) ∧ CtR w' s b0 b1 ∧ PnsK w' b1 s.parts ∧ Below w.heap.size w w' := by
  have hb3 : ∀ x y z, Below w.heap.size w (((w.alloc x).alloc y).alloc z) := fun _ _ _ => (((Below.refl _ _).alloc (Nat.le_refl _) _).alloc (by simp) _).alloc (by simp; omega) _
  go_enter Tryd.func6, Tryd.ntmps6
  go_wp2_with fail
  refine (toBrokerS_any _ _ _ _ (hs.brks.below (hb3 _ _ _)) hl.brks).mono ?_
  rintro r w1 ⟨s0, rfl, -, R0, hB⟩
  have HB : Below w.heap.size w w1 := (hb3 _ _ _).trans (hB.mono (hb3 _ _ _).size)
  have p0 : w1.cell? ⟨w.heap.size, 0, none⟩ = some (.slice a0 s.brks.length c0) := celB hB (by simp [go_sem])
  have p1 : w1.cell? ⟨w.heap.size, 1, none⟩ = some (.slice a1 s.parts.length c1) := celB hB (by simp [go_sem])
  have p2 : w1.cell? ⟨w.heap.size, 2, none⟩ = some (.int .i64 s.next) := celB hB (by simp [go_sem])
  have o0 : w1.cell? ⟨w.heap.size + 1 + 1, 0, none⟩ = some (.slice none 0 0) := celB hB (by simp [go_sem])
  have o1 : w1.cell? ⟨w.heap.size + 1 + 1, 1, none⟩ = some (.slice none 0 0) := celB hB (by simp [go_sem])
  have o2 : w1.cell? ⟨w.heap.size + 1 + 1, 2, none⟩ = some (.int .i64 0) := celB hB (by simp [go_sem])
  have t0 : w1.cell? ⟨w.heap.size + 1, 0, none⟩ = some (.slice none 0 0) := celB hB (by simp [go_sem])
  have t1 : w1.cell? ⟨w.heap.size + 1, 1, none⟩ = some (.slice none 0 0) := celB hB (by simp [go_sem])
  have t2 : w1.cell? ⟨w.heap.size + 1, 2, none⟩ = some (.int .i64 0) := celB hB (by simp [go_sem])
  have x0 : ∀ o, w1.frozen? ⟨w.heap.size, o, none⟩ = false := fun o => frzB hB (by simp; omega) (by simp [go_sem])
  have x1 : ∀ o, w1.frozen? ⟨w.heap.size + 1, o, none⟩ = false := fun o => frzB hB (by simp) (by simp [go_sem])
  have x2 : ∀ o, w1.frozen? ⟨w.heap.size + 1 + 1, o, none⟩ = false := fun o => frzB hB (by simp) (by simp [go_sem])
  have hz1 := hB.size
  simp only [World.size_alloc] at hz1 R0
  clear hB
  go_wp2_with fail
  obtain ⟨u1, hu⟩ : ∃ u, (w1.setCell ⟨w.heap.size + 1 + 1, 0, none⟩ (.slice s0 s.brks.length s.brks.length)) = u := ⟨_, rfl⟩
  rw [hu]
  have HS : Below w.heap.size w u1 := by rw [← hu]; exact HB.setCell (by first | (simp; done) | (simp; omega)) _
  replace p0 : u1.cell? ⟨w.heap.size, 0, none⟩ = some (.slice a0 s.brks.length c0) := by rw [← hu]; simp [go_sem, p0]
  replace p1 : u1.cell? ⟨w.heap.size, 1, none⟩ = some (.slice a1 s.parts.length c1) := by rw [← hu]; simp [go_sem, p1]
  replace p2 : u1.cell? ⟨w.heap.size, 2, none⟩ = some (.int .i64 s.next) := by rw [← hu]; simp [go_sem, p2]
  replace o0 : u1.cell? ⟨w.heap.size + 1 + 1, 0, none⟩ = some (.slice s0 s.brks.length s.brks.length) := by rw [← hu]; simp [go_sem, o0]
  replace o1 : u1.cell? ⟨w.heap.size + 1 + 1, 1, none⟩ = some (.slice none 0 0) := by rw [← hu]; simp [go_sem, o1]
  replace o2 : u1.cell? ⟨w.heap.size + 1 + 1, 2, none⟩ = some (.int .i64 0) := by rw [← hu]; simp [go_sem, o2]
  replace t0 : u1.cell? ⟨w.heap.size + 1, 0, none⟩ = some (.slice none 0 0) := by rw [← hu]; simp [go_sem, t0]
  replace t1 : u1.cell? ⟨w.heap.size + 1, 1, none⟩ = some (.slice none 0 0) := by rw [← hu]; simp [go_sem, t1]
  replace t2 : u1.cell? ⟨w.heap.size + 1, 2, none⟩ = some (.int .i64 0) := by rw [← hu]; simp [go_sem, t2]
  replace x0 : ∀ o, u1.frozen? ⟨w.heap.size, o, none⟩ = false := fun o => by rw [← hu]; simp [go_sem, x0]
  replace x1 : ∀ o, u1.frozen? ⟨w.heap.size + 1, o, none⟩ = false := fun o => by rw [← hu]; simp [go_sem, x1]
  replace x2 : ∀ o, u1.frozen? ⟨w.heap.size + 1 + 1, o, none⟩ = false := fun o => by rw [← hu]; simp [go_sem, x2]
  replace hz1 : w.heap.size + 1 + 1 + 1 ≤ u1.heap.size := by rw [← hu]; simpa using hz1
  have R0' : BrsA u1 (w.heap.size + 1 + 1 + 1) s0 s.brks := by rw [← hu]; exact R0.setR (by omega) _ _
  clear hu R0 HB
  refine (toPartitionS_any _ _ _ _ (hs.parts.below HS) hl.parts hl.partsI).mono ?_
  rintro r w2 ⟨s1, rfl, -, R1, hB⟩
  have R0 := R0'.below hB
  replace p0 := celB hB p0
  replace o0 := celB hB o0
  replace t0 := celB hB t0
  replace p1 := celB hB p1
  replace o1 := celB hB o1
  replace t1 := celB hB t1
  replace p2 := celB hB p2
  replace o2 := celB hB o2
  replace t2 := celB hB t2
  replace x0 := fun o => frzB (o := o) hB (by omega) (x0 o)
  replace x1 := fun o => frzB (o := o) hB (by omega) (x1 o)
  replace x2 := fun o => frzB (o := o) hB (by omega) (x2 o)
  replace R1 := R1.mono (B' := w.heap.size + 1 + 1 + 1) (by omega)
  have HB : Below w.heap.size w w2 := HS.trans (hB.mono HS.size)
  have hz2 : w.heap.size + 1 + 1 + 1 ≤ w2.heap.size := by have := hB.size; omega
  clear hB HS hz1 R0'
  go_wp2
  refine bodyPost_ret (v := ctV s s0 s.brks.length s1 s.parts.length) (by simp [results, Tryd.results6, go_sem, t0, t1, t2]) rfl ⟨_, _, rfl, ⟨?_, ?_⟩, ?_, ?_⟩
  · exact (((((R0.setR (by omega) _ _).setR (by omega) _ _).setR (by omega) _ _).setR (by omega) _ _).setR (by omega) _ _).here
  · exact (((((R1.setR (by omega) _ _).setR (by omega) _ _).setR (by omega) _ _).setR (by omega) _ _).setR (by omega) _ _).here
  · exact (((((R1.setR (by omega) _ _).setR (by omega) _ _).setR (by omega) _ _).setR (by omega) _ _).setR (by omega) _ _).hereK
  · exact (((((HB.setCell (by first | (simp; done) | (simp; omega)) _).setCell (by first | (simp; done) | (simp; omega)) _).setCell (by first | (simp; done) | (simp; omega)) _).setCell (by first | (simp; done) | (simp; omega)) _).setCell (by first | (simp; done) | (simp; omega)) _)

theorem toControl_any (s : Ct) (a0 a1 : Option Addr) (c0 c1 : Nat) (w : World) (hs : CtR w s a0 a1) (hl : CtB s) :
    Calls Tryd.prog 6 #[ctV s a0 c0 a1 c1] w fun r w' => ∃ b0 b1, r = .returned (ctV s b0 s.brks.length b1 s.parts.length) ∧ CtR w' s b0 b1 ∧ Below w.heap.size w w' :=
  (toControl_k s a0 a1 c0 c1 w hs hl).mono fun _ _ ⟨b0, b1, h1, h2, _, h3⟩ => ⟨b0, b1, h1, h2, h3⟩

set_option maxHeartbeats 2000000 in
theorem eqControl_same (s : Ct) (a0 a1 b0 b1 : Option Addr) (c0 c1 d0 d1 : Nat) (w : World) (hs : CtR w s a0 a1) (ht : CtR w s b0 b1) (hl : CtL s) :
    Calls Tryd.prog 9 #[ctV s a0 c0 a1 c1, ctV s b0 d0 b1 d1] w fun r w' => r = .returned (.bool true) ∧ Below w.heap.size w w' := by
  have HB : ∀ x y, Below w.heap.size w ((w.alloc x).alloc y) := fun _ _ => ((Below.refl _ _).alloc (Nat.le_refl _) _).alloc (by simp) _
  go_enter Tryd.func9, Tryd.ntmps9
  go_wp2_with fail
  refine (eqBrokerS_same _ _ _ _ _ _ (hs.brks.below (HB _ _)) (ht.brks.below (HB _ _)) hl.brks).mono ?_
  rintro r w1 ⟨rfl, hB⟩
  have p1 : w1.cell? ⟨w.heap.size, 1, none⟩ = some (.slice a1 s.parts.length c1) := celB hB (by simp [go_sem])
  have o1 : w1.cell? ⟨w.heap.size + 1, 1, none⟩ = some (.slice b1 s.parts.length d1) := celB hB (by simp [go_sem])
  have p2 : w1.cell? ⟨w.heap.size, 2, none⟩ = some (.int .i64 s.next) := celB hB (by simp [go_sem])
  have o2 : w1.cell? ⟨w.heap.size + 1, 2, none⟩ = some (.int .i64 s.next) := celB hB (by simp [go_sem])
  have BB : Below w.heap.size w w1 := (HB _ _).trans (hB.mono (HB _ _).size)
  clear hB
  go_wp2_with fail
  refine (eqPartitionS_same _ _ _ _ _ _ (hs.parts.below BB) (ht.parts.below BB) hl.parts).mono ?_
  rintro r w2 ⟨rfl, hB⟩
  replace p2 := celB hB p2
  replace o2 := celB hB o2
  replace BB := stCt BB hB
  clear hB
  go_wp2
  go_ret
  exact ⟨rfl, BB⟩

theorem ct_keep {w w' : World} {b : Nat} {v0 v1 v2 : Value} (hb : Below w.heap.size w w') (h : w.cell? ⟨b, 0, none⟩ = some v0 ∧ w.cell? ⟨b, 1, none⟩ = some v1 ∧ w.cell? ⟨b, 2, none⟩ = some v2) : w'.cell? ⟨b, 0, none⟩ = some v0 ∧ w'.cell? ⟨b, 1, none⟩ = some v1 ∧ w'.cell? ⟨b, 2, none⟩ = some v2 := by
  obtain ⟨h0, h1, h2⟩ := h
  exact ⟨celB hb h0, celB hb h1, celB hb h2⟩

end Go.Proofs.YtfehndedkffpfaaDoor
