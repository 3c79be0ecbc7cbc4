/-
  Raft as a call reads it, and the contracts of the laws' helpers szRaft, toRaft, eqRaft. Made by mktop.py.
-/
import Derived.Test.YtglncbhbeikclaaPer
import Derived.Test.YtglncbhbeikclaaMal
namespace Go.Proofs.Ytglncbhbeikclaa
open Go.RowKit

structure Ra where
  prs : List Pe
  mail : List Ma

abbrev raV (s : Ra) (a0 : Option Addr) (c0 : Nat) (a1 : Option Addr) (c1 : Nat) : Value :=
  .agg #[.slice a0 s.prs.length c0, .slice a1 s.mail.length c1]

/-- Its lists read so. -/
structure RaR (w : World) (s : Ra) (a0 a1 : Option Addr) : Prop where
  prs : Pes w a0 s.prs
  mail : Mas w a1 s.mail

theorem RaR.below {w w' : World} {s : Ra} {a0 a1 : Option Addr} (h : RaR w s a0 a1) (hb : Below w.heap.size w w') : RaR w' s a0 a1 :=
  ⟨h.prs.below hb, h.mail.below hb⟩

structure RaL (s : Ra) : Prop where
  prs : s.prs.length ≤ maxLen
  mail : s.mail.length ≤ maxLen

structure RaB (s : Ra) : Prop where
  prs : s.prs.length ≤ 1048576
  prsI : ∀ c, c ∈ s.prs → c.log.length ≤ 1048576 ∧ c.mat.length ≤ 1048576
  mail : s.mail.length ≤ 1048576
  mailI : ∀ c, c ∈ s.mail → c.entry.length ≤ 1048576

theorem RaB.len {s : Ra} (h : RaB s) : RaL s := by
  have h0 := h.prs
  have h1 := h.mail
  exact ⟨by unfold maxLen; omega, by unfold maxLen; omega⟩

def szRa (s : Ra) : Int := if szPes s.prs 1048576 < 0 then -1 else szMas s.mail (szPes s.prs 1048576)

theorem szRa_range (s : Ra) : -1 ≤ szRa s ∧ szRa s ≤ 1048576 := by
  unfold szRa
  have e0 := szPes_range s.prs (left := 1048576) (by omega)
  split
  · omega
  have e1 := szMas_range s.mail (left := (szPes s.prs 1048576)) (by omega)
  omega

theorem szRa_bound {s : Ra} (h : 0 ≤ szRa s) : RaB s := by
  unfold szRa at h
  have e0 := szPes_range s.prs (left := 1048576) (by omega)
  split at h
  · omega
  obtain ⟨b0, g0⟩ := szPes_bound (l := s.prs) (left := 1048576) (by omega) (by omega)
  have e1 := szMas_range s.mail (left := (szPes s.prs 1048576)) (by omega)
  obtain ⟨b1, g1⟩ := szMas_bound (l := s.mail) (left := (szPes s.prs 1048576)) (by omega) (by omega)
  exact ⟨by omega, g0, by omega, g1⟩

theorem alRa (u : World) (o : Obj) : Below u.heap.size u (u.alloc o) := (Below.refl _ _).alloc (Nat.le_refl _) o

theorem stRa {W a b : World} (h : Below W.heap.size W a) (k : Below a.heap.size a b) : Below W.heap.size W b := h.trans (k.mono h.size)

set_option maxHeartbeats 2000000 in
theorem szRaft_any (s : Ra) (a0 a1 : Option Addr) (c0 c1 : Nat) (w : World) (hs : RaR w s a0 a1) (hl : RaL s) :
    Calls Try.prog 14 #[raV s a0 c0 a1 c1, .int .i64 1048576] w fun r w' => r = .returned (.int .i64 (szRa s)) ∧ Below w.heap.size w w' := by
  have hs1 : ∀ o, RaR (w.alloc o) s a0 a1 := fun o => hs.below (alRa w o)
  have e0 := szPes_range s.prs (left := 1048576) (by omega)
  by_cases n0 : szPes s.prs 1048576 < 0
  · have HE : Hid (szRa s = -1) := by show _ = _; unfold szRa; rw [if_pos n0]
    go_enter Try.func14, Try.ntmps14
    go_wp2_with fail
    refine (szPeerS_any _ _ _ _ _ (hs1 _).prs hl.prs (by omega) (by omega)).mono ?_
    rintro r w1 ⟨rfl, hB⟩
    have p1 : w1.cell? ⟨w.heap.size, 1, none⟩ = some (.slice a1 s.mail.length c1) := celB hB (by simp [go_sem])
    have hs2 := (hs1 _).below hB
    have BB := stRa (alRa _ _) hB
    clear hB
    go_wp2
    go_ret
    exact ⟨ret_int (by rw [HE.out]), BB⟩
  have HN0 : Hid (¬ szPes s.prs 1048576 < 0) := n0
  have e1 := szMas_range s.mail (left := (szPes s.prs 1048576)) (by omega)
  have HE : Hid (szRa s = szMas s.mail (szPes s.prs 1048576)) := by show _ = _; unfold szRa; rw [if_neg HN0.out]
  go_enter Try.func14, Try.ntmps14
  go_wp2_with fail
  refine (szPeerS_any _ _ _ _ _ (hs1 _).prs hl.prs (by omega) (by omega)).mono ?_
  rintro r w1 ⟨rfl, hB⟩
  have p1 : w1.cell? ⟨w.heap.size, 1, none⟩ = some (.slice a1 s.mail.length c1) := celB hB (by simp [go_sem])
  have hs2 := (hs1 _).below hB
  have BB := stRa (alRa _ _) hB
  clear hB
  go_wp2_with fail
  refine (szMailS_any _ _ _ _ _ hs2.mail hl.mail (by omega) (by omega)).mono ?_
  rintro r w2 ⟨rfl, hB⟩
  replace hs2 := hs2.below hB
  replace BB := stRa BB hB
  clear hB
  by_cases n1 : szMas s.mail (szPes s.prs 1048576) < 0
  · go_wp2
    go_ret
    exact ⟨ret_int (by rw [HE.out]; omega), BB⟩
  · go_wp2
    go_ret
    exact ⟨ret_int HE.out.symm, BB⟩

set_option maxHeartbeats 4000000 in
theorem toRaft_k (s : Ra) (a0 a1 : Option Addr) (c0 c1 : Nat) (w : World) (hs : RaR w s a0 a1) (hl : RaB s) :
    Calls Try.prog 16 #[raV s a0 c0 a1 c1] w fun r w' => ∃ b0 b1, r = .returned (raV s b0 s.prs.length b1 s.mail.length) ∧ RaR w' s b0 b1 ∧ PesK w' b0 s.prs ∧ MasK w' b1 s.mail ∧ Below w.heap.size w w' := by
  have hb3 : ∀ x y z, Below w.heap.size w (((w.alloc x).alloc y).alloc z) := fun _ _ _ => (((Below.refl _ _).alloc (Nat.le_refl _) _).alloc (by simp) _).alloc (by simp; omega) _
  go_enter Try.func16, Try.ntmps16
  go_wp2_with fail
  refine (toPeerS_any _ _ _ _ (hs.prs.below (hb3 _ _ _)) hl.prs hl.prsI).mono ?_
  rintro r w1 ⟨s0, rfl, -, R0, hB⟩
  have HB : Below w.heap.size w w1 := (hb3 _ _ _).trans (hB.mono (hb3 _ _ _).size)
  have p0 : w1.cell? ⟨w.heap.size, 0, none⟩ = some (.slice a0 s.prs.length c0) := celB hB (by simp [go_sem])
  have p1 : w1.cell? ⟨w.heap.size, 1, none⟩ = some (.slice a1 s.mail.length c1) := celB hB (by simp [go_sem])
  have o0 : w1.cell? ⟨w.heap.size + 1 + 1, 0, none⟩ = some (.slice none 0 0) := celB hB (by simp [go_sem])
  have o1 : w1.cell? ⟨w.heap.size + 1 + 1, 1, none⟩ = some (.slice none 0 0) := celB hB (by simp [go_sem])
  have t0 : w1.cell? ⟨w.heap.size + 1, 0, none⟩ = some (.slice none 0 0) := celB hB (by simp [go_sem])
  have t1 : w1.cell? ⟨w.heap.size + 1, 1, none⟩ = some (.slice none 0 0) := celB hB (by simp [go_sem])
  have x0 : ∀ o, w1.frozen? ⟨w.heap.size, o, none⟩ = false := fun o => frzB hB (by simp; omega) (by simp [go_sem])
  have x1 : ∀ o, w1.frozen? ⟨w.heap.size + 1, o, none⟩ = false := fun o => frzB hB (by simp) (by simp [go_sem])
  have x2 : ∀ o, w1.frozen? ⟨w.heap.size + 1 + 1, o, none⟩ = false := fun o => frzB hB (by simp) (by simp [go_sem])
  have hz1 := hB.size
  simp only [World.size_alloc] at hz1 R0
  clear hB
  go_wp2_with fail
  obtain ⟨u1, hu⟩ : ∃ u, (w1.setCell ⟨w.heap.size + 1 + 1, 0, none⟩ (.slice s0 s.prs.length s.prs.length)) = u := ⟨_, rfl⟩
  rw [hu]
  have HS : Below w.heap.size w u1 := by rw [← hu]; exact HB.setCell (by first | (simp; done) | (simp; omega)) _
  replace p0 : u1.cell? ⟨w.heap.size, 0, none⟩ = some (.slice a0 s.prs.length c0) := by rw [← hu]; simp [go_sem, p0]
  replace p1 : u1.cell? ⟨w.heap.size, 1, none⟩ = some (.slice a1 s.mail.length c1) := by rw [← hu]; simp [go_sem, p1]
  replace o0 : u1.cell? ⟨w.heap.size + 1 + 1, 0, none⟩ = some (.slice s0 s.prs.length s.prs.length) := by rw [← hu]; simp [go_sem, o0]
  replace o1 : u1.cell? ⟨w.heap.size + 1 + 1, 1, none⟩ = some (.slice none 0 0) := by rw [← hu]; simp [go_sem, o1]
  replace t0 : u1.cell? ⟨w.heap.size + 1, 0, none⟩ = some (.slice none 0 0) := by rw [← hu]; simp [go_sem, t0]
  replace t1 : u1.cell? ⟨w.heap.size + 1, 1, none⟩ = some (.slice none 0 0) := by rw [← hu]; simp [go_sem, t1]
  replace x0 : ∀ o, u1.frozen? ⟨w.heap.size, o, none⟩ = false := fun o => by rw [← hu]; simp [go_sem, x0]
  replace x1 : ∀ o, u1.frozen? ⟨w.heap.size + 1, o, none⟩ = false := fun o => by rw [← hu]; simp [go_sem, x1]
  replace x2 : ∀ o, u1.frozen? ⟨w.heap.size + 1 + 1, o, none⟩ = false := fun o => by rw [← hu]; simp [go_sem, x2]
  replace hz1 : w.heap.size + 1 + 1 + 1 ≤ u1.heap.size := by rw [← hu]; simpa using hz1
  have R0' : PesA u1 (w.heap.size + 1 + 1 + 1) s0 s.prs := by rw [← hu]; exact R0.setR (by omega) _ _
  clear hu R0 HB
  refine (toMailS_any _ _ _ _ (hs.mail.below HS) hl.mail hl.mailI).mono ?_
  rintro r w2 ⟨s1, rfl, -, R1, hB⟩
  have R0 := R0'.below hB
  replace p0 := celB hB p0
  replace o0 := celB hB o0
  replace t0 := celB hB t0
  replace p1 := celB hB p1
  replace o1 := celB hB o1
  replace t1 := celB hB t1
  replace x0 := fun o => frzB (o := o) hB (by omega) (x0 o)
  replace x1 := fun o => frzB (o := o) hB (by omega) (x1 o)
  replace x2 := fun o => frzB (o := o) hB (by omega) (x2 o)
  replace R1 := R1.mono (B' := w.heap.size + 1 + 1 + 1) (by omega)
  have HB : Below w.heap.size w w2 := HS.trans (hB.mono HS.size)
  have hz2 : w.heap.size + 1 + 1 + 1 ≤ w2.heap.size := by have := hB.size; omega
  clear hB HS hz1 R0'
  go_wp2
  refine bodyPost_ret (v := raV s s0 s.prs.length s1 s.mail.length) (by simp [results, Try.results16, go_sem, t0, t1]) rfl ⟨_, _, rfl, ⟨?_, ?_⟩, ?_, ?_, ?_⟩
  · exact (((R0.setR (by omega) _ _).setR (by omega) _ _).setR (by omega) _ _).here
  · exact (((R1.setR (by omega) _ _).setR (by omega) _ _).setR (by omega) _ _).here
  · exact (((R0.setR (by omega) _ _).setR (by omega) _ _).setR (by omega) _ _).hereK
  · exact (((R1.setR (by omega) _ _).setR (by omega) _ _).setR (by omega) _ _).hereK
  · exact (((HB.setCell (by first | (simp; done) | (simp; omega)) _).setCell (by first | (simp; done) | (simp; omega)) _).setCell (by first | (simp; done) | (simp; omega)) _)

theorem toRaft_any (s : Ra) (a0 a1 : Option Addr) (c0 c1 : Nat) (w : World) (hs : RaR w s a0 a1) (hl : RaB s) :
    Calls Try.prog 16 #[raV s a0 c0 a1 c1] w fun r w' => ∃ b0 b1, r = .returned (raV s b0 s.prs.length b1 s.mail.length) ∧ RaR w' s b0 b1 ∧ Below w.heap.size w w' :=
  (toRaft_k s a0 a1 c0 c1 w hs hl).mono fun _ _ ⟨b0, b1, h1, h2, _, _, h3⟩ => ⟨b0, b1, h1, h2, h3⟩

set_option maxHeartbeats 2000000 in
theorem eqRaft_same (s : Ra) (a0 a1 b0 b1 : Option Addr) (c0 c1 d0 d1 : Nat) (w : World) (hs : RaR w s a0 a1) (ht : RaR w s b0 b1) (hl : RaL s) :
    Calls Try.prog 11 #[raV s a0 c0 a1 c1, raV s b0 d0 b1 d1] w fun r w' => r = .returned (.bool true) ∧ Below w.heap.size w w' := by
  have HB : ∀ x y, Below w.heap.size w ((w.alloc x).alloc y) := fun _ _ => ((Below.refl _ _).alloc (Nat.le_refl _) _).alloc (by simp) _
  go_enter Try.func11, Try.ntmps11
  go_wp2_with fail
  refine (eqPeerS_same _ _ _ _ _ _ (hs.prs.below (HB _ _)) (ht.prs.below (HB _ _)) hl.prs).mono ?_
  rintro r w1 ⟨rfl, hB⟩
  have p1 : w1.cell? ⟨w.heap.size, 1, none⟩ = some (.slice a1 s.mail.length c1) := celB hB (by simp [go_sem])
  have o1 : w1.cell? ⟨w.heap.size + 1, 1, none⟩ = some (.slice b1 s.mail.length d1) := celB hB (by simp [go_sem])
  have BB : Below w.heap.size w w1 := (HB _ _).trans (hB.mono (HB _ _).size)
  clear hB
  go_wp2_with fail
  refine (eqMailS_same _ _ _ _ _ _ (hs.mail.below BB) (ht.mail.below BB) hl.mail).mono ?_
  rintro r w2 ⟨rfl, hB⟩
  replace BB := stRa BB hB
  clear hB
  go_wp2
  go_ret
  exact ⟨rfl, BB⟩

theorem ra_keep {w w' : World} {b : Nat} {v0 v1 : Value} (hb : Below w.heap.size w w') (h : w.cell? ⟨b, 0, none⟩ = some v0 ∧ w.cell? ⟨b, 1, none⟩ = some v1) : w'.cell? ⟨b, 0, none⟩ = some v0 ∧ w'.cell? ⟨b, 1, none⟩ = some v1 := by
  obtain ⟨h0, h1⟩ := h
  exact ⟨celB hb h0, celB hb h1⟩

end Go.Proofs.Ytglncbhbeikclaa
