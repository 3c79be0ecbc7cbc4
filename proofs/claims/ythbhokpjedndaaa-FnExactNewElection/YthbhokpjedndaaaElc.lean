/-
  Election as a call reads it, and the contracts of the laws' helpers szElection, toElection, eqElection. Made by mktop.py.
-/
import Derived.Test.YthbhokpjedndaaaSrv
import Derived.Test.YthbhokpjedndaaaLtr
import Derived.Test.YthbhokpjedndaaaVte
namespace Go.Proofs.Ythbhokpjedndaaa
open Go.RowKit

structure El where
  svs : List Sv
  post : List Lt
  led : List Vt

abbrev elV (s : El) (a0 : Option Addr) (c0 : Nat) (a1 : Option Addr) (c1 : Nat) (a2 : Option Addr) (c2 : Nat) : Value :=
  .agg #[.slice a0 s.svs.length c0, .slice a1 s.post.length c1, .slice a2 s.led.length c2]

/-- Its lists read so. -/
structure ElR (w : World) (s : El) (a0 a1 a2 : Option Addr) : Prop where
  svs : Svs w a0 s.svs
  post : Lts w a1 s.post
  led : Vts w a2 s.led

theorem ElR.below {w w' : World} {s : El} {a0 a1 a2 : Option Addr} (h : ElR w s a0 a1 a2) (hb : Below w.heap.size w w') : ElR w' s a0 a1 a2 :=
  ⟨h.svs.below hb, h.post.below hb, h.led.below hb⟩

structure ElL (s : El) : Prop where
  svs : s.svs.length ≤ maxLen
  post : s.post.length ≤ maxLen
  led : s.led.length ≤ maxLen

structure ElB (s : El) : Prop where
  svs : s.svs.length ≤ 1048576
  svsI : ∀ c, c ∈ s.svs → c.got.length ≤ 1048576 ∧ c.log.length ≤ 1048576
  post : s.post.length ≤ 1048576
  led : s.led.length ≤ 1048576

theorem ElB.len {s : El} (h : ElB s) : ElL s := by
  have h0 := h.svs
  have h1 := h.post
  have h2 := h.led
  exact ⟨by unfold maxLen; omega, by unfold maxLen; omega, by unfold maxLen; omega⟩

def szEl (s : El) : Int := if szSvs s.svs 1048576 < 0 then -1 else if szN s.post.length (szSvs s.svs 1048576) < 0 then -1 else szN s.led.length (szN s.post.length (szSvs s.svs 1048576))

theorem szEl_range (s : El) : -1 ≤ szEl s ∧ szEl s ≤ 1048576 := by
  unfold szEl
  have e0 := szSvs_range s.svs (left := 1048576) (by omega)
  split
  · omega
  have e1 := szN_range s.post.length (left := (szSvs s.svs 1048576)) (by omega)
  split
  · omega
  have e2 := szN_range s.led.length (left := (szN s.post.length (szSvs s.svs 1048576))) (by omega)
  omega

theorem szEl_bound {s : El} (h : 0 ≤ szEl s) : ElB s := by
  unfold szEl at h
  have e0 := szSvs_range s.svs (left := 1048576) (by omega)
  split at h
  · omega
  obtain ⟨b0, g0⟩ := szSvs_bound (l := s.svs) (left := 1048576) (by omega) (by omega)
  have e1 := szN_range s.post.length (left := (szSvs s.svs 1048576)) (by omega)
  split at h
  · omega
  have b1 := szN_bound (n := s.post.length) (left := (szSvs s.svs 1048576)) (by omega)
  have e2 := szN_range s.led.length (left := (szN s.post.length (szSvs s.svs 1048576))) (by omega)
  have b2 := szN_bound (n := s.led.length) (left := (szN s.post.length (szSvs s.svs 1048576))) (by omega)
  exact ⟨by omega, g0, by omega, by omega⟩

theorem alEl (u : World) (o : Obj) : Below u.heap.size u (u.alloc o) := (Below.refl _ _).alloc (Nat.le_refl _) o

theorem stEl {W a b : World} (h : Below W.heap.size W a) (k : Below a.heap.size a b) : Below W.heap.size W b := h.trans (k.mono h.size)

set_option maxHeartbeats 2000000 in
theorem eqElection_same (s : El) (a0 a1 a2 b0 b1 b2 : Option Addr) (c0 c1 c2 d0 d1 d2 : Nat) (w : World) (hs : ElR w s a0 a1 a2) (ht : ElR w s b0 b1 b2) (hl : ElL s) :
    Calls Try.prog 14 #[elV s a0 c0 a1 c1 a2 c2, elV s b0 d0 b1 d1 b2 d2] w fun r w' => r = .returned (.bool true) ∧ Below w.heap.size w w' := by
  have HB : ∀ x y, Below w.heap.size w ((w.alloc x).alloc y) := fun _ _ => ((Below.refl _ _).alloc (Nat.le_refl _) _).alloc (by simp) _
  go_enter Try.func14, Try.ntmps14
  go_wp2_with fail
  refine (eqServerS_same _ _ _ _ _ _ (hs.svs.below (HB _ _)) (ht.svs.below (HB _ _)) hl.svs).mono ?_
  rintro r w1 ⟨rfl, hB⟩
  have p1 : w1.cell? ⟨w.heap.size, 1, none⟩ = some (.slice a1 s.post.length c1) := celB hB (by simp [go_sem])
  have o1 : w1.cell? ⟨w.heap.size + 1, 1, none⟩ = some (.slice b1 s.post.length d1) := celB hB (by simp [go_sem])
  have p2 : w1.cell? ⟨w.heap.size, 2, none⟩ = some (.slice a2 s.led.length c2) := celB hB (by simp [go_sem])
  have o2 : w1.cell? ⟨w.heap.size + 1, 2, none⟩ = some (.slice b2 s.led.length d2) := celB hB (by simp [go_sem])
  have BB : Below w.heap.size w w1 := (HB _ _).trans (hB.mono (HB _ _).size)
  clear hB
  go_wp2_with fail
  refine (eqLetterS_same _ _ _ _ _ _ (hs.post.below BB) (ht.post.below BB) hl.post).mono ?_
  rintro r w2 ⟨rfl, hB⟩
  replace p2 := celB hB p2
  replace o2 := celB hB o2
  replace BB := stEl BB hB
  clear hB
  go_wp2_with fail
  refine (eqVoteS_same _ _ _ _ _ _ (hs.led.below BB) (ht.led.below BB) hl.led).mono ?_
  rintro r w3 ⟨rfl, hB⟩
  replace BB := stEl BB hB
  clear hB
  go_wp2
  go_ret
  exact ⟨rfl, BB⟩

theorem el_keep {w w' : World} {b : Nat} {v0 v1 v2 : Value} (hb : Below w.heap.size w w') (h : w.cell? ⟨b, 0, none⟩ = some v0 ∧ w.cell? ⟨b, 1, none⟩ = some v1 ∧ w.cell? ⟨b, 2, none⟩ = some v2) : w'.cell? ⟨b, 0, none⟩ = some v0 ∧ w'.cell? ⟨b, 1, none⟩ = some v1 ∧ w'.cell? ⟨b, 2, none⟩ = some v2 := by
  obtain ⟨h0, h1, h2⟩ := h
  exact ⟨celB hb h0, celB hb h1, celB hb h2⟩

end Go.Proofs.Ythbhokpjedndaaa
