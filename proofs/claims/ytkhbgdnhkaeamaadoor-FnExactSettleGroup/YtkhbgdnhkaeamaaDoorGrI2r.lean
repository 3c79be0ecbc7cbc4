/-
  Groups, the program's side: impl.replicaOf.
-/
import Derived.Test.YtkhbgdnhkaeamaaDoorGrI2
namespace Go.Proofs.YtkhbgdnhkaeamaaDoor
open Go.RowKit

set_option maxRecDepth 100000 in
set_option maxHeartbeats 4000000 in
theorem replicaOf_any (s : Gr) (f k : Nat) (lg : List Rw) (p : Rp) (a0 a1 : Option Addr) (c0 c1 : Nat) (w : World) (hs : GrR w s a0 a1) (hf : s.leader = f) (hfn : f < s.reps.length) (hk : k < s.reps.length) (_hl : s.reps.length ≤ 1000000) (hlg : (rpA s.reps f).log = lg) (hp : rpA s.reps k = p) :
    Calls Tryd.prog 70 #[grV s a0 c0 a1 c1, .int .i64 (k : Int)] w fun e w' => ∃ rb kb r0 k0, e = .returned (riV s.epoch lg rb kb p r0 k0) ∧ Rws w rb lg ∧ lg.length ≤ maxLen ∧ Rws w r0 p.log ∧ p.log.length ≤ maxLen ∧ Below w.heap.size w w' := by
  obtain ⟨kl, ol, ea, rb, kb, d0, -, -, zb, mb⟩ := hs.reps f _ (rpA_get hfn)
  obtain ⟨kb', ob', eb, r0, k0, e0, e1, e2, z0, m0⟩ := hs.reps k _ (rpA_get hk)
  subst ea
  simp only [Option.some.injEq, Addr.mk.injEq, and_true] at eb
  obtain ⟨rfl, rfl⟩ := eb
  rw [hlg] at d0 zb mb
  rw [hp] at e0 e1 e2 z0 m0
  have hfi : (f : Int) < (s.reps.length : Int) := by omega
  have hki : (k : Int) < (s.reps.length : Int) := by omega
  unfold grV
  rw [hf]
  have HB : ∀ x y, Below w.heap.size w ((w.alloc x).alloc y) := fun _ _ => ((Below.refl _ _).alloc (Nat.le_refl _) _).alloc (by simp) _
  have D0 : ∀ x y, ((w.alloc x).alloc y).cell? ⟨kl, ol + f * 3, none⟩ = some (.slice rb lg.length kb) := fun x y => celB (HB x y) d0
  have E0 : ∀ x y, ((w.alloc x).alloc y).cell? ⟨kl, ol + k * 3, none⟩ = some (.slice r0 p.log.length k0) := fun x y => celB (HB x y) e0
  have E1 : ∀ x y, ((w.alloc x).alloc y).cell? ⟨kl, ol + k * 3 + 1, none⟩ = some (.int .i64 p.epoch) := fun x y => celB (HB x y) e1
  have E2 : ∀ x y, ((w.alloc x).alloc y).cell? ⟨kl, ol + k * 3 + 2, none⟩ = some (.int .i64 p.known) := fun x y => celB (HB x y) e2
  clear d0 e0 e1 e2 hf hlg hp hs
  go_enter Tryd.func70, Tryd.ntmps70
  go_wp2
  go_region
  go_wp2
  refine bodyPost_ret (v := riV s.epoch lg rb kb p r0 k0) (by simp [results, Tryd.results70, go_sem]) rfl ⟨rb, kb, r0, k0, rfl, zb, mb, z0, m0, (HB _ _).drew⟩

end Go.Proofs.YtkhbgdnhkaeamaaDoor
