/-
  Control that is marked, whatever it holds. Made by mkweak.py.
-/
import Derived.Test.YtfehndedkffpfaaDoorCtl
import Derived.Test.YtfehndedkffpfaaDoorBrkW
import Derived.Test.YtfehndedkffpfaaDoorPrnW
namespace Go.Proofs.YtfehndedkffpfaaDoor
open Go.RowKit

/-- Its lists lie in rows that may be written, from B on and below H. -/
structure CtW (w : World) (B H : Nat) (s : Ct) (a0 a1 : Option Addr) : Prop where
  brks : RowBr w B a0 s.brks.length
  brksH : ∀ b, InI a0 s.brks.length b → b < H
  parts : PnW w B H a1 s.parts

theorem CtW.below {w w' : World} {B H : Nat} {s : Ct} {a0 a1 : Option Addr} (h : CtW w B H s a0 a1) (hb : Below w.heap.size w w') : CtW w' B H s a0 a1 :=
  ⟨h.brks.below hb, h.brksH, h.parts.below hb⟩

set_option maxHeartbeats 4000000 in
theorem toControl_wkk (s : Ct) (a0 a1 : Option Addr) (c0 c1 : Nat) (w : World) (hs : CtR w s a0 a1) (hl : CtB s) :
    Calls Tryd.prog 6 #[ctV s a0 c0 a1 c1] w fun r w' => ∃ b0 b1, r = .returned (ctV s b0 s.brks.length b1 s.parts.length) ∧ CtR w' s b0 b1 ∧ CtW w' w.heap.size w'.heap.size s b0 b1 ∧ PnsK w' b1 s.parts ∧ Below w.heap.size w w' := by
  have hb3 : ∀ x y z, Below w.heap.size w (((w.alloc x).alloc y).alloc z) := fun _ _ _ => (((Below.refl _ _).alloc (Nat.le_refl _) _).alloc (by simp) _).alloc (by simp; omega) _
  go_enter Tryd.func6, Tryd.ntmps6
  go_wp2_with fail
  refine (toBrokerS_row _ _ _ _ (hs.brks.below (hb3 _ _ _)) hl.brks).mono ?_
  rintro r w1 ⟨s0, rfl, H0, R0, hB⟩
  have HB : Below w.heap.size w w1 := (hb3 _ _ _).trans (hB.mono (hb3 _ _ _).size)
  have p0 : w1.cell? ⟨w.heap.size, 0, none⟩ = some (.slice a0 s.brks.length c0) := celB hB (by simp [go_sem])
  have p1 : w1.cell? ⟨w.heap.size, 1, none⟩ = some (.slice a1 s.parts.length c1) := celB hB (by simp [go_sem])
  have p2 : w1.cell? ⟨w.heap.size, 2, none⟩ = some (.int .i64 s.next) := celB hB (by simp [go_sem])
  have o0 : w1.cell? ⟨w.heap.size + 1 + 1, 0, none⟩ = some (.slice none 0 0) := celB hB (by simp [go_sem])
  have o1 : w1.cell? ⟨w.heap.size + 1 + 1, 1, none⟩ = some (.slice none 0 0) := celB hB (by simp [go_sem])
  have o2 : w1.cell? ⟨w.heap.size + 1 + 1, 2, none⟩ = some (.int .i64 0) := celB hB (by simp [go_sem])
  have t0 : w1.cell? ⟨w.heap.size + 1, 0, none⟩ = some (.slice none 0 0) := celB hB (by simp [go_sem])
  have t1 : w1.cell? ⟨w.heap.size + 1, 1, none⟩ = some (.slice none 0 0) := celB hB (by simp [go_sem])
  have t2 : w1.cell? ⟨w.heap.size + 1, 2, none⟩ = some (.int .i64 0) := celB hB (by simp [go_sem])
  have x0 : ∀ o, w1.frozen? ⟨w.heap.size, o, none⟩ = false := fun o => frzB hB (by simp; omega) (by simp [go_sem])
  have x1 : ∀ o, w1.frozen? ⟨w.heap.size + 1, o, none⟩ = false := fun o => frzB hB (by simp) (by simp [go_sem])
  have x2 : ∀ o, w1.frozen? ⟨w.heap.size + 1 + 1, o, none⟩ = false := fun o => frzB hB (by simp) (by simp [go_sem])
  have hz1 := hB.size
  simp only [World.size_alloc] at hz1 R0
  clear hB
  go_wp2_with fail
  obtain ⟨u1, hu⟩ : ∃ u, (w1.setCell ⟨w.heap.size + 1 + 1, 0, none⟩ (.slice s0 s.brks.length s.brks.length)) = u := ⟨_, rfl⟩
  rw [hu]
  have HS : Below w.heap.size w u1 := by rw [← hu]; exact HB.setCell (by first | (simp; done) | (simp; omega)) _
  replace p0 : u1.cell? ⟨w.heap.size, 0, none⟩ = some (.slice a0 s.brks.length c0) := by rw [← hu]; simp [go_sem, p0]
  replace p1 : u1.cell? ⟨w.heap.size, 1, none⟩ = some (.slice a1 s.parts.length c1) := by rw [← hu]; simp [go_sem, p1]
  replace p2 : u1.cell? ⟨w.heap.size, 2, none⟩ = some (.int .i64 s.next) := by rw [← hu]; simp [go_sem, p2]
  replace o0 : u1.cell? ⟨w.heap.size + 1 + 1, 0, none⟩ = some (.slice s0 s.brks.length s.brks.length) := by rw [← hu]; simp [go_sem, o0]
  replace o1 : u1.cell? ⟨w.heap.size + 1 + 1, 1, none⟩ = some (.slice none 0 0) := by rw [← hu]; simp [go_sem, o1]
  replace o2 : u1.cell? ⟨w.heap.size + 1 + 1, 2, none⟩ = some (.int .i64 0) := by rw [← hu]; simp [go_sem, o2]
  replace t0 : u1.cell? ⟨w.heap.size + 1, 0, none⟩ = some (.slice none 0 0) := by rw [← hu]; simp [go_sem, t0]
  replace t1 : u1.cell? ⟨w.heap.size + 1, 1, none⟩ = some (.slice none 0 0) := by rw [← hu]; simp [go_sem, t1]
  replace t2 : u1.cell? ⟨w.heap.size + 1, 2, none⟩ = some (.int .i64 0) := by rw [← hu]; simp [go_sem, t2]
  replace x0 : ∀ o, u1.frozen? ⟨w.heap.size, o, none⟩ = false := fun o => by rw [← hu]; simp [go_sem, x0]
  replace x1 : ∀ o, u1.frozen? ⟨w.heap.size + 1, o, none⟩ = false := fun o => by rw [← hu]; simp [go_sem, x1]
  replace x2 : ∀ o, u1.frozen? ⟨w.heap.size + 1 + 1, o, none⟩ = false := fun o => by rw [← hu]; simp [go_sem, x2]
  replace hz1 : w.heap.size + 1 + 1 + 1 ≤ u1.heap.size := by rw [← hu]; simpa using hz1
  have hzu : w1.heap.size ≤ u1.heap.size := by rw [← hu]; simp
  have H0' : Brs u1 s0 s.brks := by rw [← hu]; exact (H0.setR R0 (by omega) _ _)
  have R0' : RowBr u1 (w.heap.size + 1 + 1 + 1) s0 s.brks.length := by rw [← hu]; exact (R0.setR (by omega) _ _)
  clear hu H0 R0 HB
  refine (toPartitionS_wk _ _ _ _ (hs.parts.below HS) hl.parts hl.partsI).mono ?_
  rintro r w2 ⟨s1, rfl, -, R1, V1, hB⟩
  have H0 := H0'.below hB
  have R0 := R0'.below hB
  replace p0 := celB hB p0
  replace o0 := celB hB o0
  replace t0 := celB hB t0
  replace p1 := celB hB p1
  replace o1 := celB hB o1
  replace t1 := celB hB t1
  replace p2 := celB hB p2
  replace o2 := celB hB o2
  replace t2 := celB hB t2
  replace x0 := fun o => frzB (o := o) hB (by omega) (x0 o)
  replace x1 := fun o => frzB (o := o) hB (by omega) (x1 o)
  replace x2 := fun o => frzB (o := o) hB (by omega) (x2 o)
  replace R1 := R1.mono (B' := w.heap.size + 1 + 1 + 1) (by omega)
  replace V1 := V1.low (B' := w.heap.size + 1 + 1 + 1) (by omega)
  obtain ⟨h1, eh1⟩ : ∃ h, w2.heap.size = h := ⟨_, rfl⟩
  rw [eh1] at V1
  have hh1 : h1 ≤ w2.heap.size := by omega
  clear eh1
  have HB : Below w.heap.size w w2 := HS.trans (hB.mono HS.size)
  have hz2 : w.heap.size + 1 + 1 + 1 ≤ w2.heap.size := by have := hB.size; omega
  clear hB HS hz1 hzu H0' R0'
  go_wp2
  refine bodyPost_ret (v := ctV s s0 s.brks.length s1 s.parts.length) (by simp [results, Tryd.results6, go_sem, t0, t1, t2]) rfl ⟨_, _, rfl, ⟨?_, ?_⟩, ⟨?_, ?_, ?_⟩, ?_, ?_⟩
  · exact (((((H0.setR R0 (by omega) _ _).setR (R0.setR (by omega) _ _) (by omega) _ _).setR ((R0.setR (by omega) _ _).setR (by omega) _ _) (by omega) _ _).setR (((R0.setR (by omega) _ _).setR (by omega) _ _).setR (by omega) _ _) (by omega) _ _).setR ((((R0.setR (by omega) _ _).setR (by omega) _ _).setR (by omega) _ _).setR (by omega) _ _) (by omega) _ _)
  · exact (((((R1.setR (by omega) _ _).setR (by omega) _ _).setR (by omega) _ _).setR (by omega) _ _).setR (by omega) _ _).here
  · exact (((((R0.setR (by omega) _ _).setR (by omega) _ _).setR (by omega) _ _).setR (by omega) _ _).setR (by omega) _ _).mono (by omega)
  · exact fun b hb => ((((((R0.setR (by omega) _ _).setR (by omega) _ _).setR (by omega) _ _).setR (by omega) _ _).setR (by omega) _ _).lt hb).2
  · exact ((((((V1.setR (by omega) _ _).setR (by omega) _ _).setR (by omega) _ _).setR (by omega) _ _).setR (by omega) _ _).low (by omega)).high (by simpa using hh1)
  · exact (((((R1.setR (by omega) _ _).setR (by omega) _ _).setR (by omega) _ _).setR (by omega) _ _).setR (by omega) _ _).hereK
  · exact (((((HB.setCell (by first | (simp; done) | (simp; omega)) _).setCell (by first | (simp; done) | (simp; omega)) _).setCell (by first | (simp; done) | (simp; omega)) _).setCell (by first | (simp; done) | (simp; omega)) _).setCell (by first | (simp; done) | (simp; omega)) _)

theorem toControl_wk (s : Ct) (a0 a1 : Option Addr) (c0 c1 : Nat) (w : World) (hs : CtR w s a0 a1) (hl : CtB s) :
    Calls Tryd.prog 6 #[ctV s a0 c0 a1 c1] w fun r w' => ∃ b0 b1, r = .returned (ctV s b0 s.brks.length b1 s.parts.length) ∧ CtR w' s b0 b1 ∧ CtW w' w.heap.size w'.heap.size s b0 b1 ∧ Below w.heap.size w w' :=
  (toControl_wkk s a0 a1 c0 c1 w hs hl).mono fun _ _ ⟨b0, b1, h1, h2, h3, _, h4⟩ => ⟨b0, b1, h1, h2, h3, h4⟩

set_option maxRecDepth 100000 in
set_option maxHeartbeats 4000000 in
theorem markControl_wk (s : Ct) (B H k : Nat) (a0 a1 : Option Addr) (c0 c1 : Nat) (w : World) (h : CtW w B H s a0 a1) (hl : CtB s) (hBw : B ≤ w.heap.size) (hH : H ≤ w.heap.size) (hk : k ≤ 1000000) :
    Calls Tryd.prog 10 #[ctV s a0 c0 a1 c1, .int .i64 (k : Int)] w fun r w' => ∃ k' : Nat, r = .returned (.int .i64 (k' : Int)) ∧ Wk w w' B H := by
  have l0 := hl.brks
  have l1 := hl.parts
  obtain ⟨u0, hu0⟩ : ∃ u0, (w.alloc (.cells #[.slice a0 s.brks.length c0, .slice a1 s.parts.length c1, .int .i64 s.next] 33)) = u0 := ⟨_, rfl⟩
  have p0 : u0.cell? ⟨w.heap.size, 0, none⟩ = some (.slice a0 s.brks.length c0) := by rw [← hu0]; simp [go_sem]
  have p1 : u0.cell? ⟨w.heap.size, 1, none⟩ = some (.slice a1 s.parts.length c1) := by rw [← hu0]; simp [go_sem]
  have p2 : u0.cell? ⟨w.heap.size, 2, none⟩ = some (.int .i64 s.next) := by rw [← hu0]; simp [go_sem]
  have bB : Below w.heap.size w u0 := by rw [← hu0]; exact alCt _ _
  have h0 := h.below bB
  have HW : Hid (Wk u0 u0 B H) := Wk.refl _ _ _
  have hz0 : w.heap.size < u0.heap.size := by rw [← hu0]; simp
  clear h
  have g1 := h0.parts
  go_enter Tryd.func10, Tryd.ntmps10
  go_wp2_with fail
  clear hu0
  have rw0 := h0.brks.kps HW.out.kps
  refine (markBrokerS_wk _ _ s.brks.length B k _ rw0 (by omega)).mono ?_
  rintro r w1 ⟨rfl, hB, hK, hO⟩
  have X : Wk u0 w1 B H := Wk.of_mark hB hK hO h0.brksH
  have Y : Typ [44] u0 w1 := Typ.of_row hO (rw0.typ (by simp))
  replace p1 := X.cell (.inr hH) p1
  replace p2 := X.cell (.inr hH) p2
  replace g1 := g1.typ X.kps Y (by simp)
  replace HW : Hid (Wk u0 w1 B H) := HW.out.trans X
  clear hB hK hO X Y rw0
  obtain ⟨K0, hK0⟩ : ∃ K, k + 3 * s.brks.length = K := ⟨_, rfl⟩
  rw [hK0]
  go_wp2_with fail
  refine (markPartitionS_wk _ _ B H K0 s.parts _ (g1) hl.partsI (by omega)).mono ?_
  rintro r w2 ⟨K1, rfl, hK1, X, Y⟩
  replace p2 := X.cell (.inr hH) p2
  replace HW : Hid (Wk u0 w2 B H) := HW.out.trans X
  clear X Y g1
  have HF : Hid (Wk w w2 B H) := ⟨(bB.mono hBw).trans HW.out.bel, fun b h1 h2 => (HW.out.out b h1 (by have := bB.size; omega)).trans (bB.block b h2), (Kps.below bB).trans HW.out.kps⟩
  clear HW
  go_wp2
  go_ret
  exact ⟨K1, rfl, HF.out⟩

end Go.Proofs.YtfehndedkffpfaaDoor
