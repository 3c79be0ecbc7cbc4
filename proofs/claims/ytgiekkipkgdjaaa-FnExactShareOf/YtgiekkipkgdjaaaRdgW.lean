/-
  Readers that is marked, whatever it holds. Made by mkweak.py.
-/
import Derived.Test.YtgiekkipkgdjaaaRdg
import Derived.Test.YtgiekkipkgdjaaaRdrW
namespace Go.Proofs.Ytgiekkipkgdjaaa
open Go.RowKit

/-- Its lists lie in rows that may be written, from B on and below H. -/
structure RgW (w : World) (B H : Nat) (s : Rg) (a0 a1 a2 : Option Addr) : Prop where
  rds : RxW w B H a0 s.rds
  com : RowI w B a1 s.com.length
  comH : ∀ b, InI a1 s.com.length b → b < H
  ends : RowI w B a2 s.ends.length
  endsH : ∀ b, InI a2 s.ends.length b → b < H

theorem RgW.below {w w' : World} {B H : Nat} {s : Rg} {a0 a1 a2 : Option Addr} (h : RgW w B H s a0 a1 a2) (hb : Below w.heap.size w w') : RgW w' B H s a0 a1 a2 :=
  ⟨h.rds.below hb, h.com.below hb, h.comH, h.ends.below hb, h.endsH⟩

set_option maxHeartbeats 4000000 in
theorem toReaders_wkk (s : Rg) (a0 a1 a2 : Option Addr) (c0 c1 c2 : Nat) (w : World) (hs : RgR w s a0 a1 a2) (hl : RgB s) :
    Calls Try.prog 20 #[rgV s a0 c0 a1 c1 a2 c2] w fun r w' => ∃ b0 b1 b2, r = .returned (rgV s b0 s.rds.length b1 s.com.length b2 s.ends.length) ∧ RgR w' s b0 b1 b2 ∧ RgW w' w.heap.size w'.heap.size s b0 b1 b2 ∧ RxsK w' b0 s.rds ∧ Below w.heap.size w w' := by
  have hb3 : ∀ x y z, Below w.heap.size w (((w.alloc x).alloc y).alloc z) := fun _ _ _ => (((Below.refl _ _).alloc (Nat.le_refl _) _).alloc (by simp) _).alloc (by simp; omega) _
  go_enter Try.func20, Try.ntmps20
  go_wp2_with fail
  refine (toReaderS_wk _ _ _ _ (hs.rds.below (hb3 _ _ _)) hl.rds hl.rdsI).mono ?_
  rintro r w1 ⟨s1, rfl, -, R1, V1, hB⟩
  have HB : Below w.heap.size w w1 := (hb3 _ _ _).trans (hB.mono (hb3 _ _ _).size)
  have p0 : w1.cell? ⟨w.heap.size, 0, none⟩ = some (.int .i64 s.gen) := celB hB (by simp [go_sem])
  have p1 : w1.cell? ⟨w.heap.size, 1, none⟩ = some (.slice a0 s.rds.length c0) := celB hB (by simp [go_sem])
  have p2 : w1.cell? ⟨w.heap.size, 2, none⟩ = some (.slice a1 s.com.length c1) := celB hB (by simp [go_sem])
  have p3 : w1.cell? ⟨w.heap.size, 3, none⟩ = some (.slice a2 s.ends.length c2) := celB hB (by simp [go_sem])
  have o0 : w1.cell? ⟨w.heap.size + 1 + 1, 0, none⟩ = some (.int .i64 s.gen) := celB hB (by simp [go_sem])
  have o1 : w1.cell? ⟨w.heap.size + 1 + 1, 1, none⟩ = some (.slice none 0 0) := celB hB (by simp [go_sem])
  have o2 : w1.cell? ⟨w.heap.size + 1 + 1, 2, none⟩ = some (.slice none 0 0) := celB hB (by simp [go_sem])
  have o3 : w1.cell? ⟨w.heap.size + 1 + 1, 3, none⟩ = some (.slice none 0 0) := celB hB (by simp [go_sem])
  have t0 : w1.cell? ⟨w.heap.size + 1, 0, none⟩ = some (.int .i64 0) := celB hB (by simp [go_sem])
  have t1 : w1.cell? ⟨w.heap.size + 1, 1, none⟩ = some (.slice none 0 0) := celB hB (by simp [go_sem])
  have t2 : w1.cell? ⟨w.heap.size + 1, 2, none⟩ = some (.slice none 0 0) := celB hB (by simp [go_sem])
  have t3 : w1.cell? ⟨w.heap.size + 1, 3, none⟩ = some (.slice none 0 0) := celB hB (by simp [go_sem])
  have x0 : ∀ o, w1.frozen? ⟨w.heap.size, o, none⟩ = false := fun o => frzB hB (by simp; omega) (by simp [go_sem])
  have x1 : ∀ o, w1.frozen? ⟨w.heap.size + 1, o, none⟩ = false := fun o => frzB hB (by simp) (by simp [go_sem])
  have x2 : ∀ o, w1.frozen? ⟨w.heap.size + 1 + 1, o, none⟩ = false := fun o => frzB hB (by simp) (by simp [go_sem])
  have hz1 := hB.size
  simp only [World.size_alloc] at hz1 R1 V1
  clear hB
  obtain ⟨h1, eh1⟩ : ∃ h, w1.heap.size = h := ⟨_, rfl⟩
  rw [eh1] at V1
  have hh1 : h1 ≤ w1.heap.size := by omega
  clear eh1
  go_wp2_with fail
  obtain ⟨u1, hu⟩ : ∃ u, (w1.setCell ⟨w.heap.size + 1 + 1, 1, none⟩ (.slice s1 s.rds.length s.rds.length)) = u := ⟨_, rfl⟩
  rw [hu]
  have HS : Below w.heap.size w u1 := by rw [← hu]; exact HB.setCell (by first | (simp; done) | (simp; omega)) _
  replace p0 : u1.cell? ⟨w.heap.size, 0, none⟩ = some (.int .i64 s.gen) := by rw [← hu]; simp [go_sem, p0]
  replace p1 : u1.cell? ⟨w.heap.size, 1, none⟩ = some (.slice a0 s.rds.length c0) := by rw [← hu]; simp [go_sem, p1]
  replace p2 : u1.cell? ⟨w.heap.size, 2, none⟩ = some (.slice a1 s.com.length c1) := by rw [← hu]; simp [go_sem, p2]
  replace p3 : u1.cell? ⟨w.heap.size, 3, none⟩ = some (.slice a2 s.ends.length c2) := by rw [← hu]; simp [go_sem, p3]
  replace o0 : u1.cell? ⟨w.heap.size + 1 + 1, 0, none⟩ = some (.int .i64 s.gen) := by rw [← hu]; simp [go_sem, o0]
  replace o1 : u1.cell? ⟨w.heap.size + 1 + 1, 1, none⟩ = some (.slice s1 s.rds.length s.rds.length) := by rw [← hu]; simp [go_sem, o1]
  replace o2 : u1.cell? ⟨w.heap.size + 1 + 1, 2, none⟩ = some (.slice none 0 0) := by rw [← hu]; simp [go_sem, o2]
  replace o3 : u1.cell? ⟨w.heap.size + 1 + 1, 3, none⟩ = some (.slice none 0 0) := by rw [← hu]; simp [go_sem, o3]
  replace t0 : u1.cell? ⟨w.heap.size + 1, 0, none⟩ = some (.int .i64 0) := by rw [← hu]; simp [go_sem, t0]
  replace t1 : u1.cell? ⟨w.heap.size + 1, 1, none⟩ = some (.slice none 0 0) := by rw [← hu]; simp [go_sem, t1]
  replace t2 : u1.cell? ⟨w.heap.size + 1, 2, none⟩ = some (.slice none 0 0) := by rw [← hu]; simp [go_sem, t2]
  replace t3 : u1.cell? ⟨w.heap.size + 1, 3, none⟩ = some (.slice none 0 0) := by rw [← hu]; simp [go_sem, t3]
  replace x0 : ∀ o, u1.frozen? ⟨w.heap.size, o, none⟩ = false := fun o => by rw [← hu]; simp [go_sem, x0]
  replace x1 : ∀ o, u1.frozen? ⟨w.heap.size + 1, o, none⟩ = false := fun o => by rw [← hu]; simp [go_sem, x1]
  replace x2 : ∀ o, u1.frozen? ⟨w.heap.size + 1 + 1, o, none⟩ = false := fun o => by rw [← hu]; simp [go_sem, x2]
  replace hz1 : w.heap.size + 1 + 1 + 1 ≤ u1.heap.size := by rw [← hu]; simpa using hz1
  have hzu : w1.heap.size ≤ u1.heap.size := by rw [← hu]; simp
  have R1' : RxsA u1 (w.heap.size + 1 + 1 + 1) s1 s.rds := by rw [← hu]; exact (R1.setR (by omega) _ _)
  have V1' : RxW u1 (w.heap.size + 1 + 1 + 1) h1 s1 s.rds := by rw [← hu]; exact (V1.setR (by omega) _ _)
  clear hu R1 V1 HB
  refine (toIntS_any _ _ _ _ (hs.com.below HS) hl.com).mono ?_
  rintro r w2 ⟨s2, rfl, H2, R2, hB⟩
  have R1 := R1'.below hB
  have V1 := V1'.below hB
  replace p0 := celB hB p0
  replace o0 := celB hB o0
  replace t0 := celB hB t0
  replace p1 := celB hB p1
  replace o1 := celB hB o1
  replace t1 := celB hB t1
  replace p2 := celB hB p2
  replace o2 := celB hB o2
  replace t2 := celB hB t2
  replace p3 := celB hB p3
  replace o3 := celB hB o3
  replace t3 := celB hB t3
  replace x0 := fun o => frzB (o := o) hB (by omega) (x0 o)
  replace x1 := fun o => frzB (o := o) hB (by omega) (x1 o)
  replace x2 := fun o => frzB (o := o) hB (by omega) (x2 o)
  replace R2 := R2.mono (B' := w.heap.size + 1 + 1 + 1) (by omega)
  have HB : Below w.heap.size w w2 := HS.trans (hB.mono HS.size)
  have hz2 : w.heap.size + 1 + 1 + 1 ≤ w2.heap.size := by have := hB.size; omega
  replace hh1 : h1 ≤ w2.heap.size := by have := hB.size; omega
  clear hB HS hz1 hzu R1' V1'
  go_wp2_with fail
  obtain ⟨u2, hu⟩ : ∃ u, (w2.setCell ⟨w.heap.size + 1 + 1, 2, none⟩ (.slice s2 s.com.length s.com.length)) = u := ⟨_, rfl⟩
  rw [hu]
  have HS : Below w.heap.size w u2 := by rw [← hu]; exact HB.setCell (by first | (simp; done) | (simp; omega)) _
  replace p0 : u2.cell? ⟨w.heap.size, 0, none⟩ = some (.int .i64 s.gen) := by rw [← hu]; simp [go_sem, p0]
  replace p1 : u2.cell? ⟨w.heap.size, 1, none⟩ = some (.slice a0 s.rds.length c0) := by rw [← hu]; simp [go_sem, p1]
  replace p2 : u2.cell? ⟨w.heap.size, 2, none⟩ = some (.slice a1 s.com.length c1) := by rw [← hu]; simp [go_sem, p2]
  replace p3 : u2.cell? ⟨w.heap.size, 3, none⟩ = some (.slice a2 s.ends.length c2) := by rw [← hu]; simp [go_sem, p3]
  replace o0 : u2.cell? ⟨w.heap.size + 1 + 1, 0, none⟩ = some (.int .i64 s.gen) := by rw [← hu]; simp [go_sem, o0]
  replace o1 : u2.cell? ⟨w.heap.size + 1 + 1, 1, none⟩ = some (.slice s1 s.rds.length s.rds.length) := by rw [← hu]; simp [go_sem, o1]
  replace o2 : u2.cell? ⟨w.heap.size + 1 + 1, 2, none⟩ = some (.slice s2 s.com.length s.com.length) := by rw [← hu]; simp [go_sem, o2]
  replace o3 : u2.cell? ⟨w.heap.size + 1 + 1, 3, none⟩ = some (.slice none 0 0) := by rw [← hu]; simp [go_sem, o3]
  replace t0 : u2.cell? ⟨w.heap.size + 1, 0, none⟩ = some (.int .i64 0) := by rw [← hu]; simp [go_sem, t0]
  replace t1 : u2.cell? ⟨w.heap.size + 1, 1, none⟩ = some (.slice none 0 0) := by rw [← hu]; simp [go_sem, t1]
  replace t2 : u2.cell? ⟨w.heap.size + 1, 2, none⟩ = some (.slice none 0 0) := by rw [← hu]; simp [go_sem, t2]
  replace t3 : u2.cell? ⟨w.heap.size + 1, 3, none⟩ = some (.slice none 0 0) := by rw [← hu]; simp [go_sem, t3]
  replace x0 : ∀ o, u2.frozen? ⟨w.heap.size, o, none⟩ = false := fun o => by rw [← hu]; simp [go_sem, x0]
  replace x1 : ∀ o, u2.frozen? ⟨w.heap.size + 1, o, none⟩ = false := fun o => by rw [← hu]; simp [go_sem, x1]
  replace x2 : ∀ o, u2.frozen? ⟨w.heap.size + 1 + 1, o, none⟩ = false := fun o => by rw [← hu]; simp [go_sem, x2]
  replace hz2 : w.heap.size + 1 + 1 + 1 ≤ u2.heap.size := by rw [← hu]; simpa using hz2
  have hzu : w2.heap.size ≤ u2.heap.size := by rw [← hu]; simp
  have R1' : RxsA u2 (w.heap.size + 1 + 1 + 1) s1 s.rds := by rw [← hu]; exact (R1.setR (by omega) _ _)
  have V1' : RxW u2 (w.heap.size + 1 + 1 + 1) h1 s1 s.rds := by rw [← hu]; exact (V1.setR (by omega) _ _)
  have H2' : Ints u2 s2 s.com := by rw [← hu]; exact (H2.setR R2 (by omega) _ _)
  have R2' : RowI u2 (w.heap.size + 1 + 1 + 1) s2 s.com.length := by rw [← hu]; exact (R2.setR (by omega) _ _)
  clear hu R1 V1 H2 R2 HB
  refine (toIntS_any _ _ _ _ (hs.ends.below HS) hl.ends).mono ?_
  rintro r w3 ⟨s3, rfl, H3, R3, hB⟩
  have R1 := R1'.below hB
  have V1 := V1'.below hB
  have H2 := H2'.below hB
  have R2 := R2'.below hB
  replace p0 := celB hB p0
  replace o0 := celB hB o0
  replace t0 := celB hB t0
  replace p1 := celB hB p1
  replace o1 := celB hB o1
  replace t1 := celB hB t1
  replace p2 := celB hB p2
  replace o2 := celB hB o2
  replace t2 := celB hB t2
  replace p3 := celB hB p3
  replace o3 := celB hB o3
  replace t3 := celB hB t3
  replace x0 := fun o => frzB (o := o) hB (by omega) (x0 o)
  replace x1 := fun o => frzB (o := o) hB (by omega) (x1 o)
  replace x2 := fun o => frzB (o := o) hB (by omega) (x2 o)
  replace R3 := R3.mono (B' := w.heap.size + 1 + 1 + 1) (by omega)
  have HB : Below w.heap.size w w3 := HS.trans (hB.mono HS.size)
  have hz3 : w.heap.size + 1 + 1 + 1 ≤ w3.heap.size := by have := hB.size; omega
  replace hh1 : h1 ≤ w3.heap.size := by have := hB.size; omega
  clear hB HS hz2 hzu R1' V1' H2' R2'
  go_wp2
  refine bodyPost_ret (v := rgV s s1 s.rds.length s2 s.com.length s3 s.ends.length) (by simp [results, Try.results20, go_sem, t0, t1, t2, t3]) rfl ⟨_, _, _, rfl, ⟨?_, ?_, ?_⟩, ⟨?_, ?_, ?_, ?_, ?_⟩, ?_, ?_⟩
  · exact (((((R1.setR (by omega) _ _).setR (by omega) _ _).setR (by omega) _ _).setR (by omega) _ _).setR (by omega) _ _).here
  · exact (((((H2.setR R2 (by omega) _ _).setR (R2.setR (by omega) _ _) (by omega) _ _).setR ((R2.setR (by omega) _ _).setR (by omega) _ _) (by omega) _ _).setR (((R2.setR (by omega) _ _).setR (by omega) _ _).setR (by omega) _ _) (by omega) _ _).setR ((((R2.setR (by omega) _ _).setR (by omega) _ _).setR (by omega) _ _).setR (by omega) _ _) (by omega) _ _)
  · exact (((((H3.setR R3 (by omega) _ _).setR (R3.setR (by omega) _ _) (by omega) _ _).setR ((R3.setR (by omega) _ _).setR (by omega) _ _) (by omega) _ _).setR (((R3.setR (by omega) _ _).setR (by omega) _ _).setR (by omega) _ _) (by omega) _ _).setR ((((R3.setR (by omega) _ _).setR (by omega) _ _).setR (by omega) _ _).setR (by omega) _ _) (by omega) _ _)
  · exact ((((((V1.setR (by omega) _ _).setR (by omega) _ _).setR (by omega) _ _).setR (by omega) _ _).setR (by omega) _ _).low (by omega)).high (by simpa using hh1)
  · exact (((((R2.setR (by omega) _ _).setR (by omega) _ _).setR (by omega) _ _).setR (by omega) _ _).setR (by omega) _ _).mono (by omega)
  · exact fun b hb => ((((((R2.setR (by omega) _ _).setR (by omega) _ _).setR (by omega) _ _).setR (by omega) _ _).setR (by omega) _ _).lt hb).2
  · exact (((((R3.setR (by omega) _ _).setR (by omega) _ _).setR (by omega) _ _).setR (by omega) _ _).setR (by omega) _ _).mono (by omega)
  · exact fun b hb => ((((((R3.setR (by omega) _ _).setR (by omega) _ _).setR (by omega) _ _).setR (by omega) _ _).setR (by omega) _ _).lt hb).2
  · exact (((((R1.setR (by omega) _ _).setR (by omega) _ _).setR (by omega) _ _).setR (by omega) _ _).setR (by omega) _ _).hereK
  · exact (((((HB.setCell (by first | (simp; done) | (simp; omega)) _).setCell (by first | (simp; done) | (simp; omega)) _).setCell (by first | (simp; done) | (simp; omega)) _).setCell (by first | (simp; done) | (simp; omega)) _).setCell (by first | (simp; done) | (simp; omega)) _)

theorem toReaders_wk (s : Rg) (a0 a1 a2 : Option Addr) (c0 c1 c2 : Nat) (w : World) (hs : RgR w s a0 a1 a2) (hl : RgB s) :
    Calls Try.prog 20 #[rgV s a0 c0 a1 c1 a2 c2] w fun r w' => ∃ b0 b1 b2, r = .returned (rgV s b0 s.rds.length b1 s.com.length b2 s.ends.length) ∧ RgR w' s b0 b1 b2 ∧ RgW w' w.heap.size w'.heap.size s b0 b1 b2 ∧ Below w.heap.size w w' :=
  (toReaders_wkk s a0 a1 a2 c0 c1 c2 w hs hl).mono fun _ _ ⟨b0, b1, b2, h1, h2, h3, _, h4⟩ => ⟨b0, b1, b2, h1, h2, h3, h4⟩

set_option maxRecDepth 100000 in
set_option maxHeartbeats 4000000 in
theorem markReaders_wk (s : Rg) (B H k : Nat) (a0 a1 a2 : Option Addr) (c0 c1 c2 : Nat) (w : World) (h : RgW w B H s a0 a1 a2) (hl : RgB s) (hBw : B ≤ w.heap.size) (hH : H ≤ w.heap.size) (hk : k ≤ 1000000) :
    Calls Try.prog 16 #[rgV s a0 c0 a1 c1 a2 c2, .int .i64 (k : Int)] w fun r w' => ∃ k' : Nat, r = .returned (.int .i64 (k' : Int)) ∧ Wk w w' B H := by
  have l0 := hl.rds
  have l1 := hl.com
  have l2 := hl.ends
  obtain ⟨u0, hu0⟩ : ∃ u0, (w.alloc (.cells #[.int .i64 s.gen, .slice a0 s.rds.length c0, .slice a1 s.com.length c1, .slice a2 s.ends.length c2] 25)) = u0 := ⟨_, rfl⟩
  have p0 : u0.cell? ⟨w.heap.size, 0, none⟩ = some (.int .i64 s.gen) := by rw [← hu0]; simp [go_sem]
  have p1 : u0.cell? ⟨w.heap.size, 1, none⟩ = some (.slice a0 s.rds.length c0) := by rw [← hu0]; simp [go_sem]
  have p2 : u0.cell? ⟨w.heap.size, 2, none⟩ = some (.slice a1 s.com.length c1) := by rw [← hu0]; simp [go_sem]
  have p3 : u0.cell? ⟨w.heap.size, 3, none⟩ = some (.slice a2 s.ends.length c2) := by rw [← hu0]; simp [go_sem]
  have bB : Below w.heap.size w u0 := by rw [← hu0]; exact alRg _ _
  have h0 := h.below bB
  have HW : Hid (Wk u0 u0 B H) := Wk.refl _ _ _
  have hz0 : w.heap.size < u0.heap.size := by rw [← hu0]; simp
  clear h
  have g0 := h0.rds
  go_enter Try.func16, Try.ntmps16
  go_wp2_with fail
  clear hu0
  refine (markReaderS_wk _ _ B H k s.rds _ (g0) hl.rdsI (by omega)).mono ?_
  rintro r w1 ⟨K0, rfl, hK0, X, Y⟩
  replace p2 := X.cell (.inr hH) p2
  replace p3 := X.cell (.inr hH) p3
  replace HW : Hid (Wk u0 w1 B H) := HW.out.trans X
  clear X Y g0
  go_wp2_with fail
  have rw1 := h0.com.kps HW.out.kps
  refine (markIntS_wk _ _ s.com.length B K0 _ rw1 (by omega)).mono ?_
  rintro r w2 ⟨rfl, hB, hK, hO⟩
  have X : Wk w1 w2 B H := Wk.of_mark hB hK hO h0.comH
  have Y : Typ [3] w1 w2 := Typ.of_row hO (rw1.typ (by simp))
  replace p3 := X.cell (.inr hH) p3
  replace HW : Hid (Wk u0 w2 B H) := HW.out.trans X
  clear hB hK hO X Y rw1
  obtain ⟨K1, hK1⟩ : ∃ K, K0 + s.com.length = K := ⟨_, rfl⟩
  rw [hK1]
  go_wp2_with fail
  have rw2 := h0.ends.kps HW.out.kps
  refine (markIntS_wk _ _ s.ends.length B K1 _ rw2 (by omega)).mono ?_
  rintro r w3 ⟨rfl, hB, hK, hO⟩
  have X : Wk w2 w3 B H := Wk.of_mark hB hK hO h0.endsH
  have Y : Typ [3] w2 w3 := Typ.of_row hO (rw2.typ (by simp))
  replace HW : Hid (Wk u0 w3 B H) := HW.out.trans X
  clear hB hK hO X Y rw2
  obtain ⟨K2, hK2⟩ : ∃ K, K1 + s.ends.length = K := ⟨_, rfl⟩
  rw [hK2]
  have HF : Hid (Wk w w3 B H) := ⟨(bB.mono hBw).trans HW.out.bel, fun b h1 h2 => (HW.out.out b h1 (by have := bB.size; omega)).trans (bB.block b h2), (Kps.below bB).trans HW.out.kps⟩
  clear HW
  go_wp2
  go_ret
  exact ⟨K2, rfl, HF.out⟩

end Go.Proofs.Ytgiekkipkgdjaaa
