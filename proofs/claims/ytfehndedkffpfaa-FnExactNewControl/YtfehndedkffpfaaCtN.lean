/-
  A new control: what NewControl answers, and how it is gathered.
-/
import Derived.Test.YtfehndedkffpfaaCtlM
import Derived.Test.YtfehndedkffpfaaAppZ
import Derived.Test.YtfehndedkffpfaaCtM
namespace Go.Proofs.Ytfehndedkffpfaa
open Go.RowKit

def brN : Br := ⟨0, 0, true⟩
def brC (b : Br) : List Value := [.int .i64 b.epoch, .int .i64 b.left, .bool b.fenced]
theorem brC_len (b : Br) : (brC b).length = 3 := rfl
theorem brC_one (b : Br) : ∀ u ∈ brC b, u.oneCell' = true := fun u hu => by simp [brC] at hu; rcases hu with rfl | rfl | rfl <;> rfl

def newCt (z : Int) : Ct := if inB z 1 6 = true then ⟨List.replicate z.toNat brN, [], 1⟩ else ⟨[], [], 0⟩
theorem newCt_f {z : Int} (h : inB z 1 6 = false) : newCt z = ⟨[], [], 0⟩ := by simp [newCt, h]
theorem newCt_t {n : Nat} (h : inB (n : Int) 1 6 = true) : newCt (n : Int) = ⟨List.replicate n brN, [], 1⟩ := by simp [newCt, h]

theorem newCt_nil (w : World) (B : Nat) (x : Int) : CtO w B ⟨[], [], x⟩ none none (fun _ => none) (fun _ => none) (fun _ => 0) (fun _ => 0) :=
  ⟨Brs.nil _ _, .inl rfl, .inl rfl, by constructor <;> (intros; simp_all)⟩

theorem newCt_small (z : Int) : CtS (newCt z) ∧ CtL (newCt z) := by
  cases h : inB z 1 6 with
  | false => rw [newCt_f h]; exact ⟨⟨by simp, by simp, fun c hc => by simp at hc, fun k hk => by simp [PnK]; omega⟩, ⟨by simp, by simp⟩⟩
  | true =>
    have hz := inB_t.1 h
    obtain ⟨n, rfl⟩ : ∃ n : Nat, z = n := ⟨z.toNat, by omega⟩
    rw [newCt_t h]
    exact ⟨⟨by simp; omega, by simp, fun c hc => by simp at hc, fun k hk => by simp [PnK]; omega⟩, ⟨by simp; unfold maxLen; omega, by simp⟩⟩

structure CnSt (S : Nat) (u wr : World) (v : Value) (k : Nat) : Prop where
  own : wr.ownsRow (S + 1) 67 3 v k ((List.replicate k brN).flatMap brC)
  c0 : wr.cell? ⟨S, 0, none⟩ = some v
  c1 : wr.cell? ⟨S, 1, none⟩ = some (.slice none 0 0)
  c2 : wr.cell? ⟨S, 2, none⟩ = some (.int .i64 1)
  fr : ∀ o, wr.frozen? ⟨S, o, none⟩ = false
  bel : Below S u wr
  Bw : S + 1 ≤ wr.heap.size

theorem CnSt.below {S : Nat} {u wr x : World} {v : Value} {k : Nat} (h : CnSt S u wr v k) (hb : Below wr.heap.size wr x) : CnSt S u x v k :=
  ⟨ownsZ_below h.own hb, celB hb h.c0, celB hb h.c1, celB hb h.c2, fun o => frzB hb (lt_of_cell h.c0) (h.fr o), h.bel.trans (hb.mono (by have := h.Bw; omega)), by have := h.Bw; have := hb.size; omega⟩

theorem CnSt.step {S : Nat} {u x w5 : World} {v : Value} {k g cap : Nat} (h : CnSt S u x v k) (hgrow : x.grownBy w5 v.ownBlock)
    (hown : w5.ownsRow (S + 1) 67 3 (.slice (some ⟨g, 0, none⟩) (k + 1) cap) (k + 1) ((List.replicate k brN).flatMap brC ++ brC brN)) :
    CnSt S u (w5.setCell ⟨S, 0, none⟩ (.slice (some ⟨g, 0, none⟩) (k + 1) cap)) (.slice (some ⟨g, 0, none⟩) (k + 1) cap) (k + 1) := by
  have hBw := h.Bw
  have hvb : ∀ b, v.ownBlock = some b → S + 1 ≤ b ∧ b < x.heap.size := fun b hb => h.own.lt b hb
  have hS : S < x.heap.size ∧ some S ≠ v.ownBlock := ⟨by omega, fun e => by have := (hvb S e.symm).1; omega⟩
  have cel : ∀ o y, x.cell? ⟨S, o, none⟩ = some y → w5.cell? ⟨S, o, none⟩ = some y := fun o y hc => (World.cell?_of_block (a := ⟨S, o, none⟩) (hgrow.block S hS.1 hS.2)).trans hc
  have c0 := cel 0 _ h.c0
  refine ⟨?_, ?_, ?_, ?_, ?_, ?_, ?_⟩
  · have e : (List.replicate (k + 1) brN).flatMap brC = (List.replicate k brN).flatMap brC ++ brC brN := by rw [List.replicate_succ', List.flatMap_append]; simp
    rw [e]
    obtain ⟨o1, o2⟩ := hown
    refine ⟨o1, o2.imp id fun ⟨g', cap', cur, hv, hg, hh, r⟩ => ⟨g', cap', cur, hv, hg, ?_, r⟩⟩
    exact (Below.heap_setCell w5 ⟨S, 0, none⟩ _ g' (by simp; omega)).trans hh
  · simp [go_sem, c0]
  · have := cel 1 _ h.c1; simp [go_sem, this]
  · have := cel 2 _ h.c2; simp [go_sem, this]
  · intro o
    have hf : w5.frozen? ⟨S, o, none⟩ = false := (World.frozen?_of_block (a := ⟨S, o, none⟩) (hgrow.block S hS.1 hS.2)).trans (h.fr o)
    simp [go_sem, hf]
  · exact (h.bel.grown hgrow (by omega) (fun b hb => by have := (hvb b hb).1; omega)).setCell (Nat.le_refl _) _
  · have := hgrow.size
    simp; omega

/-- What is gathered is the new control. -/
theorem CnSt.done {S : Nat} {u wr : World} {a : Option Addr} {c n : Nat} (h : CnSt S u wr (.slice a n c) n) : CtO wr (S + 1) ⟨List.replicate n brN, [], 1⟩ a none (fun _ => none) (fun _ => none) (fun _ => 0) (fun _ => 0) := by
  have hl : (List.replicate n brN).length = n := by simp
  have ho : wr.ownsRow (S + 1) 67 3 (.slice a (List.replicate n brN).length c) (List.replicate n brN).length ((List.replicate n brN).flatMap brC) := by rw [hl]; exact h.own
  refine ⟨fun i z hi => ?_, ?_, .inl rfl, by constructor <;> (intros; simp_all)⟩
  · obtain ⟨k, e, -, hc⟩ := ownZ_flat (C := brC) (s := 3) brC_len ho i z hi
    exact ⟨k, 0, e, by simpa using hc 0 _ rfl, by simpa using hc 1 _ rfl, by simpa using hc 2 _ rfl⟩
  · by_cases h0 : n = 0
    · exact .inl (by simp [h0])
    · obtain ⟨g, cap, f, hv, hg, hcap, hrow, -⟩ := row_of_ownsZ h.own (by omega)
      simp only [Value.slice.injEq] at hv
      obtain ⟨rfl, -, rfl⟩ := hv
      exact .inr ⟨g, _, f, rfl, hg, by simp only [hl]; exact Nat.mul_le_mul_right 3 hcap, hrow⟩

end Go.Proofs.Ytfehndedkffpfaa
