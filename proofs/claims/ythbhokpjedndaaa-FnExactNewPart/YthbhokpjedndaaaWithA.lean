/-
  Made by mkwa.py. impl.withAsked at a part with no producer and no batch.
-/
import Derived.Test.YthbhokpjedndaaaAddT
import Derived.Deep.RegionHeld3
namespace Go.Proofs.Ythbhokpjedndaaa
open Go.RowKit

theorem sc5 {u : World} {b o k q : Nat} {v x : Value} (hne : b ≠ k) (h : u.cell? ⟨b, o, none⟩ = some v) : (u.setCell ⟨k, q, none⟩ x).cell? ⟨b, o, none⟩ = some v :=
  (World.cell?_of_block (a := ⟨b, o, none⟩) (Below.heap_setCell u ⟨k, q, none⟩ x b hne)).trans h

theorem own5 {u : World} {B : Nat} {e : TypeId} {size : Nat} {v : Value} {n : Nat} {xs : List Value} {k o : Nat} {x : Value} (h : u.ownsRow B e size v n xs) (hn : ∀ q, v.ownBlock = some q → q ≠ k) : (u.setCell ⟨k, o, none⟩ x).ownsRow B e size v n xs :=
  ownsR_of_block h fun q hq => Below.heap_setCell u ⟨k, o, none⟩ x q (hn q hq)

theorem fz5 {w w' : World} {b o : Nat} {v : Bool} (hb : Below w.heap.size w w') (hl : b < w.heap.size) (h : w.frozen? ⟨b, o, none⟩ = v) : w'.frozen? ⟨b, o, none⟩ = v := (hb.frozen (p := ⟨b, o, none⟩) hl).trans h

set_option maxRecDepth 100000 in
set_option maxHeartbeats 4000000 in
theorem withAsked_nil (id ep z : Int) (a : Option Addr) (c : Nat) (ss : List ByteArray) (w : World) (hs : Strs w a ss) (hl : ss.length ≤ 8) (hz : ∀ s, s ∈ ss → s.size ≤ 20) (hz0 : 0 ≤ z) (hz9 : z ≤ 100000) :
    Calls Try.prog 52 #[.agg #[.slice none 0 0, .slice none 0 0, .int .i64 z], .agg #[.int .i64 id, .int .i64 ep, .int .i64 0, .slice a ss.length c]] w fun r w' => ∃ gp cp gl cl gw cw vR, r = .returned (.agg #[.slice (some ⟨gp, 0, none⟩) 1 cp, .slice (some ⟨gl, 0, none⟩) 1 cl, .int .i64 (z + ss.length)]) ∧
      w'.ownsRow w.heap.size 84 4 (.slice (some ⟨gp, 0, none⟩) 1 cp) 1 [.int .i64 id, .int .i64 ep, .int .i64 ss.length, .slice (some ⟨gw, 0, none⟩) 1 cw] ∧
      w'.ownsRow w.heap.size 103 3 (.slice (some ⟨gw, 0, none⟩) 1 cw) 1 [.int .i64 0, .int .i64 ss.length, .int .i64 z] ∧
      w'.ownsRow w.heap.size 48 5 (.slice (some ⟨gl, 0, none⟩) 1 cl) 1 [.int .i64 z, .int .i64 ep, .int .i64 id, .int .i64 0, vR] ∧
      w'.ownsRow w.heap.size 9 1 vR ss.length (strVals ss) ∧ gw < gp ∧ gp < gl ∧ (∀ b, vR.ownBlock = some b → gp < b ∧ b < gl) ∧ Below w.heap.size w w' := by
  have hb3 : ∀ x y u, Below w.heap.size w (((w.alloc x).alloc y).alloc u) := fun _ _ _ => (((Below.refl _ _).alloc (Nat.le_refl _) _).alloc (by simp) _).alloc (by simp; omega) _
  obtain ⟨i1, hi1, hd0, hd1, hd2⟩ := info_parts Try.infoDone
  obtain ⟨i2, hi2, he0, he1, he2⟩ := info_parts Try.infoBatch
  go_enter Try.func52, Try.ntmps52
  go_wp2_with fail
  refine (standing_nil _ _ _ _ _ _ _).mono ?_
  rintro r w1 ⟨rfl, hB1⟩
  have BB := st5 (hb3 _ _ _) hB1
  have hz1 := hB1.size
  simp only [World.size_alloc] at hz1
  have p0 : w1.cell? ⟨w.heap.size, 0, none⟩ = some (.slice none 0 0) := cel5 hB1 (by first | simp [go_sem] | exact cel5 (al5 _ _) (by simp [go_sem]))
  have p1 : w1.cell? ⟨w.heap.size, 1, none⟩ = some (.slice none 0 0) := cel5 hB1 (by first | simp [go_sem] | exact cel5 (al5 _ _) (by simp [go_sem]))
  have p2 : w1.cell? ⟨w.heap.size, 2, none⟩ = some (.int .i64 z) := cel5 hB1 (by first | simp [go_sem] | exact cel5 (al5 _ _) (by simp [go_sem]))
  have q0 : w1.cell? ⟨w.heap.size + 1, 0, none⟩ = some (.int .i64 id) := cel5 hB1 (by first | simp [go_sem] | exact cel5 (al5 _ _) (by simp [go_sem]))
  have q1 : w1.cell? ⟨w.heap.size + 1, 1, none⟩ = some (.int .i64 ep) := cel5 hB1 (by first | simp [go_sem] | exact cel5 (al5 _ _) (by simp [go_sem]))
  have q2 : w1.cell? ⟨w.heap.size + 1, 2, none⟩ = some (.int .i64 0) := cel5 hB1 (by first | simp [go_sem] | exact cel5 (al5 _ _) (by simp [go_sem]))
  have q3 : w1.cell? ⟨w.heap.size + 1, 3, none⟩ = some (.slice a ss.length c) := cel5 hB1 (by first | simp [go_sem] | exact cel5 (al5 _ _) (by simp [go_sem]))
  have r0 : w1.cell? ⟨w.heap.size + 1 + 1, 0, none⟩ = some (.slice none 0 0) := cel5 hB1 (by first | simp [go_sem] | exact cel5 (al5 _ _) (by simp [go_sem]))
  have r1 : w1.cell? ⟨w.heap.size + 1 + 1, 1, none⟩ = some (.slice none 0 0) := cel5 hB1 (by first | simp [go_sem] | exact cel5 (al5 _ _) (by simp [go_sem]))
  have r2 : w1.cell? ⟨w.heap.size + 1 + 1, 2, none⟩ = some (.int .i64 0) := cel5 hB1 (by first | simp [go_sem] | exact cel5 (al5 _ _) (by simp [go_sem]))
  have f0 : ∀ o, w1.frozen? ⟨w.heap.size, o, none⟩ = false := fun o => fz5 hB1 (by simp; omega) (fz5 (al5 _ _) (by simp; try omega) (fz5 (al5 _ _) (by simp) (by simp [go_sem])))
  have f1 : ∀ o, w1.frozen? ⟨w.heap.size + 1 + 1, o, none⟩ = false := fun o => fz5 hB1 (by simp) (by simp [go_sem])
  clear hB1
  have p0a : ∀ o, (w1.alloc o).cell? ⟨w.heap.size, 0, none⟩ = some (.slice none 0 0) := fun o => cel5 (al5 w1 o) p0
  have p1a : ∀ o, (w1.alloc o).cell? ⟨w.heap.size, 1, none⟩ = some (.slice none 0 0) := fun o => cel5 (al5 w1 o) p1
  have p2a : ∀ o, (w1.alloc o).cell? ⟨w.heap.size, 2, none⟩ = some (.int .i64 z) := fun o => cel5 (al5 w1 o) p2
  have q0a : ∀ o, (w1.alloc o).cell? ⟨w.heap.size + 1, 0, none⟩ = some (.int .i64 id) := fun o => cel5 (al5 w1 o) q0
  have q1a : ∀ o, (w1.alloc o).cell? ⟨w.heap.size + 1, 1, none⟩ = some (.int .i64 ep) := fun o => cel5 (al5 w1 o) q1
  have q2a : ∀ o, (w1.alloc o).cell? ⟨w.heap.size + 1, 2, none⟩ = some (.int .i64 0) := fun o => cel5 (al5 w1 o) q2
  have q3a : ∀ o, (w1.alloc o).cell? ⟨w.heap.size + 1, 3, none⟩ = some (.slice a ss.length c) := fun o => cel5 (al5 w1 o) q3
  have r0a : ∀ o, (w1.alloc o).cell? ⟨w.heap.size + 1 + 1, 0, none⟩ = some (.slice none 0 0) := fun o => cel5 (al5 w1 o) r0
  have r1a : ∀ o, (w1.alloc o).cell? ⟨w.heap.size + 1 + 1, 1, none⟩ = some (.slice none 0 0) := fun o => cel5 (al5 w1 o) r1
  have r2a : ∀ o, (w1.alloc o).cell? ⟨w.heap.size + 1 + 1, 2, none⟩ = some (.int .i64 0) := fun o => cel5 (al5 w1 o) r2
  have p0b : ∀ o x, ((w1.alloc o).setCell ⟨w1.heap.size, 2, none⟩ x).cell? ⟨w.heap.size, 0, none⟩ = some (.slice none 0 0) := fun o x => sc5 (by omega) (p0a o)
  have p1b : ∀ o x, ((w1.alloc o).setCell ⟨w1.heap.size, 2, none⟩ x).cell? ⟨w.heap.size, 1, none⟩ = some (.slice none 0 0) := fun o x => sc5 (by omega) (p1a o)
  have p2b : ∀ o x, ((w1.alloc o).setCell ⟨w1.heap.size, 2, none⟩ x).cell? ⟨w.heap.size, 2, none⟩ = some (.int .i64 z) := fun o x => sc5 (by omega) (p2a o)
  have q0b : ∀ o x, ((w1.alloc o).setCell ⟨w1.heap.size, 2, none⟩ x).cell? ⟨w.heap.size + 1, 0, none⟩ = some (.int .i64 id) := fun o x => sc5 (by omega) (q0a o)
  have q1b : ∀ o x, ((w1.alloc o).setCell ⟨w1.heap.size, 2, none⟩ x).cell? ⟨w.heap.size + 1, 1, none⟩ = some (.int .i64 ep) := fun o x => sc5 (by omega) (q1a o)
  have q2b : ∀ o x, ((w1.alloc o).setCell ⟨w1.heap.size, 2, none⟩ x).cell? ⟨w.heap.size + 1, 2, none⟩ = some (.int .i64 0) := fun o x => sc5 (by omega) (q2a o)
  have q3b : ∀ o x, ((w1.alloc o).setCell ⟨w1.heap.size, 2, none⟩ x).cell? ⟨w.heap.size + 1, 3, none⟩ = some (.slice a ss.length c) := fun o x => sc5 (by omega) (q3a o)
  have r0b : ∀ o x, ((w1.alloc o).setCell ⟨w1.heap.size, 2, none⟩ x).cell? ⟨w.heap.size + 1 + 1, 0, none⟩ = some (.slice none 0 0) := fun o x => sc5 (by omega) (r0a o)
  have r1b : ∀ o x, ((w1.alloc o).setCell ⟨w1.heap.size, 2, none⟩ x).cell? ⟨w.heap.size + 1 + 1, 1, none⟩ = some (.slice none 0 0) := fun o x => sc5 (by omega) (r1a o)
  have r2b : ∀ o x, ((w1.alloc o).setCell ⟨w1.heap.size, 2, none⟩ x).cell? ⟨w.heap.size + 1 + 1, 2, none⟩ = some (.int .i64 0) := fun o x => sc5 (by omega) (r2a o)
  go_wp2_with (at_builtin; refine wpList_append_lies _ rfl _ _ 82 rfl w.heap.size 103 i1 _ 3 24 Try.underlying82 hi1 hd0 hd1 hd2 rfl (by decide) (.slice none 0 0) 0 [] rfl (World.ownsRow_nil _ _ _ _) ⟨w1.heap.size + 1, 0, none⟩ 1 1 [.int .i64 0, .int .i64 ss.length, .int .i64 z] rfl rfl ?c1 ?c2 (by omega) ?c3 ?c4 ?c5 (w1.heap.size + 1 + 1) ?c6 ?_)
  case c1 => exact World.news_of_block (cs := #[.int .i64 0, .int .i64 ss.length, .int .i64 z]) (t := 103) (fr := (0, 0)) (by first | exact (heap_alloc_new (w1.alloc _) _) | simpa using (heap_alloc_new (w1.alloc _) _))
  case c2 => simp [Value.oneCell']
  case c3 => unfold maxLen; omega
  case c4 => omega
  case c5 => simp; omega
  case c6 => simp
  intro g4 cap4 w4 hown4 hgrow hat4 _
  have hg4 : g4 = w1.heap.size + 1 + 1 := by simpa [Value.ownBlock] using hat4
  have hB4 := (Below.refl _ _).grown hgrow (Nat.le_refl _) (fun k hk => by simp [Value.ownBlock] at hk)
  replace BB := st5 (st5 (st5 BB (al5 _ _)) (al5 _ _)) hB4
  have hz4 := hB4.size
  simp only [World.size_alloc] at hz4
  have hz5 := hown4.lt g4 rfl
  subst hg4
  replace p0 : w4.cell? ⟨w.heap.size, 0, none⟩ = some (.slice none 0 0) := cel5 hB4 (cel5 (al5 _ _) (p0a _))
  replace p1 : w4.cell? ⟨w.heap.size, 1, none⟩ = some (.slice none 0 0) := cel5 hB4 (cel5 (al5 _ _) (p1a _))
  replace p2 : w4.cell? ⟨w.heap.size, 2, none⟩ = some (.int .i64 z) := cel5 hB4 (cel5 (al5 _ _) (p2a _))
  replace q0 : w4.cell? ⟨w.heap.size + 1, 0, none⟩ = some (.int .i64 id) := cel5 hB4 (cel5 (al5 _ _) (q0a _))
  replace q1 : w4.cell? ⟨w.heap.size + 1, 1, none⟩ = some (.int .i64 ep) := cel5 hB4 (cel5 (al5 _ _) (q1a _))
  replace q2 : w4.cell? ⟨w.heap.size + 1, 2, none⟩ = some (.int .i64 0) := cel5 hB4 (cel5 (al5 _ _) (q2a _))
  replace q3 : w4.cell? ⟨w.heap.size + 1, 3, none⟩ = some (.slice a ss.length c) := cel5 hB4 (cel5 (al5 _ _) (q3a _))
  replace r0 : w4.cell? ⟨w.heap.size + 1 + 1, 0, none⟩ = some (.slice none 0 0) := cel5 hB4 (cel5 (al5 _ _) (r0a _))
  replace r1 : w4.cell? ⟨w.heap.size + 1 + 1, 1, none⟩ = some (.slice none 0 0) := cel5 hB4 (cel5 (al5 _ _) (r1a _))
  replace r2 : w4.cell? ⟨w.heap.size + 1 + 1, 2, none⟩ = some (.int .i64 0) := cel5 hB4 (cel5 (al5 _ _) (r2a _))
  have o0 : w4.cell? ⟨w1.heap.size, 0, none⟩ = some (.int .i64 id) := cel5 hB4 (cel5 (al5 _ _) (by simp [go_sem]))
  have o1 : w4.cell? ⟨w1.heap.size, 1, none⟩ = some (.int .i64 ep) := cel5 hB4 (cel5 (al5 _ _) (by simp [go_sem]))
  have o2 : w4.cell? ⟨w1.heap.size, 2, none⟩ = some (.int .i64 ss.length) := cel5 hB4 (cel5 (al5 _ _) (by simp [go_sem]))
  have o3 : w4.cell? ⟨w1.heap.size, 3, none⟩ = some (.slice none 0 0) := cel5 hB4 (cel5 (al5 _ _) (by simp [go_sem]))
  have fo : ∀ o, w4.frozen? ⟨w1.heap.size, o, none⟩ = false := fun o => fz5 hB4 (by simp; try omega) (fz5 (al5 _ _) (by simp) (by simp [go_sem]))
  replace f0 : ∀ o, w4.frozen? ⟨w.heap.size, o, none⟩ = false := fun o => fz5 hB4 (by simp; omega) (fz5 (al5 _ _) (by simp; omega) (fz5 (al5 _ _) (by omega) (f0 o)))
  replace f1 : ∀ o, w4.frozen? ⟨w.heap.size + 1 + 1, o, none⟩ = false := fun o => fz5 hB4 (by simp; omega) (fz5 (al5 _ _) (by simp; omega) (fz5 (al5 _ _) (by omega) (f1 o)))
  clear hB4 hgrow hat4
  clear p0a p0b
  clear p1a p1b
  clear p2a p2b
  clear q0a q0b
  clear q1a q1b
  clear q2a q2b
  clear q3a q3b
  clear r0a r0b
  clear r1a r1b
  clear r2a r2b
  have p0c : ∀ x, (w4.setCell ⟨w1.heap.size, 3, none⟩ x).cell? ⟨w.heap.size, 0, none⟩ = some (.slice none 0 0) := fun x => sc5 (by omega) p0
  have p1c : ∀ x, (w4.setCell ⟨w1.heap.size, 3, none⟩ x).cell? ⟨w.heap.size, 1, none⟩ = some (.slice none 0 0) := fun x => sc5 (by omega) p1
  have p2c : ∀ x, (w4.setCell ⟨w1.heap.size, 3, none⟩ x).cell? ⟨w.heap.size, 2, none⟩ = some (.int .i64 z) := fun x => sc5 (by omega) p2
  have q0c : ∀ x, (w4.setCell ⟨w1.heap.size, 3, none⟩ x).cell? ⟨w.heap.size + 1, 0, none⟩ = some (.int .i64 id) := fun x => sc5 (by omega) q0
  have q1c : ∀ x, (w4.setCell ⟨w1.heap.size, 3, none⟩ x).cell? ⟨w.heap.size + 1, 1, none⟩ = some (.int .i64 ep) := fun x => sc5 (by omega) q1
  have q2c : ∀ x, (w4.setCell ⟨w1.heap.size, 3, none⟩ x).cell? ⟨w.heap.size + 1, 2, none⟩ = some (.int .i64 0) := fun x => sc5 (by omega) q2
  have q3c : ∀ x, (w4.setCell ⟨w1.heap.size, 3, none⟩ x).cell? ⟨w.heap.size + 1, 3, none⟩ = some (.slice a ss.length c) := fun x => sc5 (by omega) q3
  have r0c : ∀ x, (w4.setCell ⟨w1.heap.size, 3, none⟩ x).cell? ⟨w.heap.size + 1 + 1, 0, none⟩ = some (.slice none 0 0) := fun x => sc5 (by omega) r0
  have r1c : ∀ x, (w4.setCell ⟨w1.heap.size, 3, none⟩ x).cell? ⟨w.heap.size + 1 + 1, 1, none⟩ = some (.slice none 0 0) := fun x => sc5 (by omega) r1
  have r2c : ∀ x, (w4.setCell ⟨w1.heap.size, 3, none⟩ x).cell? ⟨w.heap.size + 1 + 1, 2, none⟩ = some (.int .i64 0) := fun x => sc5 (by omega) r2
  have O0 : ∀ x, (w4.setCell ⟨w1.heap.size, 3, none⟩ x).cell? ⟨w1.heap.size, 0, none⟩ = some (.int .i64 id) := fun x => by simp [go_sem, o0]
  have O1 : ∀ x, (w4.setCell ⟨w1.heap.size, 3, none⟩ x).cell? ⟨w1.heap.size, 1, none⟩ = some (.int .i64 ep) := fun x => by simp [go_sem, o1]
  have O2 : ∀ x, (w4.setCell ⟨w1.heap.size, 3, none⟩ x).cell? ⟨w1.heap.size, 2, none⟩ = some (.int .i64 ss.length) := fun x => by simp [go_sem, o2]
  have O3 : ∀ x, (w4.setCell ⟨w1.heap.size, 3, none⟩ x).cell? ⟨w1.heap.size, 3, none⟩ = some x := fun x => by simp [go_sem, o3]
  have hown5 : ∀ x, (w4.setCell ⟨w1.heap.size, 3, none⟩ x).ownsRow w.heap.size 103 3 (.slice (some ⟨w1.heap.size + 1 + 1, 0, none⟩) 1 cap4) 1 [.int .i64 0, .int .i64 ss.length, .int .i64 z] := fun x => ownsR_of_block hown4 (fun q hq => Below.heap_setCell w4 ⟨w1.heap.size, 3, none⟩ x q (by simp [Value.ownBlock] at hq; simp; omega))
  have BB5 : ∀ x, Below w.heap.size w (w4.setCell ⟨w1.heap.size, 3, none⟩ x) := fun x => BB.setCell (by simp; omega) _
  have HOW : Hid (∀ x, (w4.setCell ⟨w1.heap.size, 3, none⟩ x).ownsRow w.heap.size 103 3 (.slice (some ⟨w1.heap.size + 1 + 1, 0, none⟩) 1 cap4) 1 [.int .i64 0, .int .i64 ss.length, .int .i64 z]) := hown5
  clear hown4 hown5
  go_wp2_with fail
  refine (placeOf_nil _ _).mono ?_
  rintro r w5 ⟨rfl, rfl⟩
  replace p0c := p0c (.slice (some ⟨w1.heap.size + 1 + 1, 0, none⟩) 1 cap4)
  replace p1c := p1c (.slice (some ⟨w1.heap.size + 1 + 1, 0, none⟩) 1 cap4)
  replace p2c := p2c (.slice (some ⟨w1.heap.size + 1 + 1, 0, none⟩) 1 cap4)
  replace q0c := q0c (.slice (some ⟨w1.heap.size + 1 + 1, 0, none⟩) 1 cap4)
  replace q1c := q1c (.slice (some ⟨w1.heap.size + 1 + 1, 0, none⟩) 1 cap4)
  replace q2c := q2c (.slice (some ⟨w1.heap.size + 1 + 1, 0, none⟩) 1 cap4)
  replace q3c := q3c (.slice (some ⟨w1.heap.size + 1 + 1, 0, none⟩) 1 cap4)
  replace r0c := r0c (.slice (some ⟨w1.heap.size + 1 + 1, 0, none⟩) 1 cap4)
  replace r1c := r1c (.slice (some ⟨w1.heap.size + 1 + 1, 0, none⟩) 1 cap4)
  replace r2c := r2c (.slice (some ⟨w1.heap.size + 1 + 1, 0, none⟩) 1 cap4)
  have hz6 : w4.heap.size = (w4.setCell ⟨w1.heap.size, 3, none⟩ (.slice (some ⟨w1.heap.size + 1 + 1, 0, none⟩) 1 cap4)).heap.size := by simp
  have F0 : ∀ o, (w4.setCell ⟨w1.heap.size, 3, none⟩ (.slice (some ⟨w1.heap.size + 1 + 1, 0, none⟩) 1 cap4)).frozen? ⟨w.heap.size, o, none⟩ = false := fun o => (World.frozen?_of_block (a := ⟨w.heap.size, o, none⟩) (Below.heap_setCell w4 ⟨w1.heap.size, 3, none⟩ _ w.heap.size (by simp; omega))).trans (f0 o)
  have F1 : ∀ o, (w4.setCell ⟨w1.heap.size, 3, none⟩ (.slice (some ⟨w1.heap.size + 1 + 1, 0, none⟩) 1 cap4)).frozen? ⟨w.heap.size + 1 + 1, o, none⟩ = false := fun o => (World.frozen?_of_block (a := ⟨w.heap.size + 1 + 1, o, none⟩) (Below.heap_setCell w4 ⟨w1.heap.size, 3, none⟩ _ (w.heap.size + 1 + 1) (by simp; omega))).trans (f1 o)
  replace O0 := O0 (.slice (some ⟨w1.heap.size + 1 + 1, 0, none⟩) 1 cap4)
  replace O1 := O1 (.slice (some ⟨w1.heap.size + 1 + 1, 0, none⟩) 1 cap4)
  replace O2 := O2 (.slice (some ⟨w1.heap.size + 1 + 1, 0, none⟩) 1 cap4)
  replace O3 := O3 (.slice (some ⟨w1.heap.size + 1 + 1, 0, none⟩) 1 cap4)
  replace HOW : Hid ((w4.setCell ⟨w1.heap.size, 3, none⟩ (.slice (some ⟨w1.heap.size + 1 + 1, 0, none⟩) 1 cap4)).ownsRow w.heap.size 103 3 (.slice (some ⟨w1.heap.size + 1 + 1, 0, none⟩) 1 cap4) 1 [.int .i64 0, .int .i64 ss.length, .int .i64 z]) := HOW.out _
  replace BB := BB5 (.slice (some ⟨w1.heap.size + 1 + 1, 0, none⟩) 1 cap4)
  clear BB5 f0 f1 fo o0 o1 o2 o3 p0 p1 p2 q0 q1 q2 q3 r0 r1 r2
  generalize w4.setCell ⟨w1.heap.size, 3, none⟩ (.slice (some ⟨w1.heap.size + 1 + 1, 0, none⟩) 1 cap4) = u5 at *
  go_wp2_with fail
  refine (insert_nil u5.heap.size _ _ _ _ _ (heap_alloc_new u5 _) (by simp [Value.oneCell'])).mono ?_
  rintro r w6 ⟨gp, cp, rfl, hownP, hgp, hB6⟩
  have hz7 := hB6.size
  simp only [World.size_alloc] at hz7 hgp hownP
  have hzp := hownP.lt gp rfl
  subst hgp
  replace BB := st5 (st5 BB (al5 _ _)) hB6
  have HOP : Hid (w6.ownsRow w.heap.size 84 4 (.slice (some ⟨u5.heap.size + 1, 0, none⟩) 1 cp) 1 [.int .i64 id, .int .i64 ep, .int .i64 ss.length, .slice (some ⟨w1.heap.size + 1 + 1, 0, none⟩) 1 cap4]) := owns_mono hownP (by omega)
  replace HOW : Hid (w6.ownsRow w.heap.size 103 3 (.slice (some ⟨w1.heap.size + 1 + 1, 0, none⟩) 1 cap4) 1 [.int .i64 0, .int .i64 ss.length, .int .i64 z]) := owns_below (owns_below HOW.out (al5 _ _)) hB6
  replace p0c : w6.cell? ⟨w.heap.size, 0, none⟩ = some (.slice none 0 0) := cel5 hB6 (cel5 (al5 _ _) p0c)
  replace p1c : w6.cell? ⟨w.heap.size, 1, none⟩ = some (.slice none 0 0) := cel5 hB6 (cel5 (al5 _ _) p1c)
  replace p2c : w6.cell? ⟨w.heap.size, 2, none⟩ = some (.int .i64 z) := cel5 hB6 (cel5 (al5 _ _) p2c)
  replace q0c : w6.cell? ⟨w.heap.size + 1, 0, none⟩ = some (.int .i64 id) := cel5 hB6 (cel5 (al5 _ _) q0c)
  replace q1c : w6.cell? ⟨w.heap.size + 1, 1, none⟩ = some (.int .i64 ep) := cel5 hB6 (cel5 (al5 _ _) q1c)
  replace q2c : w6.cell? ⟨w.heap.size + 1, 2, none⟩ = some (.int .i64 0) := cel5 hB6 (cel5 (al5 _ _) q2c)
  replace q3c : w6.cell? ⟨w.heap.size + 1, 3, none⟩ = some (.slice a ss.length c) := cel5 hB6 (cel5 (al5 _ _) q3c)
  replace r0c : w6.cell? ⟨w.heap.size + 1 + 1, 0, none⟩ = some (.slice none 0 0) := cel5 hB6 (cel5 (al5 _ _) r0c)
  replace r1c : w6.cell? ⟨w.heap.size + 1 + 1, 1, none⟩ = some (.slice none 0 0) := cel5 hB6 (cel5 (al5 _ _) r1c)
  replace r2c : w6.cell? ⟨w.heap.size + 1 + 1, 2, none⟩ = some (.int .i64 0) := cel5 hB6 (cel5 (al5 _ _) r2c)
  replace F0 : ∀ o, w6.frozen? ⟨w.heap.size, o, none⟩ = false := fun o => fz5 hB6 (by simp; omega) (fz5 (al5 _ _) (by omega) (F0 o))
  replace F1 : ∀ o, w6.frozen? ⟨w.heap.size + 1 + 1, o, none⟩ = false := fun o => fz5 hB6 (by simp; omega) (fz5 (al5 _ _) (by omega) (F1 o))
  clear hownP hB6 O0 O1 O2 O3
  have q0d : ∀ x, (w6.setCell ⟨w.heap.size, 0, none⟩ x).cell? ⟨w.heap.size + 1, 0, none⟩ = some (.int .i64 id) := fun x => sc5 (by omega) q0c
  have q1d : ∀ x, (w6.setCell ⟨w.heap.size, 0, none⟩ x).cell? ⟨w.heap.size + 1, 1, none⟩ = some (.int .i64 ep) := fun x => sc5 (by omega) q1c
  have q2d : ∀ x, (w6.setCell ⟨w.heap.size, 0, none⟩ x).cell? ⟨w.heap.size + 1, 2, none⟩ = some (.int .i64 0) := fun x => sc5 (by omega) q2c
  have q3d : ∀ x, (w6.setCell ⟨w.heap.size, 0, none⟩ x).cell? ⟨w.heap.size + 1, 3, none⟩ = some (.slice a ss.length c) := fun x => sc5 (by omega) q3c
  have r0d : ∀ x, (w6.setCell ⟨w.heap.size, 0, none⟩ x).cell? ⟨w.heap.size + 1 + 1, 0, none⟩ = some (.slice none 0 0) := fun x => sc5 (by omega) r0c
  have r1d : ∀ x, (w6.setCell ⟨w.heap.size, 0, none⟩ x).cell? ⟨w.heap.size + 1 + 1, 1, none⟩ = some (.slice none 0 0) := fun x => sc5 (by omega) r1c
  have r2d : ∀ x, (w6.setCell ⟨w.heap.size, 0, none⟩ x).cell? ⟨w.heap.size + 1 + 1, 2, none⟩ = some (.int .i64 0) := fun x => sc5 (by omega) r2c
  have p0d : ∀ x, (w6.setCell ⟨w.heap.size, 0, none⟩ x).cell? ⟨w.heap.size, 0, none⟩ = some x := fun x => by simp [go_sem, p0c]
  have p1d : ∀ x, (w6.setCell ⟨w.heap.size, 0, none⟩ x).cell? ⟨w.heap.size, 1, none⟩ = some (.slice none 0 0) := fun x => by simp [go_sem, p1c]
  have p2d : ∀ x, (w6.setCell ⟨w.heap.size, 0, none⟩ x).cell? ⟨w.heap.size, 2, none⟩ = some (.int .i64 z) := fun x => by simp [go_sem, p2c]
  go_wp2_with fail
  replace p0d := p0d (.slice (some ⟨u5.heap.size + 1, 0, none⟩) 1 cp)
  replace p1d := p1d (.slice (some ⟨u5.heap.size + 1, 0, none⟩) 1 cp)
  replace p2d := p2d (.slice (some ⟨u5.heap.size + 1, 0, none⟩) 1 cp)
  replace q0d := q0d (.slice (some ⟨u5.heap.size + 1, 0, none⟩) 1 cp)
  replace q1d := q1d (.slice (some ⟨u5.heap.size + 1, 0, none⟩) 1 cp)
  replace q2d := q2d (.slice (some ⟨u5.heap.size + 1, 0, none⟩) 1 cp)
  replace q3d := q3d (.slice (some ⟨u5.heap.size + 1, 0, none⟩) 1 cp)
  replace r0d := r0d (.slice (some ⟨u5.heap.size + 1, 0, none⟩) 1 cp)
  replace r1d := r1d (.slice (some ⟨u5.heap.size + 1, 0, none⟩) 1 cp)
  replace r2d := r2d (.slice (some ⟨u5.heap.size + 1, 0, none⟩) 1 cp)
  replace BB : Below w.heap.size w (w6.setCell ⟨w.heap.size, 0, none⟩ (.slice (some ⟨u5.heap.size + 1, 0, none⟩) 1 cp)) := BB.setCell (Nat.le_refl _) _
  have hz8 : w6.heap.size = (w6.setCell ⟨w.heap.size, 0, none⟩ (.slice (some ⟨u5.heap.size + 1, 0, none⟩) 1 cp)).heap.size := by simp
  replace HOP : Hid ((w6.setCell ⟨w.heap.size, 0, none⟩ (.slice (some ⟨u5.heap.size + 1, 0, none⟩) 1 cp)).ownsRow w.heap.size 84 4 (.slice (some ⟨u5.heap.size + 1, 0, none⟩) 1 cp) 1 [.int .i64 id, .int .i64 ep, .int .i64 ss.length, .slice (some ⟨w1.heap.size + 1 + 1, 0, none⟩) 1 cap4]) := ownsR_of_block HOP.out (fun q hq => Below.heap_setCell w6 ⟨w.heap.size, 0, none⟩ _ q (by simp [Value.ownBlock] at hq; simp; omega))
  replace HOW : Hid ((w6.setCell ⟨w.heap.size, 0, none⟩ (.slice (some ⟨u5.heap.size + 1, 0, none⟩) 1 cp)).ownsRow w.heap.size 103 3 (.slice (some ⟨w1.heap.size + 1 + 1, 0, none⟩) 1 cap4) 1 [.int .i64 0, .int .i64 ss.length, .int .i64 z]) := ownsR_of_block HOW.out (fun q hq => Below.heap_setCell w6 ⟨w.heap.size, 0, none⟩ _ q (by simp [Value.ownBlock] at hq; simp; omega))
  replace F0 : ∀ o, (w6.setCell ⟨w.heap.size, 0, none⟩ (.slice (some ⟨u5.heap.size + 1, 0, none⟩) 1 cp)).frozen? ⟨w.heap.size, o, none⟩ = false := fun o => by simp [go_sem, F0]
  replace F1 : ∀ o, (w6.setCell ⟨w.heap.size, 0, none⟩ (.slice (some ⟨u5.heap.size + 1, 0, none⟩) 1 cp)).frozen? ⟨w.heap.size + 1 + 1, o, none⟩ = false := fun o => (World.frozen?_of_block (a := ⟨w.heap.size + 1 + 1, o, none⟩) (Below.heap_setCell w6 ⟨w.heap.size, 0, none⟩ _ (w.heap.size + 1 + 1) (by simp; omega))).trans (F1 o)
  clear p0c p1c p2c q0c q1c q2c q3c r0c r1c r2c
  generalize w6.setCell ⟨w.heap.size, 0, none⟩ (.slice (some ⟨u5.heap.size + 1, 0, none⟩) 1 cp) = u7 at *
  have kk : u7.cell? ⟨w.heap.size, 2, none⟩ = some (.int .i64 z) ∧ u7.cell? ⟨w.heap.size + 1, 0, none⟩ = some (.int .i64 id) ∧ u7.cell? ⟨w.heap.size + 1, 1, none⟩ = some (.int .i64 ep) ∧ u7.cell? ⟨w.heap.size + 1, 2, none⟩ = some (.int .i64 0) ∧ u7.cell? ⟨w.heap.size + 1, 3, none⟩ = some (.slice a ss.length c) := ⟨p2d, q0d, q1d, q2d, q3d⟩
  refine wp_region_noPanic ?_
  refine wp_region_held_drew (S := fun w' => w'.cell? ⟨w.heap.size, 2, none⟩ = some (.int .i64 z) ∧ w'.cell? ⟨w.heap.size + 1, 0, none⟩ = some (.int .i64 id) ∧ w'.cell? ⟨w.heap.size + 1, 1, none⟩ = some (.int .i64 ep) ∧ w'.cell? ⟨w.heap.size + 1, 2, none⟩ = some (.int .i64 0) ∧ w'.cell? ⟨w.heap.size + 1, 3, none⟩ = some (.slice a ss.length c)) (by kernel_rfl) kk (fun hH => ?_)
  refine wpAnyH_take (i := 0) (oi := ⟨_, _, _, _, _, _⟩) (v := ?vt0) rfl (by kernel_rfl) (by kernel_rfl) (by kernel_rfl) (fun _ _ _ h => h) (Or.inl ⟨by rfl, ?yt0⟩) (by assumption) ?rt0
  case yt0 => intro w hSw; (try dsimp only at hSw); go_simp; try with_reducible rfl
  try simp only [Act.put, List.setIfInBounds_toArray, List.set_cons_zero, List.set_cons_succ]
  refine wpAnyH_take (i := 1) (oi := ⟨_, _, _, _, _, _⟩) (v := ?vt1) rfl (by kernel_rfl) (by kernel_rfl) (by kernel_rfl) (fun _ _ _ h => h) (Or.inl ⟨by rfl, ?yt1⟩) (by assumption) ?rt1
  case yt1 => intro w hSw; (try dsimp only at hSw); go_simp; try with_reducible rfl
  try simp only [Act.put, List.setIfInBounds_toArray, List.set_cons_zero, List.set_cons_succ]
  refine wpAnyH_take (i := 2) (oi := ⟨_, _, _, _, _, _⟩) (v := ?vt2) rfl (by kernel_rfl) (by kernel_rfl) (by kernel_rfl) (fun _ _ _ h => h) (Or.inl ⟨by rfl, ?yt2⟩) (by assumption) ?rt2
  case yt2 => intro w hSw; (try dsimp only at hSw); go_simp; try with_reducible rfl
  try simp only [Act.put, List.setIfInBounds_toArray, List.set_cons_zero, List.set_cons_succ]
  refine wpAnyH_take (i := 3) (oi := ⟨_, _, _, _, _, _⟩) (v := ?vt3) rfl (by kernel_rfl) (by kernel_rfl) (by kernel_rfl) (fun _ _ _ h => h) (Or.inl ⟨by rfl, ?yt3⟩) (by assumption) ?rt3
  case yt3 => intro w hSw; (try dsimp only at hSw); go_simp; try with_reducible rfl
  try simp only [Act.put, List.setIfInBounds_toArray, List.set_cons_zero, List.set_cons_succ]
  refine wpAnyH_take (i := 4) (oi := ⟨_, _, _, _, _, _⟩) (v := ?vt4) rfl (by kernel_rfl) (by kernel_rfl) (by kernel_rfl) (fun _ _ _ h => h) (Or.inl ⟨by rfl, ?yt4⟩) (by assumption) ?rt4
  case yt4 => intro w hSw; (try dsimp only at hSw); go_simp; try with_reducible rfl
  try simp only [Act.put, List.setIfInBounds_toArray, List.set_cons_zero, List.set_cons_succ]
  refine wpAnyH_take (i := 5) (oi := ⟨_, _, _, _, _, _⟩) (v := ?vt5) rfl (by kernel_rfl) (by kernel_rfl) (by kernel_rfl) (fun _ _ _ h => h) (Or.inl ⟨by rfl, ?yt5⟩) (by assumption) ?rt5
  case yt5 => intro w hSw; (try dsimp only at hSw); go_simp; try with_reducible rfl
  try simp only [Act.put, List.setIfInBounds_toArray, List.set_cons_zero, List.set_cons_succ]
  refine wpAnyH_take (i := 6) (oi := ⟨_, _, _, _, _, _⟩) (v := ?vt6) rfl (by kernel_rfl) (by kernel_rfl) (by kernel_rfl) (fun _ _ _ h => h) (Or.inl ⟨by rfl, ?yt6⟩) (by assumption) ?rt6
  case yt6 => intro w hSw; (try dsimp only at hSw); go_simp; try with_reducible rfl
  try simp only [Act.put, List.setIfInBounds_toArray, List.set_cons_zero, List.set_cons_succ]
  refine wpAnyH_take (i := 7) (oi := ⟨_, _, _, _, _, _⟩) (v := ?vt7) rfl (by kernel_rfl) (by kernel_rfl) (by kernel_rfl) (fun _ _ _ h => h) (Or.inl ⟨by rfl, ?yt7⟩) (by assumption) ?rt7
  case yt7 => intro w hSw; (try dsimp only at hSw); go_simp; try with_reducible rfl
  try simp only [Act.put, List.setIfInBounds_toArray, List.set_cons_zero, List.set_cons_succ]
  refine wpAnyH_take (i := 8) (oi := ⟨_, _, _, _, _, _⟩) (v := ?vt8) rfl (by kernel_rfl) (by kernel_rfl) (by kernel_rfl) (fun _ _ _ h => h) (Or.inl ⟨by rfl, ?yt8⟩) (by assumption) ?rt8
  case yt8 => intro w hSw; (try dsimp only at hSw); go_simp; try with_reducible rfl
  try simp only [Act.put, List.setIfInBounds_toArray, List.set_cons_zero, List.set_cons_succ]
  refine wpAnyH_take (i := 9) (oi := ⟨_, _, _, _, _, _⟩) (v := ?vt9) rfl (by kernel_rfl) (by kernel_rfl) (by kernel_rfl) (fun _ _ _ h => h) (Or.inl ⟨by rfl, ?yt9⟩) (by assumption) ?rt9
  case yt9 => intro w hSw; (try dsimp only at hSw); go_simp; try with_reducible rfl
  try simp only [Act.put, List.setIfInBounds_toArray, List.set_cons_zero, List.set_cons_succ]
  refine wpAnyH_ready (rs := [10, 12]) (by kernel_rfl) (by simp) ?_
  refine AllReadyH.cons (o := ⟨_, _, _, _, _, _⟩) rfl (fun KK hK => ?a1) (AllReadyH.cons (o := ⟨_, _, _, _, _, _⟩) rfl (fun KK hK => ?a2) AllReadyH.nil)
  case a1 =>
    go_simp
    refine (addTexts_new _ _ ss _ (hs.below BB.drew) hl hz).mono ?_
    rintro r w8 ⟨vR, rfl, hT⟩
    have kk8 : w8.cell? ⟨w.heap.size, 2, none⟩ = some (.int .i64 z) ∧ w8.cell? ⟨w.heap.size + 1, 0, none⟩ = some (.int .i64 id) ∧ w8.cell? ⟨w.heap.size + 1, 1, none⟩ = some (.int .i64 ep) ∧ w8.cell? ⟨w.heap.size + 1, 2, none⟩ = some (.int .i64 0) ∧ w8.cell? ⟨w.heap.size + 1, 3, none⟩ = some (.slice a ss.length c) := ⟨cel5 hT.bel kk.1, cel5 hT.bel kk.2.1, cel5 hT.bel kk.2.2.1, cel5 hT.bel kk.2.2.2.1, cel5 hT.bel kk.2.2.2.2⟩
    obtain ⟨ra, rc, hv⟩ := ownForm hT.own
    subst hv
    go_wp2_with fail
    refine hK.out _ _ kk8 (fun hH10 => ?_)
    clear hK KK hH
    try simp only [Act.put, List.setIfInBounds_toArray, List.set_cons_zero, List.set_cons_succ]
    refine wpAnyH_take (i := 11) (oi := ⟨_, _, _, _, _, _⟩) (v := ?vb11) rfl (by kernel_rfl) (by kernel_rfl) (by kernel_rfl) (fun _ _ _ h => h) (Or.inl ⟨by rfl, ?yb11⟩) (by assumption) ?rb11
    case yb11 => intro w hSw; (try dsimp only at hSw); go_simp; try with_reducible rfl
    try simp only [Act.put, List.setIfInBounds_toArray, List.set_cons_zero, List.set_cons_succ]
    refine wpAnyH_ready (rs := [12]) (by kernel_rfl) (by simp) ?_
    refine AllReadyH.cons (o := ⟨_, _, _, _, _, _⟩) rfl (fun KK hK => ?_) AllReadyH.nil
    go_simp
    have kk9 : ∀ o, (w8.alloc o).cell? ⟨w.heap.size, 2, none⟩ = some (.int .i64 z) ∧ (w8.alloc o).cell? ⟨w.heap.size + 1, 0, none⟩ = some (.int .i64 id) ∧ (w8.alloc o).cell? ⟨w.heap.size + 1, 1, none⟩ = some (.int .i64 ep) ∧ (w8.alloc o).cell? ⟨w.heap.size + 1, 2, none⟩ = some (.int .i64 0) ∧ (w8.alloc o).cell? ⟨w.heap.size + 1, 3, none⟩ = some (.slice a ss.length c) := fun o => ⟨cel5 (al5 w8 o) kk8.1, cel5 (al5 w8 o) kk8.2.1, cel5 (al5 w8 o) kk8.2.2.1, cel5 (al5 w8 o) kk8.2.2.2.1, cel5 (al5 w8 o) kk8.2.2.2.2⟩
    refine hK.out _ _ (kk9 _) (fun hH12 => ?_)
    clear hK KK hH10
    try simp only [Act.put, List.setIfInBounds_toArray, List.set_cons_zero, List.set_cons_succ]
    refine wpAnyH_ready (rs := [13]) (by kernel_rfl) (by simp) ?_
    refine AllReadyH.cons (o := ⟨_, _, _, _, _, _⟩) rfl (fun KK hK => ?_) AllReadyH.nil
    go_simp
    refine hK.out _ _ (kk9 _) (fun hH13 => ?_)
    clear hK KK hH12
    try simp only [Act.put, List.setIfInBounds_toArray, List.set_cons_zero, List.set_cons_succ]
    refine wpAnyH_done (by kernel_rfl) (NoPanic.normal ?_) _
    have HU : Below u7.heap.size u7 (w8.alloc (.cells #[.int .i64 z, .int .i64 ep, .int .i64 id, .int .i64 0, .slice ra ss.length rc] 48)) := ((Below.refl u7.heap.size u7).drew.trans (hT.bel.mono (Nat.le_refl _))).alloc (by have := hT.bel.size; exact this) _
    have hT1 : ∀ b, (Value.slice ra ss.length rc).ownBlock = some b → u7.heap.size ≤ b ∧ b < w8.heap.size := fun b hb => hT.own.lt b hb
    have HOT : Hid ((w8.alloc (.cells #[.int .i64 z, .int .i64 ep, .int .i64 id, .int .i64 0, .slice ra ss.length rc] 48)).ownsRow w.heap.size 9 1 (.slice ra ss.length rc) ss.length (strVals ss)) := owns_mono (owns_below hT.own (al5 _ _)) (by have := BB.size; exact this)
    have b0 : (w8.alloc (.cells #[.int .i64 z, .int .i64 ep, .int .i64 id, .int .i64 0, .slice ra ss.length rc] 48)).cell? ⟨w8.heap.size, 0, none⟩ = some (.int .i64 z) := by simp [go_sem]
    have b1 : (w8.alloc (.cells #[.int .i64 z, .int .i64 ep, .int .i64 id, .int .i64 0, .slice ra ss.length rc] 48)).cell? ⟨w8.heap.size, 1, none⟩ = some (.int .i64 ep) := by simp [go_sem]
    have b2 : (w8.alloc (.cells #[.int .i64 z, .int .i64 ep, .int .i64 id, .int .i64 0, .slice ra ss.length rc] 48)).cell? ⟨w8.heap.size, 2, none⟩ = some (.int .i64 id) := by simp [go_sem]
    have b3 : (w8.alloc (.cells #[.int .i64 z, .int .i64 ep, .int .i64 id, .int .i64 0, .slice ra ss.length rc] 48)).cell? ⟨w8.heap.size, 3, none⟩ = some (.int .i64 0) := by simp [go_sem]
    have b4 : (w8.alloc (.cells #[.int .i64 z, .int .i64 ep, .int .i64 id, .int .i64 0, .slice ra ss.length rc] 48)).cell? ⟨w8.heap.size, 4, none⟩ = some (.slice ra ss.length rc) := by simp [go_sem]
    have hsz : (w8.alloc (.cells #[.int .i64 z, .int .i64 ep, .int .i64 id, .int .i64 0, .slice ra ss.length rc] 48)).heap.size = w8.heap.size + 1 := by simp
    have hsg : u7.heap.size ≤ w8.heap.size := hT.bel.size
    have hT2 : ∀ b, (Value.slice ra ss.length rc).ownBlock = some b → u7.heap.size ≤ b ∧ b < (w8.alloc (.cells #[.int .i64 z, .int .i64 ep, .int .i64 id, .int .i64 0, .slice ra ss.length rc] 48)).heap.size := fun b hb => by have := hT1 b hb; omega
    have hgl : w8.heap.size < (w8.alloc (.cells #[.int .i64 z, .int .i64 ep, .int .i64 id, .int .i64 0, .slice ra ss.length rc] 48)).heap.size := by omega
    clear hT hT1 hH13 kk9 kk8 hsz
    generalize (w8.alloc (.cells #[.int .i64 z, .int .i64 ep, .int .i64 id, .int .i64 0, .slice ra ss.length rc] 48)) = w9 at *
    generalize w8.heap.size = gb at *
    have hzN : w.heap.size + 1 + 1 < u7.heap.size := by omega
    have hzu : w1.heap.size + 1 + 1 < u5.heap.size := by omega
    replace p0d : w9.cell? ⟨w.heap.size, 0, none⟩ = some (.slice (some ⟨u5.heap.size + 1, 0, none⟩) 1 cp) := cel5 HU p0d
    replace p1d : w9.cell? ⟨w.heap.size, 1, none⟩ = some (.slice none 0 0) := cel5 HU p1d
    replace p2d : w9.cell? ⟨w.heap.size, 2, none⟩ = some (.int .i64 z) := cel5 HU p2d
    replace q0d : w9.cell? ⟨w.heap.size + 1, 0, none⟩ = some (.int .i64 id) := cel5 HU q0d
    replace q1d : w9.cell? ⟨w.heap.size + 1, 1, none⟩ = some (.int .i64 ep) := cel5 HU q1d
    replace q2d : w9.cell? ⟨w.heap.size + 1, 2, none⟩ = some (.int .i64 0) := cel5 HU q2d
    replace q3d : w9.cell? ⟨w.heap.size + 1, 3, none⟩ = some (.slice a ss.length c) := cel5 HU q3d
    replace r0d : w9.cell? ⟨w.heap.size + 1 + 1, 0, none⟩ = some (.slice none 0 0) := cel5 HU r0d
    replace r1d : w9.cell? ⟨w.heap.size + 1 + 1, 1, none⟩ = some (.slice none 0 0) := cel5 HU r1d
    replace r2d : w9.cell? ⟨w.heap.size + 1 + 1, 2, none⟩ = some (.int .i64 0) := cel5 HU r2d
    replace F0 : ∀ o, w9.frozen? ⟨w.heap.size, o, none⟩ = false := fun o => fz5 HU (by omega) (F0 o)
    replace F1 : ∀ o, w9.frozen? ⟨w.heap.size + 1 + 1, o, none⟩ = false := fun o => fz5 HU (by omega) (F1 o)
    replace HOP : Hid (w9.ownsRow w.heap.size 84 4 (.slice (some ⟨u5.heap.size + 1, 0, none⟩) 1 cp) 1 [.int .i64 id, .int .i64 ep, .int .i64 ss.length, .slice (some ⟨w1.heap.size + 1 + 1, 0, none⟩) 1 cap4]) := owns_below HOP.out HU
    replace HOW : Hid (w9.ownsRow w.heap.size 103 3 (.slice (some ⟨w1.heap.size + 1 + 1, 0, none⟩) 1 cap4) 1 [.int .i64 0, .int .i64 ss.length, .int .i64 z]) := owns_below HOW.out HU
    replace BB := st5 BB HU
    have hz9 := HU.size
    clear HU kk
    go_wp2_with (at_builtin; refine wpList_append_lies _ rfl _ _ 23 rfl w.heap.size 48 i2 _ 5 56 Try.underlying23 hi2 he0 he1 he2 rfl (by decide) (.slice none 0 0) 0 [] rfl (World.ownsRow_nil _ _ _ _) ⟨w9.heap.size, 0, none⟩ 1 1 [.int .i64 z, .int .i64 ep, .int .i64 id, .int .i64 0, .slice ra ss.length rc] rfl rfl ?c1 ?c2 (by omega) ?c3 ?c4 ?c5 (w9.heap.size + 1) ?c6 ?_)
    case c1 => exact World.news_of_block (cs := #[.int .i64 z, .int .i64 ep, .int .i64 id, .int .i64 0, .slice ra ss.length rc]) (t := 48) (fr := (0, 0)) (by first | exact (heap_alloc_new w9 _) | simpa using (heap_alloc_new w9 _))
    case c2 => simp [Value.oneCell']
    case c3 => unfold maxLen; omega
    case c4 => omega
    case c5 => simp; omega
    case c6 => simp
    intro gl cl w10 hownL hgrow hat _
    have hgl2 : gl = w9.heap.size + 1 := by simpa [Value.ownBlock] using hat
    have HV := (al5 w9 _).trans (((Below.refl _ _).grown hgrow (Nat.le_refl _) (fun k hk => by simp [Value.ownBlock] at hk)).mono (by simp))
    subst hgl2
    replace p0d : w10.cell? ⟨w.heap.size, 0, none⟩ = some (.slice (some ⟨u5.heap.size + 1, 0, none⟩) 1 cp) := cel5 HV p0d
    replace p1d : w10.cell? ⟨w.heap.size, 1, none⟩ = some (.slice none 0 0) := cel5 HV p1d
    replace p2d : w10.cell? ⟨w.heap.size, 2, none⟩ = some (.int .i64 z) := cel5 HV p2d
    replace q0d : w10.cell? ⟨w.heap.size + 1, 0, none⟩ = some (.int .i64 id) := cel5 HV q0d
    replace q1d : w10.cell? ⟨w.heap.size + 1, 1, none⟩ = some (.int .i64 ep) := cel5 HV q1d
    replace q2d : w10.cell? ⟨w.heap.size + 1, 2, none⟩ = some (.int .i64 0) := cel5 HV q2d
    replace q3d : w10.cell? ⟨w.heap.size + 1, 3, none⟩ = some (.slice a ss.length c) := cel5 HV q3d
    replace r0d : w10.cell? ⟨w.heap.size + 1 + 1, 0, none⟩ = some (.slice none 0 0) := cel5 HV r0d
    replace r1d : w10.cell? ⟨w.heap.size + 1 + 1, 1, none⟩ = some (.slice none 0 0) := cel5 HV r1d
    replace r2d : w10.cell? ⟨w.heap.size + 1 + 1, 2, none⟩ = some (.int .i64 0) := cel5 HV r2d
    replace F0 : ∀ o, w10.frozen? ⟨w.heap.size, o, none⟩ = false := fun o => fz5 HV (by omega) (F0 o)
    replace F1 : ∀ o, w10.frozen? ⟨w.heap.size + 1 + 1, o, none⟩ = false := fun o => fz5 HV (by omega) (F1 o)
    replace HOP : Hid (w10.ownsRow w.heap.size 84 4 (.slice (some ⟨u5.heap.size + 1, 0, none⟩) 1 cp) 1 [.int .i64 id, .int .i64 ep, .int .i64 ss.length, .slice (some ⟨w1.heap.size + 1 + 1, 0, none⟩) 1 cap4]) := owns_below HOP.out HV
    replace HOW : Hid (w10.ownsRow w.heap.size 103 3 (.slice (some ⟨w1.heap.size + 1 + 1, 0, none⟩) 1 cap4) 1 [.int .i64 0, .int .i64 ss.length, .int .i64 z]) := owns_below HOW.out HV
    replace HOT : Hid (w10.ownsRow w.heap.size 9 1 (.slice ra ss.length rc) ss.length (strVals ss)) := owns_below HOT.out HV
    replace BB := st5 BB HV
    have HOL : Hid (w10.ownsRow w.heap.size 48 5 (.slice (some ⟨w9.heap.size + 1, 0, none⟩) 1 cl) 1 [.int .i64 z, .int .i64 ep, .int .i64 id, .int .i64 0, .slice ra ss.length rc]) := hownL
    clear HV hownL hgrow hat b0 b1 b2 b3 b4
    have e1 : ∀ x, (w10.setCell ⟨w.heap.size, 1, none⟩ x).cell? ⟨w.heap.size, 2, none⟩ = some (.int .i64 z) := fun x => by simp [go_sem, p2d]
    have e2 : ∀ x, (w10.setCell ⟨w.heap.size, 1, none⟩ x).cell? ⟨w.heap.size + 1, 3, none⟩ = some (.slice a ss.length c) := fun x => sc5 (by omega) q3d
    have e3 : ∀ x y, ((w10.setCell ⟨w.heap.size, 1, none⟩ x).setCell ⟨w.heap.size, 2, none⟩ y).cell? ⟨w.heap.size, 0, none⟩ = some (.slice (some ⟨u5.heap.size + 1, 0, none⟩) 1 cp) := fun x y => by simp [go_sem, p0d]
    have e4 : ∀ x y, ((w10.setCell ⟨w.heap.size, 1, none⟩ x).setCell ⟨w.heap.size, 2, none⟩ y).cell? ⟨w.heap.size, 1, none⟩ = some x := fun x y => by simp [go_sem, p1d]
    have e5 : ∀ x y, ((w10.setCell ⟨w.heap.size, 1, none⟩ x).setCell ⟨w.heap.size, 2, none⟩ y).cell? ⟨w.heap.size, 2, none⟩ = some y := fun x y => by simp [go_sem, p2d]
    have e6 : ∀ x y, ((w10.setCell ⟨w.heap.size, 1, none⟩ x).setCell ⟨w.heap.size, 2, none⟩ y).cell? ⟨w.heap.size + 1 + 1, 0, none⟩ = some (.slice none 0 0) := fun x y => sc5 (by omega) (sc5 (by omega) r0d)
    have e7 : ∀ x y, ((w10.setCell ⟨w.heap.size, 1, none⟩ x).setCell ⟨w.heap.size, 2, none⟩ y).cell? ⟨w.heap.size + 1 + 1, 1, none⟩ = some (.slice none 0 0) := fun x y => sc5 (by omega) (sc5 (by omega) r1d)
    have e8 : ∀ x y, ((w10.setCell ⟨w.heap.size, 1, none⟩ x).setCell ⟨w.heap.size, 2, none⟩ y).cell? ⟨w.heap.size + 1 + 1, 2, none⟩ = some (.int .i64 0) := fun x y => sc5 (by omega) (sc5 (by omega) r2d)
    have g1 : ∀ x o, (w10.setCell ⟨w.heap.size, 1, none⟩ x).frozen? ⟨w.heap.size, o, none⟩ = false := fun x o => by simp [go_sem, F0]
    have g2 : ∀ x y o, ((w10.setCell ⟨w.heap.size, 1, none⟩ x).setCell ⟨w.heap.size, 2, none⟩ y).frozen? ⟨w.heap.size + 1 + 1, o, none⟩ = false := fun x y o => by simp [go_sem, F1]
    go_wp2_with fail
    refine bodyPost_ret (v := .agg #[.slice (some ⟨u5.heap.size + 1, 0, none⟩) 1 cp, .slice (some ⟨w9.heap.size + 1, 0, none⟩) 1 cl, .int .i64 (z + ss.length)]) (by simp [results, Try.results52, go_sem, r0d, r1d, r2d]) rfl ⟨u5.heap.size + 1, cp, w9.heap.size + 1, cl, w1.heap.size + 1 + 1, cap4, _, rfl, ?_, ?_, ?_, ?_, by omega, by omega, fun b hb => by have := hT2 b hb; omega, ?_⟩
    · exact (own5 (own5 (own5 (own5 (own5 HOP.out (fun q hq => by simp [Value.ownBlock] at hq; omega)) (fun q hq => by simp [Value.ownBlock] at hq; omega)) (fun q hq => by simp [Value.ownBlock] at hq; omega)) (fun q hq => by simp [Value.ownBlock] at hq; omega)) (fun q hq => by simp [Value.ownBlock] at hq; omega))
    · exact (own5 (own5 (own5 (own5 (own5 HOW.out (fun q hq => by simp [Value.ownBlock] at hq; omega)) (fun q hq => by simp [Value.ownBlock] at hq; omega)) (fun q hq => by simp [Value.ownBlock] at hq; omega)) (fun q hq => by simp [Value.ownBlock] at hq; omega)) (fun q hq => by simp [Value.ownBlock] at hq; omega))
    · exact (own5 (own5 (own5 (own5 (own5 HOL.out (fun q hq => by simp [Value.ownBlock] at hq; omega)) (fun q hq => by simp [Value.ownBlock] at hq; omega)) (fun q hq => by simp [Value.ownBlock] at hq; omega)) (fun q hq => by simp [Value.ownBlock] at hq; omega)) (fun q hq => by simp [Value.ownBlock] at hq; omega))
    · exact (own5 (own5 (own5 (own5 (own5 HOT.out (fun q hq => by have := hT2 q hq; omega)) (fun q hq => by have := hT2 q hq; omega)) (fun q hq => by have := hT2 q hq; omega)) (fun q hq => by have := hT2 q hq; omega)) (fun q hq => by have := hT2 q hq; omega))
    · exact ((((BB.setCell (Nat.le_refl _) _).setCell (Nat.le_refl _) _).setCell (by simp; try omega) _).setCell (by simp; try omega) _).setCell (by simp; try omega) _
  case a2 =>
    go_simp
    have kk8 : ∀ o, (u7.alloc o).cell? ⟨w.heap.size, 2, none⟩ = some (.int .i64 z) ∧ (u7.alloc o).cell? ⟨w.heap.size + 1, 0, none⟩ = some (.int .i64 id) ∧ (u7.alloc o).cell? ⟨w.heap.size + 1, 1, none⟩ = some (.int .i64 ep) ∧ (u7.alloc o).cell? ⟨w.heap.size + 1, 2, none⟩ = some (.int .i64 0) ∧ (u7.alloc o).cell? ⟨w.heap.size + 1, 3, none⟩ = some (.slice a ss.length c) := fun o => ⟨cel5 (al5 u7 o) kk.1, cel5 (al5 u7 o) kk.2.1, cel5 (al5 u7 o) kk.2.2.1, cel5 (al5 u7 o) kk.2.2.2.1, cel5 (al5 u7 o) kk.2.2.2.2⟩
    refine hK.out _ _ (kk8 _) (fun hH10 => ?_)
    clear hK KK hH
    try simp only [Act.put, List.setIfInBounds_toArray, List.set_cons_zero, List.set_cons_succ]
    refine wpAnyH_ready (rs := [10]) (by kernel_rfl) (by simp) ?_
    refine AllReadyH.cons (o := ⟨_, _, _, _, _, _⟩) rfl (fun KK hK => ?_) AllReadyH.nil
    go_simp
    refine (addTexts_new _ _ ss _ (hs.below (st5 BB (al5 _ _)).drew) hl hz).mono ?_
    rintro r w8 ⟨vR, rfl, hT⟩
    have kk9 : w8.cell? ⟨w.heap.size, 2, none⟩ = some (.int .i64 z) ∧ w8.cell? ⟨w.heap.size + 1, 0, none⟩ = some (.int .i64 id) ∧ w8.cell? ⟨w.heap.size + 1, 1, none⟩ = some (.int .i64 ep) ∧ w8.cell? ⟨w.heap.size + 1, 2, none⟩ = some (.int .i64 0) ∧ w8.cell? ⟨w.heap.size + 1, 3, none⟩ = some (.slice a ss.length c) := ⟨cel5 hT.bel (kk8 _).1, cel5 hT.bel (kk8 _).2.1, cel5 hT.bel (kk8 _).2.2.1, cel5 hT.bel (kk8 _).2.2.2.1, cel5 hT.bel (kk8 _).2.2.2.2⟩
    obtain ⟨ra, rc, hv⟩ := ownForm hT.own
    subst hv
    have b0 : w8.cell? ⟨u7.heap.size, 0, none⟩ = some (.int .i64 0) := cel5 hT.bel (by simp [go_sem])
    have b1 : w8.cell? ⟨u7.heap.size, 1, none⟩ = some (.int .i64 0) := cel5 hT.bel (by simp [go_sem])
    have b2 : w8.cell? ⟨u7.heap.size, 2, none⟩ = some (.int .i64 0) := cel5 hT.bel (by simp [go_sem])
    have b3 : w8.cell? ⟨u7.heap.size, 3, none⟩ = some (.int .i64 0) := cel5 hT.bel (by simp [go_sem])
    have b4 : w8.cell? ⟨u7.heap.size, 4, none⟩ = some (.slice none 0 0) := cel5 hT.bel (by simp [go_sem])
    have fb : ∀ o, w8.frozen? ⟨u7.heap.size, o, none⟩ = false := fun o => fz5 hT.bel (by simp) (by simp [go_sem])
    go_wp2_with fail
    refine hK.out _ _ kk9 (fun hH11 => ?_)
    clear hK KK hH10
    try simp only [Act.put, List.setIfInBounds_toArray, List.set_cons_zero, List.set_cons_succ]
    refine wpAnyH_take (i := 11) (oi := ⟨_, _, _, _, _, _⟩) (v := ?vc11) rfl (by kernel_rfl) (by kernel_rfl) (by kernel_rfl) (fun _ _ _ h => h) (Or.inl ⟨by rfl, ?yc11⟩) (by assumption) ?rc11
    case yc11 => intro w hSw; (try dsimp only at hSw); go_simp; try with_reducible rfl
    try simp only [Act.put, List.setIfInBounds_toArray, List.set_cons_zero, List.set_cons_succ]
    refine wpAnyH_ready (rs := [13]) (by kernel_rfl) (by simp) ?_
    refine AllReadyH.cons (o := ⟨_, _, _, _, _, _⟩) rfl (fun KK hK => ?_) AllReadyH.nil
    go_simp
    have kkq : ∀ v0 v1 v2 v3 v4, (((((w8.setCell ⟨u7.heap.size, 0, none⟩ v0).setCell ⟨u7.heap.size, 1, none⟩ v1).setCell ⟨u7.heap.size, 2, none⟩ v2).setCell ⟨u7.heap.size, 3, none⟩ v3).setCell ⟨u7.heap.size, 4, none⟩ v4).cell? ⟨w.heap.size, 2, none⟩ = some (.int .i64 z) ∧ (((((w8.setCell ⟨u7.heap.size, 0, none⟩ v0).setCell ⟨u7.heap.size, 1, none⟩ v1).setCell ⟨u7.heap.size, 2, none⟩ v2).setCell ⟨u7.heap.size, 3, none⟩ v3).setCell ⟨u7.heap.size, 4, none⟩ v4).cell? ⟨w.heap.size + 1, 0, none⟩ = some (.int .i64 id) ∧ (((((w8.setCell ⟨u7.heap.size, 0, none⟩ v0).setCell ⟨u7.heap.size, 1, none⟩ v1).setCell ⟨u7.heap.size, 2, none⟩ v2).setCell ⟨u7.heap.size, 3, none⟩ v3).setCell ⟨u7.heap.size, 4, none⟩ v4).cell? ⟨w.heap.size + 1, 1, none⟩ = some (.int .i64 ep) ∧ (((((w8.setCell ⟨u7.heap.size, 0, none⟩ v0).setCell ⟨u7.heap.size, 1, none⟩ v1).setCell ⟨u7.heap.size, 2, none⟩ v2).setCell ⟨u7.heap.size, 3, none⟩ v3).setCell ⟨u7.heap.size, 4, none⟩ v4).cell? ⟨w.heap.size + 1, 2, none⟩ = some (.int .i64 0) ∧ (((((w8.setCell ⟨u7.heap.size, 0, none⟩ v0).setCell ⟨u7.heap.size, 1, none⟩ v1).setCell ⟨u7.heap.size, 2, none⟩ v2).setCell ⟨u7.heap.size, 3, none⟩ v3).setCell ⟨u7.heap.size, 4, none⟩ v4).cell? ⟨w.heap.size + 1, 3, none⟩ = some (.slice a ss.length c) := fun v0 v1 v2 v3 v4 => ⟨sc5 (by omega) (sc5 (by omega) (sc5 (by omega) (sc5 (by omega) (sc5 (by omega) kk9.1)))), sc5 (by omega) (sc5 (by omega) (sc5 (by omega) (sc5 (by omega) (sc5 (by omega) kk9.2.1)))), sc5 (by omega) (sc5 (by omega) (sc5 (by omega) (sc5 (by omega) (sc5 (by omega) kk9.2.2.1)))), sc5 (by omega) (sc5 (by omega) (sc5 (by omega) (sc5 (by omega) (sc5 (by omega) kk9.2.2.2.1)))), sc5 (by omega) (sc5 (by omega) (sc5 (by omega) (sc5 (by omega) (sc5 (by omega) kk9.2.2.2.2))))⟩
    refine hK.out _ _ (kkq _ _ _ _ _) (fun hH13 => ?_)
    clear hK KK hH11
    try simp only [Act.put, List.setIfInBounds_toArray, List.set_cons_zero, List.set_cons_succ]
    refine wpAnyH_done (by kernel_rfl) (NoPanic.normal ?_) _
    have HU0 : Below u7.heap.size u7 w8 := (al5 u7 _).drew.trans (hT.bel.mono (by simp))
    have HU : Below u7.heap.size u7 (((((w8.setCell ⟨u7.heap.size, 0, none⟩ (.int .i64 z)).setCell ⟨u7.heap.size, 1, none⟩ (.int .i64 ep)).setCell ⟨u7.heap.size, 2, none⟩ (.int .i64 id)).setCell ⟨u7.heap.size, 3, none⟩ (.int .i64 0)).setCell ⟨u7.heap.size, 4, none⟩ (.slice ra ss.length rc)) := ((((HU0.setCell (Nat.le_refl _) _).setCell (Nat.le_refl _) _).setCell (Nat.le_refl _) _).setCell (Nat.le_refl _) _).setCell (Nat.le_refl _) _
    have hT1 : ∀ b, (Value.slice ra ss.length rc).ownBlock = some b → u7.heap.size + 1 ≤ b ∧ b < w8.heap.size := fun b hb => by have := hT.own.lt b hb; simpa using this
    have HOT : Hid ((((((w8.setCell ⟨u7.heap.size, 0, none⟩ (.int .i64 z)).setCell ⟨u7.heap.size, 1, none⟩ (.int .i64 ep)).setCell ⟨u7.heap.size, 2, none⟩ (.int .i64 id)).setCell ⟨u7.heap.size, 3, none⟩ (.int .i64 0)).setCell ⟨u7.heap.size, 4, none⟩ (.slice ra ss.length rc)).ownsRow w.heap.size 9 1 (.slice ra ss.length rc) ss.length (strVals ss)) := owns_mono (own5 (own5 (own5 (own5 (own5 hT.own (fun q hq => by have := hT1 q hq; omega)) (fun q hq => by have := hT1 q hq; omega)) (fun q hq => by have := hT1 q hq; omega)) (fun q hq => by have := hT1 q hq; omega)) (fun q hq => by have := hT1 q hq; omega)) (by have := BB.size; simp; omega)
    have d0 : (((((w8.setCell ⟨u7.heap.size, 0, none⟩ (.int .i64 z)).setCell ⟨u7.heap.size, 1, none⟩ (.int .i64 ep)).setCell ⟨u7.heap.size, 2, none⟩ (.int .i64 id)).setCell ⟨u7.heap.size, 3, none⟩ (.int .i64 0)).setCell ⟨u7.heap.size, 4, none⟩ (.slice ra ss.length rc)).cell? ⟨u7.heap.size, 0, none⟩ = some (.int .i64 z) := by simp [go_sem, b0]
    have d1 : (((((w8.setCell ⟨u7.heap.size, 0, none⟩ (.int .i64 z)).setCell ⟨u7.heap.size, 1, none⟩ (.int .i64 ep)).setCell ⟨u7.heap.size, 2, none⟩ (.int .i64 id)).setCell ⟨u7.heap.size, 3, none⟩ (.int .i64 0)).setCell ⟨u7.heap.size, 4, none⟩ (.slice ra ss.length rc)).cell? ⟨u7.heap.size, 1, none⟩ = some (.int .i64 ep) := by simp [go_sem, b1]
    have d2 : (((((w8.setCell ⟨u7.heap.size, 0, none⟩ (.int .i64 z)).setCell ⟨u7.heap.size, 1, none⟩ (.int .i64 ep)).setCell ⟨u7.heap.size, 2, none⟩ (.int .i64 id)).setCell ⟨u7.heap.size, 3, none⟩ (.int .i64 0)).setCell ⟨u7.heap.size, 4, none⟩ (.slice ra ss.length rc)).cell? ⟨u7.heap.size, 2, none⟩ = some (.int .i64 id) := by simp [go_sem, b2]
    have d3 : (((((w8.setCell ⟨u7.heap.size, 0, none⟩ (.int .i64 z)).setCell ⟨u7.heap.size, 1, none⟩ (.int .i64 ep)).setCell ⟨u7.heap.size, 2, none⟩ (.int .i64 id)).setCell ⟨u7.heap.size, 3, none⟩ (.int .i64 0)).setCell ⟨u7.heap.size, 4, none⟩ (.slice ra ss.length rc)).cell? ⟨u7.heap.size, 3, none⟩ = some (.int .i64 0) := by simp [go_sem, b3]
    have d4 : (((((w8.setCell ⟨u7.heap.size, 0, none⟩ (.int .i64 z)).setCell ⟨u7.heap.size, 1, none⟩ (.int .i64 ep)).setCell ⟨u7.heap.size, 2, none⟩ (.int .i64 id)).setCell ⟨u7.heap.size, 3, none⟩ (.int .i64 0)).setCell ⟨u7.heap.size, 4, none⟩ (.slice ra ss.length rc)).cell? ⟨u7.heap.size, 4, none⟩ = some (.slice ra ss.length rc) := by simp [go_sem, b4]
    have hsz : (((((w8.setCell ⟨u7.heap.size, 0, none⟩ (.int .i64 z)).setCell ⟨u7.heap.size, 1, none⟩ (.int .i64 ep)).setCell ⟨u7.heap.size, 2, none⟩ (.int .i64 id)).setCell ⟨u7.heap.size, 3, none⟩ (.int .i64 0)).setCell ⟨u7.heap.size, 4, none⟩ (.slice ra ss.length rc)).heap.size = w8.heap.size := by simp
    have hsg : u7.heap.size ≤ u7.heap.size := Nat.le_refl _
    have hgl : u7.heap.size < (((((w8.setCell ⟨u7.heap.size, 0, none⟩ (.int .i64 z)).setCell ⟨u7.heap.size, 1, none⟩ (.int .i64 ep)).setCell ⟨u7.heap.size, 2, none⟩ (.int .i64 id)).setCell ⟨u7.heap.size, 3, none⟩ (.int .i64 0)).setCell ⟨u7.heap.size, 4, none⟩ (.slice ra ss.length rc)).heap.size := by rw [hsz]; have := hT.bel.size; simp at this; omega
    have hT2 : ∀ b, (Value.slice ra ss.length rc).ownBlock = some b → u7.heap.size ≤ b ∧ b < (((((w8.setCell ⟨u7.heap.size, 0, none⟩ (.int .i64 z)).setCell ⟨u7.heap.size, 1, none⟩ (.int .i64 ep)).setCell ⟨u7.heap.size, 2, none⟩ (.int .i64 id)).setCell ⟨u7.heap.size, 3, none⟩ (.int .i64 0)).setCell ⟨u7.heap.size, 4, none⟩ (.slice ra ss.length rc)).heap.size := fun b hb => by have := hT1 b hb; omega
    clear hT hT1 hH13 kk9 kk8 kkq HU0 hsz fb b0 b1 b2 b3 b4
    have b0 := d0
    have b1 := d1
    have b2 := d2
    have b3 := d3
    have b4 := d4
    clear d0 d1 d2 d3 d4
    generalize (((((w8.setCell ⟨u7.heap.size, 0, none⟩ (.int .i64 z)).setCell ⟨u7.heap.size, 1, none⟩ (.int .i64 ep)).setCell ⟨u7.heap.size, 2, none⟩ (.int .i64 id)).setCell ⟨u7.heap.size, 3, none⟩ (.int .i64 0)).setCell ⟨u7.heap.size, 4, none⟩ (.slice ra ss.length rc)) = w9 at *
    clear hsg
    have hzN : w.heap.size + 1 + 1 < u7.heap.size := by omega
    have hzu : w1.heap.size + 1 + 1 < u5.heap.size := by omega
    replace p0d : w9.cell? ⟨w.heap.size, 0, none⟩ = some (.slice (some ⟨u5.heap.size + 1, 0, none⟩) 1 cp) := cel5 HU p0d
    replace p1d : w9.cell? ⟨w.heap.size, 1, none⟩ = some (.slice none 0 0) := cel5 HU p1d
    replace p2d : w9.cell? ⟨w.heap.size, 2, none⟩ = some (.int .i64 z) := cel5 HU p2d
    replace q0d : w9.cell? ⟨w.heap.size + 1, 0, none⟩ = some (.int .i64 id) := cel5 HU q0d
    replace q1d : w9.cell? ⟨w.heap.size + 1, 1, none⟩ = some (.int .i64 ep) := cel5 HU q1d
    replace q2d : w9.cell? ⟨w.heap.size + 1, 2, none⟩ = some (.int .i64 0) := cel5 HU q2d
    replace q3d : w9.cell? ⟨w.heap.size + 1, 3, none⟩ = some (.slice a ss.length c) := cel5 HU q3d
    replace r0d : w9.cell? ⟨w.heap.size + 1 + 1, 0, none⟩ = some (.slice none 0 0) := cel5 HU r0d
    replace r1d : w9.cell? ⟨w.heap.size + 1 + 1, 1, none⟩ = some (.slice none 0 0) := cel5 HU r1d
    replace r2d : w9.cell? ⟨w.heap.size + 1 + 1, 2, none⟩ = some (.int .i64 0) := cel5 HU r2d
    replace F0 : ∀ o, w9.frozen? ⟨w.heap.size, o, none⟩ = false := fun o => fz5 HU (by omega) (F0 o)
    replace F1 : ∀ o, w9.frozen? ⟨w.heap.size + 1 + 1, o, none⟩ = false := fun o => fz5 HU (by omega) (F1 o)
    replace HOP : Hid (w9.ownsRow w.heap.size 84 4 (.slice (some ⟨u5.heap.size + 1, 0, none⟩) 1 cp) 1 [.int .i64 id, .int .i64 ep, .int .i64 ss.length, .slice (some ⟨w1.heap.size + 1 + 1, 0, none⟩) 1 cap4]) := owns_below HOP.out HU
    replace HOW : Hid (w9.ownsRow w.heap.size 103 3 (.slice (some ⟨w1.heap.size + 1 + 1, 0, none⟩) 1 cap4) 1 [.int .i64 0, .int .i64 ss.length, .int .i64 z]) := owns_below HOW.out HU
    replace BB := st5 BB HU
    have hz9 := HU.size
    clear HU kk
    go_wp2_with (at_builtin; refine wpList_append_lies _ rfl _ _ 23 rfl w.heap.size 48 i2 _ 5 56 Try.underlying23 hi2 he0 he1 he2 rfl (by decide) (.slice none 0 0) 0 [] rfl (World.ownsRow_nil _ _ _ _) ⟨w9.heap.size, 0, none⟩ 1 1 [.int .i64 z, .int .i64 ep, .int .i64 id, .int .i64 0, .slice ra ss.length rc] rfl rfl ?c1 ?c2 (by omega) ?c3 ?c4 ?c5 (w9.heap.size + 1) ?c6 ?_)
    case c1 => exact World.news_of_block (cs := #[.int .i64 z, .int .i64 ep, .int .i64 id, .int .i64 0, .slice ra ss.length rc]) (t := 48) (fr := (0, 0)) (by first | exact (heap_alloc_new w9 _) | simpa using (heap_alloc_new w9 _))
    case c2 => simp [Value.oneCell']
    case c3 => unfold maxLen; omega
    case c4 => omega
    case c5 => simp; omega
    case c6 => simp
    intro gl cl w10 hownL hgrow hat _
    have hgl2 : gl = w9.heap.size + 1 := by simpa [Value.ownBlock] using hat
    have HV := (al5 w9 _).trans (((Below.refl _ _).grown hgrow (Nat.le_refl _) (fun k hk => by simp [Value.ownBlock] at hk)).mono (by simp))
    subst hgl2
    replace p0d : w10.cell? ⟨w.heap.size, 0, none⟩ = some (.slice (some ⟨u5.heap.size + 1, 0, none⟩) 1 cp) := cel5 HV p0d
    replace p1d : w10.cell? ⟨w.heap.size, 1, none⟩ = some (.slice none 0 0) := cel5 HV p1d
    replace p2d : w10.cell? ⟨w.heap.size, 2, none⟩ = some (.int .i64 z) := cel5 HV p2d
    replace q0d : w10.cell? ⟨w.heap.size + 1, 0, none⟩ = some (.int .i64 id) := cel5 HV q0d
    replace q1d : w10.cell? ⟨w.heap.size + 1, 1, none⟩ = some (.int .i64 ep) := cel5 HV q1d
    replace q2d : w10.cell? ⟨w.heap.size + 1, 2, none⟩ = some (.int .i64 0) := cel5 HV q2d
    replace q3d : w10.cell? ⟨w.heap.size + 1, 3, none⟩ = some (.slice a ss.length c) := cel5 HV q3d
    replace r0d : w10.cell? ⟨w.heap.size + 1 + 1, 0, none⟩ = some (.slice none 0 0) := cel5 HV r0d
    replace r1d : w10.cell? ⟨w.heap.size + 1 + 1, 1, none⟩ = some (.slice none 0 0) := cel5 HV r1d
    replace r2d : w10.cell? ⟨w.heap.size + 1 + 1, 2, none⟩ = some (.int .i64 0) := cel5 HV r2d
    replace F0 : ∀ o, w10.frozen? ⟨w.heap.size, o, none⟩ = false := fun o => fz5 HV (by omega) (F0 o)
    replace F1 : ∀ o, w10.frozen? ⟨w.heap.size + 1 + 1, o, none⟩ = false := fun o => fz5 HV (by omega) (F1 o)
    replace HOP : Hid (w10.ownsRow w.heap.size 84 4 (.slice (some ⟨u5.heap.size + 1, 0, none⟩) 1 cp) 1 [.int .i64 id, .int .i64 ep, .int .i64 ss.length, .slice (some ⟨w1.heap.size + 1 + 1, 0, none⟩) 1 cap4]) := owns_below HOP.out HV
    replace HOW : Hid (w10.ownsRow w.heap.size 103 3 (.slice (some ⟨w1.heap.size + 1 + 1, 0, none⟩) 1 cap4) 1 [.int .i64 0, .int .i64 ss.length, .int .i64 z]) := owns_below HOW.out HV
    replace HOT : Hid (w10.ownsRow w.heap.size 9 1 (.slice ra ss.length rc) ss.length (strVals ss)) := owns_below HOT.out HV
    replace BB := st5 BB HV
    have HOL : Hid (w10.ownsRow w.heap.size 48 5 (.slice (some ⟨w9.heap.size + 1, 0, none⟩) 1 cl) 1 [.int .i64 z, .int .i64 ep, .int .i64 id, .int .i64 0, .slice ra ss.length rc]) := hownL
    clear HV hownL hgrow hat b0 b1 b2 b3 b4
    have e1 : ∀ x, (w10.setCell ⟨w.heap.size, 1, none⟩ x).cell? ⟨w.heap.size, 2, none⟩ = some (.int .i64 z) := fun x => by simp [go_sem, p2d]
    have e2 : ∀ x, (w10.setCell ⟨w.heap.size, 1, none⟩ x).cell? ⟨w.heap.size + 1, 3, none⟩ = some (.slice a ss.length c) := fun x => sc5 (by omega) q3d
    have e3 : ∀ x y, ((w10.setCell ⟨w.heap.size, 1, none⟩ x).setCell ⟨w.heap.size, 2, none⟩ y).cell? ⟨w.heap.size, 0, none⟩ = some (.slice (some ⟨u5.heap.size + 1, 0, none⟩) 1 cp) := fun x y => by simp [go_sem, p0d]
    have e4 : ∀ x y, ((w10.setCell ⟨w.heap.size, 1, none⟩ x).setCell ⟨w.heap.size, 2, none⟩ y).cell? ⟨w.heap.size, 1, none⟩ = some x := fun x y => by simp [go_sem, p1d]
    have e5 : ∀ x y, ((w10.setCell ⟨w.heap.size, 1, none⟩ x).setCell ⟨w.heap.size, 2, none⟩ y).cell? ⟨w.heap.size, 2, none⟩ = some y := fun x y => by simp [go_sem, p2d]
    have e6 : ∀ x y, ((w10.setCell ⟨w.heap.size, 1, none⟩ x).setCell ⟨w.heap.size, 2, none⟩ y).cell? ⟨w.heap.size + 1 + 1, 0, none⟩ = some (.slice none 0 0) := fun x y => sc5 (by omega) (sc5 (by omega) r0d)
    have e7 : ∀ x y, ((w10.setCell ⟨w.heap.size, 1, none⟩ x).setCell ⟨w.heap.size, 2, none⟩ y).cell? ⟨w.heap.size + 1 + 1, 1, none⟩ = some (.slice none 0 0) := fun x y => sc5 (by omega) (sc5 (by omega) r1d)
    have e8 : ∀ x y, ((w10.setCell ⟨w.heap.size, 1, none⟩ x).setCell ⟨w.heap.size, 2, none⟩ y).cell? ⟨w.heap.size + 1 + 1, 2, none⟩ = some (.int .i64 0) := fun x y => sc5 (by omega) (sc5 (by omega) r2d)
    have g1 : ∀ x o, (w10.setCell ⟨w.heap.size, 1, none⟩ x).frozen? ⟨w.heap.size, o, none⟩ = false := fun x o => by simp [go_sem, F0]
    have g2 : ∀ x y o, ((w10.setCell ⟨w.heap.size, 1, none⟩ x).setCell ⟨w.heap.size, 2, none⟩ y).frozen? ⟨w.heap.size + 1 + 1, o, none⟩ = false := fun x y o => by simp [go_sem, F1]
    go_wp2_with fail
    refine bodyPost_ret (v := .agg #[.slice (some ⟨u5.heap.size + 1, 0, none⟩) 1 cp, .slice (some ⟨w9.heap.size + 1, 0, none⟩) 1 cl, .int .i64 (z + ss.length)]) (by simp [results, Try.results52, go_sem, r0d, r1d, r2d]) rfl ⟨u5.heap.size + 1, cp, w9.heap.size + 1, cl, w1.heap.size + 1 + 1, cap4, _, rfl, ?_, ?_, ?_, ?_, by omega, by omega, fun b hb => by have := hT2 b hb; omega, ?_⟩
    · exact (own5 (own5 (own5 (own5 (own5 HOP.out (fun q hq => by simp [Value.ownBlock] at hq; omega)) (fun q hq => by simp [Value.ownBlock] at hq; omega)) (fun q hq => by simp [Value.ownBlock] at hq; omega)) (fun q hq => by simp [Value.ownBlock] at hq; omega)) (fun q hq => by simp [Value.ownBlock] at hq; omega))
    · exact (own5 (own5 (own5 (own5 (own5 HOW.out (fun q hq => by simp [Value.ownBlock] at hq; omega)) (fun q hq => by simp [Value.ownBlock] at hq; omega)) (fun q hq => by simp [Value.ownBlock] at hq; omega)) (fun q hq => by simp [Value.ownBlock] at hq; omega)) (fun q hq => by simp [Value.ownBlock] at hq; omega))
    · exact (own5 (own5 (own5 (own5 (own5 HOL.out (fun q hq => by simp [Value.ownBlock] at hq; omega)) (fun q hq => by simp [Value.ownBlock] at hq; omega)) (fun q hq => by simp [Value.ownBlock] at hq; omega)) (fun q hq => by simp [Value.ownBlock] at hq; omega)) (fun q hq => by simp [Value.ownBlock] at hq; omega))
    · exact (own5 (own5 (own5 (own5 (own5 HOT.out (fun q hq => by have := hT2 q hq; omega)) (fun q hq => by have := hT2 q hq; omega)) (fun q hq => by have := hT2 q hq; omega)) (fun q hq => by have := hT2 q hq; omega)) (fun q hq => by have := hT2 q hq; omega))
    · exact ((((BB.setCell (Nat.le_refl _) _).setCell (Nat.le_refl _) _).setCell (by simp; try omega) _).setCell (by simp; try omega) _).setCell (by simp; try omega) _

end Go.Proofs.Ythbhokpjedndaaa
