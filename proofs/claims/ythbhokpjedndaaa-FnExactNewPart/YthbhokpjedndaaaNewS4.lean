/-
  Made by mkask.py. A new part, the specification's side: spec.l5Ask at a part with nothing in it.
-/
import Derived.Test.YthbhokpjedndaaaNewS3
import Derived.Test.YthbhokpjedndaaaOneP
namespace Go.Proofs.Ythbhokpjedndaaa
open Go.RowKit

theorem Try.infoBatch5 : (Try.prog.info? 48).map (fun i => (i.zero, i.size, i.bytes)) = some (some (.agg #[.int .i64 0, .int .i64 0, .int .i64 0, .int .i64 0, .slice none 0 0]), 5, 56) := by kernel_rfl

set_option maxRecDepth 100000 in
set_option maxHeartbeats 8000000 in
theorem l5Ask_nil : AskC := by
  intro id ep g c w hs
  obtain ⟨i1, hi1, hd0, hd1, hd2⟩ := info_parts Try.infoBatch5
  have hb3 : ∀ x y v, Below w.heap.size w (((w.alloc x).alloc y).alloc v) := fun _ _ _ => (((Below.refl _ _).alloc (Nat.le_refl _) _).alloc (by simp) _).alloc (by simp; omega) _
  go_enter Try.func48, Try.ntmps48
  go_wp2_with fail
  refine (l5Code_nil _ _ _ _ _ _ (by omega) _).mono ?_
  rintro r w1 ⟨rfl, hB1⟩
  have BB := st5 (hb3 _ _ _) hB1
  have l1 := hB1.size
  simp only [World.size_alloc] at l1
  have p0 : w1.cell? ⟨w.heap.size, 0, none⟩ = some (.slice none 0 0) := cel5 hB1 (by first | simp [go_sem] | exact cel5 (al5 _ _) (by simp [go_sem]))
  have p1 : w1.cell? ⟨w.heap.size, 1, none⟩ = some (.slice none 0 0) := cel5 hB1 (by first | simp [go_sem] | exact cel5 (al5 _ _) (by simp [go_sem]))
  have p2 : w1.cell? ⟨w.heap.size, 2, none⟩ = some (.int .i64 0) := cel5 hB1 (by first | simp [go_sem] | exact cel5 (al5 _ _) (by simp [go_sem]))
  have a0 : w1.cell? ⟨w.heap.size + 1, 0, none⟩ = some (.int .i64 id) := cel5 hB1 (by first | simp [go_sem] | exact cel5 (al5 _ _) (by simp [go_sem]))
  have a1 : w1.cell? ⟨w.heap.size + 1, 1, none⟩ = some (.int .i64 ep) := cel5 hB1 (by first | simp [go_sem] | exact cel5 (al5 _ _) (by simp [go_sem]))
  have a2 : w1.cell? ⟨w.heap.size + 1, 2, none⟩ = some (.int .i64 0) := cel5 hB1 (by first | simp [go_sem] | exact cel5 (al5 _ _) (by simp [go_sem]))
  have a3 : w1.cell? ⟨w.heap.size + 1, 3, none⟩ = some (.slice (some ⟨g, 0, none⟩) 1 c) := cel5 hB1 (by first | simp [go_sem] | exact cel5 (al5 _ _) (by simp [go_sem]))
  have r0 : w1.cell? ⟨w.heap.size + 1 + 1, 0, none⟩ = some (.slice none 0 0) := cel5 hB1 (by first | simp [go_sem] | exact cel5 (al5 _ _) (by simp [go_sem]))
  have r1 : w1.cell? ⟨w.heap.size + 1 + 1, 1, none⟩ = some (.slice none 0 0) := cel5 hB1 (by first | simp [go_sem] | exact cel5 (al5 _ _) (by simp [go_sem]))
  have r2 : w1.cell? ⟨w.heap.size + 1 + 1, 2, none⟩ = some (.int .i64 0) := cel5 hB1 (by first | simp [go_sem] | exact cel5 (al5 _ _) (by simp [go_sem]))
  have fp : ∀ o, w1.frozen? ⟨w.heap.size, o, none⟩ = false := fun o => fz5 hB1 (by simp; omega) (fz5 (al5 _ _) (by simp; omega) (fz5 (al5 _ _) (by simp) (by simp [go_sem])))
  have fr : ∀ o, w1.frozen? ⟨w.heap.size + 1 + 1, o, none⟩ = false := fun o => fz5 hB1 (by simp) (by simp [go_sem])
  have hs1 := cel5 BB hs
  clear hB1
  go_wp2_with fail
  refine (l5Batch_one id ep 0 g c _ hs1).mono ?_
  rintro r w2 ⟨g2, c2, rfl, hown2, hB2⟩
  have hg2 := (hown2.lt g2 rfl)
  have cS : w2.cell? ⟨g2, 0, none⟩ = some (.string ⟨#[]⟩) := by
    obtain ⟨f, -, hc, hR, hx⟩ := row_of_own5 hown2
    have e := hx 0 (by omega)
    simp at e
    rw [hR.cell (by omega)]; exact congrArg some e.symm
  replace BB := st5 BB hB2
  have l2 := hB2.size
  replace p0 : w2.cell? ⟨w.heap.size, 0, none⟩ = some (.slice none 0 0) := cel5 hB2 p0
  replace p1 : w2.cell? ⟨w.heap.size, 1, none⟩ = some (.slice none 0 0) := cel5 hB2 p1
  replace p2 : w2.cell? ⟨w.heap.size, 2, none⟩ = some (.int .i64 0) := cel5 hB2 p2
  replace a0 : w2.cell? ⟨w.heap.size + 1, 0, none⟩ = some (.int .i64 id) := cel5 hB2 a0
  replace a1 : w2.cell? ⟨w.heap.size + 1, 1, none⟩ = some (.int .i64 ep) := cel5 hB2 a1
  replace a2 : w2.cell? ⟨w.heap.size + 1, 2, none⟩ = some (.int .i64 0) := cel5 hB2 a2
  replace a3 : w2.cell? ⟨w.heap.size + 1, 3, none⟩ = some (.slice (some ⟨g, 0, none⟩) 1 c) := cel5 hB2 a3
  replace r0 : w2.cell? ⟨w.heap.size + 1 + 1, 0, none⟩ = some (.slice none 0 0) := cel5 hB2 r0
  replace r1 : w2.cell? ⟨w.heap.size + 1 + 1, 1, none⟩ = some (.slice none 0 0) := cel5 hB2 r1
  replace r2 : w2.cell? ⟨w.heap.size + 1 + 1, 2, none⟩ = some (.int .i64 0) := cel5 hB2 r2
  replace fp : ∀ o, w2.frozen? ⟨w.heap.size, o, none⟩ = false := fun o => fz5 hB2 (by omega) (fp o)
  replace fr : ∀ o, w2.frozen? ⟨w.heap.size + 1 + 1, o, none⟩ = false := fun o => fz5 hB2 (by omega) (fr o)
  clear hB2 hown2 hs1 a0 a1 a2 a3
  go_wp2_with fail
  obtain ⟨u, hu⟩ : ∃ u, w2.alloc (.cells #[.int .i64 0, .int .i64 ep, .int .i64 id, .int .i64 0, .slice (some ⟨g2, 0, none⟩) 1 c2] 48) = u := ⟨_, rfl⟩
  obtain ⟨bb, hbb⟩ : ∃ b, w2.heap.size = b := ⟨_, rfl⟩
  have hU : Below w2.heap.size w2 u := by rw [← hu]; exact al5 _ _
  have lu : bb < u.heap.size := by rw [← hu, ← hbb]; simp
  have hbl : w.heap.size + 1 + 1 < bb := by omega
  have hg2l : g2 < bb := by omega
  have kk : u.cell? ⟨bb, 0, none⟩ = some (.int .i64 0) ∧ u.cell? ⟨bb, 1, none⟩ = some (.int .i64 ep) ∧ u.cell? ⟨bb, 2, none⟩ = some (.int .i64 id) ∧ u.cell? ⟨bb, 3, none⟩ = some (.int .i64 0) ∧ u.cell? ⟨bb, 4, none⟩ = some (.slice (some ⟨g2, 0, none⟩) 1 c2) := by rw [← hu, ← hbb]; exact ⟨by simp [go_sem], by simp [go_sem], by simp [go_sem], by simp [go_sem], by simp [go_sem]⟩
  have y0 : u.cell? ⟨w.heap.size, 0, none⟩ = some (.slice none 0 0) := cel5 hU p0
  have y1 : u.cell? ⟨w.heap.size, 1, none⟩ = some (.slice none 0 0) := cel5 hU p1
  have y2 : u.cell? ⟨w.heap.size, 2, none⟩ = some (.int .i64 0) := cel5 hU p2
  have s0 : u.cell? ⟨w.heap.size + 1 + 1, 0, none⟩ = some (.slice none 0 0) := cel5 hU r0
  have s1 : u.cell? ⟨w.heap.size + 1 + 1, 1, none⟩ = some (.slice none 0 0) := cel5 hU r1
  have s2 : u.cell? ⟨w.heap.size + 1 + 1, 2, none⟩ = some (.int .i64 0) := cel5 hU r2
  have fy : ∀ o, u.frozen? ⟨w.heap.size, o, none⟩ = false := fun o => fz5 hU (by omega) (fp o)
  have fs : ∀ o, u.frozen? ⟨w.heap.size + 1 + 1, o, none⟩ = false := fun o => fz5 hU (by omega) (fr o)
  have cSu : u.cell? ⟨g2, 0, none⟩ = some (.string ⟨#[]⟩) := cel5 hU cS
  replace BB := st5 BB hU
  rw [hu]
  rw [hbb]
  clear hu hbb hU p0 p1 p2 r0 r1 r2 fp fr cS
  refine wp_region_noPanic ?_
  refine wp_region_held_drew (S := fun w' => w'.cell? ⟨bb, 0, none⟩ = some (.int .i64 0) ∧ w'.cell? ⟨bb, 1, none⟩ = some (.int .i64 ep) ∧ w'.cell? ⟨bb, 2, none⟩ = some (.int .i64 id) ∧ w'.cell? ⟨bb, 3, none⟩ = some (.int .i64 0) ∧ w'.cell? ⟨bb, 4, none⟩ = some (.slice (some ⟨g2, 0, none⟩) 1 c2)) (by kernel_rfl) kk (fun hH => ?_)
  refine wpAnyH_take (i := 1) (oi := ⟨_, _, _, _, _, _⟩) (v := ?vt1) rfl (by kernel_rfl) (by kernel_rfl) (by kernel_rfl) (fun _ _ _ h => h) (Or.inl ⟨by rfl, ?yt1⟩) (by assumption) ?rt1
  case yt1 => intro w hSw; (try dsimp only at hSw); go_simp; try with_reducible rfl
  try simp only [Act.put, List.setIfInBounds_toArray, List.set_cons_zero, List.set_cons_succ]
  refine wpAnyH_take (i := 4) (oi := ⟨_, _, _, _, _, _⟩) (v := ?vt4) rfl (by kernel_rfl) (by kernel_rfl) (by kernel_rfl) (fun _ _ _ h => h) (Or.inl ⟨by rfl, ?yt4⟩) (by assumption) ?rt4
  case yt4 => intro w hSw; (try dsimp only at hSw); go_simp; try with_reducible rfl
  try simp only [Act.put, List.setIfInBounds_toArray, List.set_cons_zero, List.set_cons_succ]
  have kka : ∀ o, (u.alloc o).cell? ⟨bb, 0, none⟩ = some (.int .i64 0) ∧ (u.alloc o).cell? ⟨bb, 1, none⟩ = some (.int .i64 ep) ∧ (u.alloc o).cell? ⟨bb, 2, none⟩ = some (.int .i64 id) ∧ (u.alloc o).cell? ⟨bb, 3, none⟩ = some (.int .i64 0) ∧ (u.alloc o).cell? ⟨bb, 4, none⟩ = some (.slice (some ⟨g2, 0, none⟩) 1 c2) := fun o => ⟨cel5 (al5 u o) kk.1, cel5 (al5 u o) kk.2.1, cel5 (al5 u o) kk.2.2.1, cel5 (al5 u o) kk.2.2.2.1, cel5 (al5 u o) kk.2.2.2.2⟩
  have kkb : ∀ o p, ((u.alloc o).alloc p).cell? ⟨bb, 0, none⟩ = some (.int .i64 0) ∧ ((u.alloc o).alloc p).cell? ⟨bb, 1, none⟩ = some (.int .i64 ep) ∧ ((u.alloc o).alloc p).cell? ⟨bb, 2, none⟩ = some (.int .i64 id) ∧ ((u.alloc o).alloc p).cell? ⟨bb, 3, none⟩ = some (.int .i64 0) ∧ ((u.alloc o).alloc p).cell? ⟨bb, 4, none⟩ = some (.slice (some ⟨g2, 0, none⟩) 1 c2) := fun o p => ⟨cel5 (al5 (u.alloc o) p) (kka o).1, cel5 (al5 (u.alloc o) p) (kka o).2.1, cel5 (al5 (u.alloc o) p) (kka o).2.2.1, cel5 (al5 (u.alloc o) p) (kka o).2.2.2.1, cel5 (al5 (u.alloc o) p) (kka o).2.2.2.2⟩
  have y1a : ∀ o, (u.alloc o).cell? ⟨w.heap.size, 1, none⟩ = some (.slice none 0 0) := fun o => cel5 (al5 _ o) y1
  have y1b : ∀ o p, ((u.alloc o).alloc p).cell? ⟨w.heap.size, 1, none⟩ = some (.slice none 0 0) := fun o p => cel5 (al5 _ p) (y1a o)
  refine wpAnyH_ready (rs := [0, 2, 5]) (by kernel_rfl) (by simp) ?_
  refine (AllReadyH.cons (o := ⟨_, _, _, _, _, _⟩) rfl (fun KK hK => ?s1x0) (AllReadyH.cons (o := ⟨_, _, _, _, _, _⟩) rfl (fun KK hK => ?s1x2) (AllReadyH.cons (o := ⟨_, _, _, _, _, _⟩) rfl (fun KK hK => ?s1x5) AllReadyH.nil)))
  case s1x0 =>
    go_simp
    refine hK.out _ _ (kka _) (fun hH1 => ?_)
    clear hK KK
    try simp only [Act.put, List.setIfInBounds_toArray, List.set_cons_zero, List.set_cons_succ]
    refine wpAnyH_ready (rs := [2, 5]) (by kernel_rfl) (by simp) ?_
    refine (AllReadyH.cons (o := ⟨_, _, _, _, _, _⟩) rfl (fun KK hK => ?s2x2) (AllReadyH.cons (o := ⟨_, _, _, _, _, _⟩) rfl (fun KK hK => ?s2x5) AllReadyH.nil))
    case s2x2 =>
      go_simp
      refine hK.out _ _ (kka _) (fun hH2 => ?_)
      clear hK KK
      try simp only [Act.put, List.setIfInBounds_toArray, List.set_cons_zero, List.set_cons_succ]
      refine wpAnyH_take (i := 3) (oi := ⟨_, _, _, _, _, _⟩) (v := ?vn33) rfl (by kernel_rfl) (by kernel_rfl) (by kernel_rfl) (fun _ _ _ h => h) (Or.inl ⟨by rfl, ?yn33⟩) (by assumption) ?rn33
      case yn33 => intro w hSw; (try dsimp only at hSw); go_simp; try with_reducible rfl
      try simp only [Act.put, List.setIfInBounds_toArray, List.set_cons_zero, List.set_cons_succ]
      refine wpAnyH_ready (rs := [5]) (by kernel_rfl) (by simp) ?_
      refine (AllReadyH.cons (o := ⟨_, _, _, _, _, _⟩) rfl (fun KK hK => ?s3x5) AllReadyH.nil)
      case s3x5 =>
        go_simp
        refine hK.out _ _ (kkb _ _) (fun hH3 => ?_)
        clear hK KK
        try simp only [Act.put, List.setIfInBounds_toArray, List.set_cons_zero, List.set_cons_succ]
        refine wpAnyH_ready (rs := [6]) (by kernel_rfl) (by simp) ?_
        refine AllReadyH.cons (o := ⟨_, _, _, _, _, _⟩) rfl (fun KK hK => ?_) AllReadyH.nil
        refine wp_append_lies _ _ _ 23 rfl w.heap.size 48 i1 _ 5 56 Try.underlying23 hi1 hd0 hd1 hd2 rfl (by decide) (.slice (some ⟨u.heap.size, 0, none⟩) 0 0) 0 [] rfl (owns_empty ?e0 (by omega)) ⟨u.heap.size + 1, 0, none⟩ 1 1 [.int .i64 0, .int .i64 ep, .int .i64 id, .int .i64 0, .slice (some ⟨g2, 0, none⟩) 1 c2] rfl rfl ?e1 ?e2 (by omega) ?e3 ?e4 ?e5 (u.heap.size + 1 + 1) ?e6 ?_
        case e0 => exact ((al5 (u.alloc _) _).block u.heap.size (by simp)).trans (heap_alloc_new u _)
        case e1 => exact World.news_of_block (cs := #[.int .i64 0, .int .i64 ep, .int .i64 id, .int .i64 0, .slice (some ⟨g2, 0, none⟩) 1 c2]) (t := 48) (fr := (0, 0)) (by have h := heap_alloc_new (u.alloc (.cells #[] 48)) (.cells #[.int .i64 0, .int .i64 ep, .int .i64 id, .int .i64 0, .slice (some ⟨g2, 0, none⟩) 1 c2] 48); simp only [World.size_alloc] at h; exact h)
        case e2 => simp [Value.oneCell']
        case e3 => unfold maxLen; omega
        case e4 => omega
        case e5 => simp; omega
        case e6 => simp
        intro gl cl w5 hownL hgrow hat _
        have HU5 : Below u.heap.size u w5 := (((Below.refl u.heap.size u).alloc (Nat.le_refl _) _).alloc (by simp) _).drew.grown hgrow (by simp; omega) (fun k hk => by simp [Value.ownBlock] at hk; omega)
        have hgl : u.heap.size ≤ gl := by simp [Value.ownBlock] at hat; omega
        have kk5 : w5.cell? ⟨bb, 0, none⟩ = some (.int .i64 0) ∧ w5.cell? ⟨bb, 1, none⟩ = some (.int .i64 ep) ∧ w5.cell? ⟨bb, 2, none⟩ = some (.int .i64 id) ∧ w5.cell? ⟨bb, 3, none⟩ = some (.int .i64 0) ∧ w5.cell? ⟨bb, 4, none⟩ = some (.slice (some ⟨g2, 0, none⟩) 1 c2) := ⟨cel5 HU5 kk.1, cel5 HU5 kk.2.1, cel5 HU5 kk.2.2.1, cel5 HU5 kk.2.2.2.1, cel5 HU5 kk.2.2.2.2⟩
        have z1 : w5.cell? ⟨w.heap.size, 1, none⟩ = some (.slice none 0 0) := cel5 HU5 y1
        have fz : ∀ o, w5.frozen? ⟨w.heap.size, o, none⟩ = false := fun o => fz5 HU5 (by omega) (fy o)
        have kk6 : ∀ x, (w5.setCell ⟨w.heap.size, 1, none⟩ x).cell? ⟨bb, 0, none⟩ = some (.int .i64 0) ∧ (w5.setCell ⟨w.heap.size, 1, none⟩ x).cell? ⟨bb, 1, none⟩ = some (.int .i64 ep) ∧ (w5.setCell ⟨w.heap.size, 1, none⟩ x).cell? ⟨bb, 2, none⟩ = some (.int .i64 id) ∧ (w5.setCell ⟨w.heap.size, 1, none⟩ x).cell? ⟨bb, 3, none⟩ = some (.int .i64 0) ∧ (w5.setCell ⟨w.heap.size, 1, none⟩ x).cell? ⟨bb, 4, none⟩ = some (.slice (some ⟨g2, 0, none⟩) 1 c2) := fun x => ⟨sc5 (by omega) kk5.1, sc5 (by omega) kk5.2.1, sc5 (by omega) kk5.2.2.1, sc5 (by omega) kk5.2.2.2.1, sc5 (by omega) kk5.2.2.2.2⟩
        refine hK.out _ _ kk5 (fun hH13 => ?_)
        clear hK KK
        try simp only [Act.put, List.setIfInBounds_toArray, List.set_cons_zero, List.set_cons_succ]
        refine wpAnyH_take (i := 7) (oi := ⟨_, _, _, _, _, _⟩) (v := ?vf47) rfl (by kernel_rfl) (by kernel_rfl) (by kernel_rfl) (fun _ _ _ h => h) (Or.inl ⟨by rfl, ?yf47⟩) (by assumption) ?rf47
        case yf47 => intro w hSw; (try dsimp only at hSw); go_simp; try with_reducible rfl
        try simp only [Act.put, List.setIfInBounds_toArray, List.set_cons_zero, List.set_cons_succ]
        refine wpAnyH_ready (rs := [8]) (by kernel_rfl) (by simp) ?_
        refine AllReadyH.cons (o := ⟨_, _, _, _, _, _⟩) rfl (fun KK hK => ?_) AllReadyH.nil
        go_simp
        refine hK.out _ _ (kk6 _) (fun hH15 => ?_)
        clear hK KK
        try simp only [Act.put, List.setIfInBounds_toArray, List.set_cons_zero, List.set_cons_succ]
        refine wpAnyH_done (by kernel_rfl) (NoPanic.normal ?_) _
        have z0 : w5.cell? ⟨w.heap.size, 0, none⟩ = some (.slice none 0 0) := cel5 HU5 y0
        have z2 : w5.cell? ⟨w.heap.size, 2, none⟩ = some (.int .i64 0) := cel5 HU5 y2
        have t0 : w5.cell? ⟨w.heap.size + 1 + 1, 0, none⟩ = some (.slice none 0 0) := cel5 HU5 s0
        have t1 : w5.cell? ⟨w.heap.size + 1 + 1, 1, none⟩ = some (.slice none 0 0) := cel5 HU5 s1
        have t2 : w5.cell? ⟨w.heap.size + 1 + 1, 2, none⟩ = some (.int .i64 0) := cel5 HU5 s2
        have ft : ∀ o, w5.frozen? ⟨w.heap.size + 1 + 1, o, none⟩ = false := fun o => fz5 HU5 (by omega) (fs o)
        have cS5 : w5.cell? ⟨g2, 0, none⟩ = some (.string ⟨#[]⟩) := cel5 HU5 cSu
        have B5 : Below w.heap.size w (w5.setCell ⟨w.heap.size, 1, none⟩ (.slice (some ⟨gl, 0, none⟩) 1 cl)) := (st5 BB HU5).setCell (Nat.le_refl _) _
        have l5 := HU5.size
        obtain ⟨u2, hu2⟩ : ∃ x, w5.setCell ⟨w.heap.size, 1, none⟩ (.slice (some ⟨gl, 0, none⟩) 1 cl) = x := ⟨_, rfl⟩
        have kx : u2.cell? ⟨bb, 0, none⟩ = some (.int .i64 0) ∧ u2.cell? ⟨bb, 1, none⟩ = some (.int .i64 ep) ∧ u2.cell? ⟨bb, 2, none⟩ = some (.int .i64 id) ∧ u2.cell? ⟨bb, 3, none⟩ = some (.int .i64 0) ∧ u2.cell? ⟨bb, 4, none⟩ = some (.slice (some ⟨g2, 0, none⟩) 1 c2) := by rw [← hu2]; exact kk6 _
        have n0 : u2.cell? ⟨w.heap.size, 0, none⟩ = some (.slice none 0 0) := by rw [← hu2]; simp [go_sem, z0]
        have n1 : u2.cell? ⟨w.heap.size, 1, none⟩ = some (.slice (some ⟨gl, 0, none⟩) 1 cl) := by rw [← hu2]; simp [go_sem, z1]
        have n2 : u2.cell? ⟨w.heap.size, 2, none⟩ = some (.int .i64 0) := by rw [← hu2]; simp [go_sem, z2]
        have m0 : u2.cell? ⟨w.heap.size + 1 + 1, 0, none⟩ = some (.slice none 0 0) := by rw [← hu2]; exact sc5 (by omega) t0
        have m1 : u2.cell? ⟨w.heap.size + 1 + 1, 1, none⟩ = some (.slice none 0 0) := by rw [← hu2]; exact sc5 (by omega) t1
        have m2 : u2.cell? ⟨w.heap.size + 1 + 1, 2, none⟩ = some (.int .i64 0) := by rw [← hu2]; exact sc5 (by omega) t2
        have fn : ∀ o, u2.frozen? ⟨w.heap.size, o, none⟩ = false := fun o => by rw [← hu2]; simp [go_sem, fz]
        have fm : ∀ o, u2.frozen? ⟨w.heap.size + 1 + 1, o, none⟩ = false := fun o => by rw [← hu2]; simp [go_sem, ft]
        have oL : u2.ownsRow w.heap.size 48 5 (.slice (some ⟨gl, 0, none⟩) 1 cl) 1 [.int .i64 0, .int .i64 ep, .int .i64 id, .int .i64 0, .slice (some ⟨g2, 0, none⟩) 1 c2] := by rw [← hu2]; exact own5 hownL (fun q hq => by simp [Value.ownBlock] at hq; omega)
        have cS6 : u2.cell? ⟨g2, 0, none⟩ = some (.string ⟨#[]⟩) := by rw [← hu2]; exact sc5 (by omega) cS5
        have l6 : u.heap.size ≤ u2.heap.size := by rw [← hu2]; simp; omega
        have hglu := (oL.lt gl rfl).2
        rw [hu2] at B5 ⊢
        clear hu2 kk kka kkb kk5 kk6 y0 y1 y2 y1a y1b s0 s1 s2 fy fs z0 z1 z2 t0 t1 t2 fz ft HU5 hownL hgrow hat cS5 cSu BB
        go_wp2_with fail
        refine wp_region_noPanic ?_
        refine wp_region_held_drew (S := fun w' => w'.cell? ⟨bb, 0, none⟩ = some (.int .i64 0) ∧ w'.cell? ⟨bb, 1, none⟩ = some (.int .i64 ep) ∧ w'.cell? ⟨bb, 2, none⟩ = some (.int .i64 id) ∧ w'.cell? ⟨bb, 3, none⟩ = some (.int .i64 0) ∧ w'.cell? ⟨bb, 4, none⟩ = some (.slice (some ⟨g2, 0, none⟩) 1 c2)) (by kernel_rfl) kx (fun hH => ?_)
        refine wpAnyH_take (i := 1) (oi := ⟨_, _, _, _, _, _⟩) (v := ?vgf4t1) rfl (by kernel_rfl) (by kernel_rfl) (by kernel_rfl) (fun _ _ _ h => h) (Or.inl ⟨by rfl, ?ygf4t1⟩) (by assumption) ?rgf4t1
        case ygf4t1 => intro w hSw; (try dsimp only at hSw); go_simp; try with_reducible rfl
        try simp only [Act.put, List.setIfInBounds_toArray, List.set_cons_zero, List.set_cons_succ]
        refine wpAnyH_take (i := 4) (oi := ⟨_, _, _, _, _, _⟩) (v := ?vgf4t4) rfl (by kernel_rfl) (by kernel_rfl) (by kernel_rfl) (fun _ _ _ h => h) (Or.inl ⟨by rfl, ?ygf4t4⟩) (by assumption) ?rgf4t4
        case ygf4t4 => intro w hSw; (try dsimp only at hSw); go_simp; try with_reducible rfl
        try simp only [Act.put, List.setIfInBounds_toArray, List.set_cons_zero, List.set_cons_succ]
        have kxa : ∀ o, (u2.alloc o).cell? ⟨bb, 0, none⟩ = some (.int .i64 0) ∧ (u2.alloc o).cell? ⟨bb, 1, none⟩ = some (.int .i64 ep) ∧ (u2.alloc o).cell? ⟨bb, 2, none⟩ = some (.int .i64 id) ∧ (u2.alloc o).cell? ⟨bb, 3, none⟩ = some (.int .i64 0) ∧ (u2.alloc o).cell? ⟨bb, 4, none⟩ = some (.slice (some ⟨g2, 0, none⟩) 1 c2) := fun o => ⟨cel5 (al5 u2 o) kx.1, cel5 (al5 u2 o) kx.2.1, cel5 (al5 u2 o) kx.2.2.1, cel5 (al5 u2 o) kx.2.2.2.1, cel5 (al5 u2 o) kx.2.2.2.2⟩
        have n0a : ∀ o, (u2.alloc o).cell? ⟨w.heap.size, 0, none⟩ = some (.slice none 0 0) := fun o => cel5 (al5 _ o) n0
        refine wpAnyH_ready (rs := [0, 2]) (by kernel_rfl) (by simp) ?_
        refine (AllReadyH.cons (o := ⟨_, _, _, _, _, _⟩) rfl (fun KK hK => ?gf4a) (AllReadyH.cons (o := ⟨_, _, _, _, _, _⟩) rfl (fun KK hK => ?gf4b) AllReadyH.nil))
        case gf4a =>
          go_simp
          refine hK.out _ _ (kxa _) (fun hHa => ?_)
          clear hK KK
          try simp only [Act.put, List.setIfInBounds_toArray, List.set_cons_zero, List.set_cons_succ]
          refine wpAnyH_ready (rs := [2]) (by kernel_rfl) (by simp) ?_
          refine AllReadyH.cons (o := ⟨_, _, _, _, _, _⟩) rfl (fun KK hK => ?_) AllReadyH.nil
          go_simp
          refine hK.out _ _ (kxa _) (fun hHb => ?_)
          clear hK KK
          try simp only [Act.put, List.setIfInBounds_toArray, List.set_cons_zero, List.set_cons_succ]
          refine wpAnyH_take (i := 3) (oi := ⟨_, _, _, _, _, _⟩) (v := ?vgf4n63) rfl (by kernel_rfl) (by kernel_rfl) (by kernel_rfl) (fun _ _ _ h => h) (Or.inl ⟨by rfl, ?ygf4n63⟩) (by assumption) ?rgf4n63
          case ygf4n63 => intro w hSw; (try dsimp only at hSw); go_simp; try with_reducible rfl
          try simp only [Act.put, List.setIfInBounds_toArray, List.set_cons_zero, List.set_cons_succ]
          refine wpAnyH_ready (rs := [5]) (by kernel_rfl) (by simp) ?_
          refine AllReadyH.cons (o := ⟨_, _, _, _, _, _⟩) rfl (fun KK hK => ?_) AllReadyH.nil
          go_simp
          go_at_call 65
          refine (l5Add_nil id ep 0 u2.heap.size g2 c2 _).mono ?_
          rintro r w6 ⟨gp, cp, gw, cw, rfl, o1, o2, hlt6, hB6⟩
          have HU6 : Below u2.heap.size u2 w6 := ((Below.refl u2.heap.size u2).alloc (Nat.le_refl _) _).drew.trans (hB6.mono (by simp))
          have l7 := HU6.size
          have kx6 : w6.cell? ⟨bb, 0, none⟩ = some (.int .i64 0) ∧ w6.cell? ⟨bb, 1, none⟩ = some (.int .i64 ep) ∧ w6.cell? ⟨bb, 2, none⟩ = some (.int .i64 id) ∧ w6.cell? ⟨bb, 3, none⟩ = some (.int .i64 0) ∧ w6.cell? ⟨bb, 4, none⟩ = some (.slice (some ⟨g2, 0, none⟩) 1 c2) := ⟨cel5 HU6 kx.1, cel5 HU6 kx.2.1, cel5 HU6 kx.2.2.1, cel5 HU6 kx.2.2.2.1, cel5 HU6 kx.2.2.2.2⟩
          have x0 : w6.cell? ⟨w.heap.size, 0, none⟩ = some (.slice none 0 0) := cel5 HU6 n0
          have x1 : w6.cell? ⟨w.heap.size, 1, none⟩ = some (.slice (some ⟨gl, 0, none⟩) 1 cl) := cel5 HU6 n1
          have x2 : w6.cell? ⟨w.heap.size, 2, none⟩ = some (.int .i64 0) := cel5 HU6 n2
          have q0 : w6.cell? ⟨w.heap.size + 1 + 1, 0, none⟩ = some (.slice none 0 0) := cel5 HU6 m0
          have q1 : w6.cell? ⟨w.heap.size + 1 + 1, 1, none⟩ = some (.slice none 0 0) := cel5 HU6 m1
          have q2 : w6.cell? ⟨w.heap.size + 1 + 1, 2, none⟩ = some (.int .i64 0) := cel5 HU6 m2
          have fx : ∀ o, w6.frozen? ⟨w.heap.size, o, none⟩ = false := fun o => fz5 HU6 (by omega) (fn o)
          have fq : ∀ o, w6.frozen? ⟨w.heap.size + 1 + 1, o, none⟩ = false := fun o => fz5 HU6 (by omega) (fm o)
          have kx7 : ∀ x, (w6.setCell ⟨w.heap.size, 0, none⟩ x).cell? ⟨bb, 0, none⟩ = some (.int .i64 0) ∧ (w6.setCell ⟨w.heap.size, 0, none⟩ x).cell? ⟨bb, 1, none⟩ = some (.int .i64 ep) ∧ (w6.setCell ⟨w.heap.size, 0, none⟩ x).cell? ⟨bb, 2, none⟩ = some (.int .i64 id) ∧ (w6.setCell ⟨w.heap.size, 0, none⟩ x).cell? ⟨bb, 3, none⟩ = some (.int .i64 0) ∧ (w6.setCell ⟨w.heap.size, 0, none⟩ x).cell? ⟨bb, 4, none⟩ = some (.slice (some ⟨g2, 0, none⟩) 1 c2) := fun x => ⟨sc5 (by omega) kx6.1, sc5 (by omega) kx6.2.1, sc5 (by omega) kx6.2.2.1, sc5 (by omega) kx6.2.2.2.1, sc5 (by omega) kx6.2.2.2.2⟩
          refine hK.out _ _ kx6 (fun hH16 => ?_)
          clear hK KK
          try simp only [Act.put, List.setIfInBounds_toArray, List.set_cons_zero, List.set_cons_succ]
          refine wpAnyH_take (i := 6) (oi := ⟨_, _, _, _, _, _⟩) (v := ?vgf4f66) rfl (by kernel_rfl) (by kernel_rfl) (by kernel_rfl) (fun _ _ _ h => h) (Or.inl ⟨by rfl, ?ygf4f66⟩) (by assumption) ?rgf4f66
          case ygf4f66 => intro w hSw; (try dsimp only at hSw); go_simp; try with_reducible rfl
          try simp only [Act.put, List.setIfInBounds_toArray, List.set_cons_zero, List.set_cons_succ]
          refine wpAnyH_ready (rs := [7]) (by kernel_rfl) (by simp) ?_
          refine AllReadyH.cons (o := ⟨_, _, _, _, _, _⟩) rfl (fun KK hK => ?_) AllReadyH.nil
          go_simp
          refine hK.out _ _ (kx7 _) (fun hH17 => ?_)
          clear hK KK
          try simp only [Act.put, List.setIfInBounds_toArray, List.set_cons_zero, List.set_cons_succ]
          refine wpAnyH_done (by kernel_rfl) (NoPanic.normal ?_) _
          obtain ⟨u3, hu3⟩ : ∃ x, w6.setCell ⟨w.heap.size, 0, none⟩ (.slice (some ⟨gp, 0, none⟩) 1 cp) = x := ⟨_, rfl⟩
          have b4 : u3.cell? ⟨bb, 4, none⟩ = some (.slice (some ⟨g2, 0, none⟩) 1 c2) := by rw [← hu3]; exact (kx7 _).2.2.2.2
          have d0 : u3.cell? ⟨w.heap.size, 0, none⟩ = some (.slice (some ⟨gp, 0, none⟩) 1 cp) := by rw [← hu3]; simp [go_sem, x0]
          have d1 : u3.cell? ⟨w.heap.size, 1, none⟩ = some (.slice (some ⟨gl, 0, none⟩) 1 cl) := by rw [← hu3]; simp [go_sem, x1]
          have d2 : u3.cell? ⟨w.heap.size, 2, none⟩ = some (.int .i64 0) := by rw [← hu3]; simp [go_sem, x2]
          have q0' : u3.cell? ⟨w.heap.size + 1 + 1, 0, none⟩ = some (.slice none 0 0) := by rw [← hu3]; exact sc5 (by omega) q0
          have q1' : u3.cell? ⟨w.heap.size + 1 + 1, 1, none⟩ = some (.slice none 0 0) := by rw [← hu3]; exact sc5 (by omega) q1
          have q2' : u3.cell? ⟨w.heap.size + 1 + 1, 2, none⟩ = some (.int .i64 0) := by rw [← hu3]; exact sc5 (by omega) q2
          have fd : ∀ o, u3.frozen? ⟨w.heap.size, o, none⟩ = false := fun o => by rw [← hu3]; simp [go_sem, fx]
          have fe : ∀ o, u3.frozen? ⟨w.heap.size + 1 + 1, o, none⟩ = false := fun o => by rw [← hu3]; simp [go_sem, fq]
          have O1 : u3.ownsRow w.heap.size 84 4 (.slice (some ⟨gp, 0, none⟩) 1 cp) 1 [.int .i64 id, .int .i64 ep, .int .i64 1, .slice (some ⟨gw, 0, none⟩) 1 cw] := by rw [← hu3]; exact own5 (owns_mono o1 (by simp; omega)) (fun q hq => by have := o1.lt q hq; simp at this; omega)
          have O2 : u3.ownsRow w.heap.size 103 3 (.slice (some ⟨gw, 0, none⟩) 1 cw) 1 [.int .i64 0, .int .i64 1, .int .i64 0] := by rw [← hu3]; exact own5 (owns_mono o2 (by simp; omega)) (fun q hq => by have := o2.lt q hq; simp at this; omega)
          have O3 : u3.ownsRow w.heap.size 48 5 (.slice (some ⟨gl, 0, none⟩) 1 cl) 1 [.int .i64 0, .int .i64 ep, .int .i64 id, .int .i64 0, .slice (some ⟨g2, 0, none⟩) 1 c2] := by rw [← hu3]; exact own5 (owns_below oL HU6) (fun q hq => by simp [Value.ownBlock] at hq; omega)
          have cS7 : u3.cell? ⟨g2, 0, none⟩ = some (.string ⟨#[]⟩) := by rw [← hu3]; exact sc5 (by omega) (cel5 HU6 cS6)
          have hgp := (o1.lt gp rfl).1
          have hgw := (o2.lt gw rfl).1
          simp at hgp hgw
          have B7 : Below w.heap.size w u3 := by rw [← hu3]; exact (st5 B5 HU6).setCell (Nat.le_refl _) _
          rw [hu3]
          clear hu3 kx kxa kx6 kx7 n0 n1 n2 n0a m0 m1 m2 fn fm x0 x1 x2 q0 q1 q2 fx fq HU6 hB6 o1 o2 oL B5 cS6
          have d0a : ∀ x, (u3.setCell ⟨w.heap.size, 2, none⟩ x).cell? ⟨w.heap.size, 0, none⟩ = some (.slice (some ⟨gp, 0, none⟩) 1 cp) := fun x => by simp [go_sem, d0]
          have d1a : ∀ x, (u3.setCell ⟨w.heap.size, 2, none⟩ x).cell? ⟨w.heap.size, 1, none⟩ = some (.slice (some ⟨gl, 0, none⟩) 1 cl) := fun x => by simp [go_sem, d1]
          have d2a : ∀ x, (u3.setCell ⟨w.heap.size, 2, none⟩ x).cell? ⟨w.heap.size, 2, none⟩ = some x := fun x => by simp [go_sem, d2]
          have q0a : ∀ x, (u3.setCell ⟨w.heap.size, 2, none⟩ x).cell? ⟨w.heap.size + 1 + 1, 0, none⟩ = some (.slice none 0 0) := fun x => sc5 (by omega) q0'
          have q1a : ∀ x, (u3.setCell ⟨w.heap.size, 2, none⟩ x).cell? ⟨w.heap.size + 1 + 1, 1, none⟩ = some (.slice none 0 0) := fun x => sc5 (by omega) q1'
          have q2a : ∀ x, (u3.setCell ⟨w.heap.size, 2, none⟩ x).cell? ⟨w.heap.size + 1 + 1, 2, none⟩ = some (.int .i64 0) := fun x => sc5 (by omega) q2'
          have fea : ∀ x o, (u3.setCell ⟨w.heap.size, 2, none⟩ x).frozen? ⟨w.heap.size + 1 + 1, o, none⟩ = false := fun x o => by simp [go_sem, fe]
          go_wp2_with fail
          refine bodyPost_ret (v := .tuple #[.agg #[(.slice (some ⟨gp, 0, none⟩) 1 cp), .slice (some ⟨gl, 0, none⟩) 1 cl, .int .i64 1], .int .i64 0, .int .i64 0]) (by simp [results, Try.results48, go_sem, q0', q1', q2']) rfl ⟨gp, cp, gl, cl, rfl, ⟨gw, cw, g2, c2, ?_, ?_, ?_, ?_, by omega⟩, ?_⟩
          · exact (own5 (own5 (own5 (own5 O1 (fun q hq => by simp [Value.ownBlock] at hq; omega)) (fun q hq => by simp [Value.ownBlock] at hq; omega)) (fun q hq => by simp [Value.ownBlock] at hq; omega)) (fun q hq => by simp [Value.ownBlock] at hq; omega))
          · exact (own5 (own5 (own5 (own5 O2 (fun q hq => by simp [Value.ownBlock] at hq; omega)) (fun q hq => by simp [Value.ownBlock] at hq; omega)) (fun q hq => by simp [Value.ownBlock] at hq; omega)) (fun q hq => by simp [Value.ownBlock] at hq; omega))
          · exact (own5 (own5 (own5 (own5 O3 (fun q hq => by simp [Value.ownBlock] at hq; omega)) (fun q hq => by simp [Value.ownBlock] at hq; omega)) (fun q hq => by simp [Value.ownBlock] at hq; omega)) (fun q hq => by simp [Value.ownBlock] at hq; omega))
          · exact sc5 (by omega) (sc5 (by omega) (sc5 (by omega) (sc5 (by omega) cS7)))
          · exact (((B7.setCell (Nat.le_refl _) _).setCell (by show w.heap.size ≤ w.heap.size + 1 + 1; omega) _).setCell (by show w.heap.size ≤ w.heap.size + 1 + 1; omega) _).setCell (by show w.heap.size ≤ w.heap.size + 1 + 1; omega) _
        case gf4b =>
          go_simp
          refine hK.out _ _ kx (fun hHa => ?_)
          clear hK KK
          try simp only [Act.put, List.setIfInBounds_toArray, List.set_cons_zero, List.set_cons_succ]
          refine wpAnyH_ready (rs := [0]) (by kernel_rfl) (by simp) ?_
          refine AllReadyH.cons (o := ⟨_, _, _, _, _, _⟩) rfl (fun KK hK => ?_) AllReadyH.nil
          go_simp
          refine hK.out _ _ (kxa _) (fun hHb => ?_)
          clear hK KK
          try simp only [Act.put, List.setIfInBounds_toArray, List.set_cons_zero, List.set_cons_succ]
          refine wpAnyH_take (i := 3) (oi := ⟨_, _, _, _, _, _⟩) (v := ?vgf4n73) rfl (by kernel_rfl) (by kernel_rfl) (by kernel_rfl) (fun _ _ _ h => h) (Or.inl ⟨by rfl, ?ygf4n73⟩) (by assumption) ?rgf4n73
          case ygf4n73 => intro w hSw; (try dsimp only at hSw); go_simp; try with_reducible rfl
          try simp only [Act.put, List.setIfInBounds_toArray, List.set_cons_zero, List.set_cons_succ]
          refine wpAnyH_ready (rs := [5]) (by kernel_rfl) (by simp) ?_
          refine AllReadyH.cons (o := ⟨_, _, _, _, _, _⟩) rfl (fun KK hK => ?_) AllReadyH.nil
          go_simp
          go_at_call 65
          refine (l5Add_nil id ep 0 u2.heap.size g2 c2 _).mono ?_
          rintro r w6 ⟨gp, cp, gw, cw, rfl, o1, o2, hlt6, hB6⟩
          have HU6 : Below u2.heap.size u2 w6 := ((Below.refl u2.heap.size u2).alloc (Nat.le_refl _) _).drew.trans (hB6.mono (by simp))
          have l7 := HU6.size
          have kx6 : w6.cell? ⟨bb, 0, none⟩ = some (.int .i64 0) ∧ w6.cell? ⟨bb, 1, none⟩ = some (.int .i64 ep) ∧ w6.cell? ⟨bb, 2, none⟩ = some (.int .i64 id) ∧ w6.cell? ⟨bb, 3, none⟩ = some (.int .i64 0) ∧ w6.cell? ⟨bb, 4, none⟩ = some (.slice (some ⟨g2, 0, none⟩) 1 c2) := ⟨cel5 HU6 kx.1, cel5 HU6 kx.2.1, cel5 HU6 kx.2.2.1, cel5 HU6 kx.2.2.2.1, cel5 HU6 kx.2.2.2.2⟩
          have x0 : w6.cell? ⟨w.heap.size, 0, none⟩ = some (.slice none 0 0) := cel5 HU6 n0
          have x1 : w6.cell? ⟨w.heap.size, 1, none⟩ = some (.slice (some ⟨gl, 0, none⟩) 1 cl) := cel5 HU6 n1
          have x2 : w6.cell? ⟨w.heap.size, 2, none⟩ = some (.int .i64 0) := cel5 HU6 n2
          have q0 : w6.cell? ⟨w.heap.size + 1 + 1, 0, none⟩ = some (.slice none 0 0) := cel5 HU6 m0
          have q1 : w6.cell? ⟨w.heap.size + 1 + 1, 1, none⟩ = some (.slice none 0 0) := cel5 HU6 m1
          have q2 : w6.cell? ⟨w.heap.size + 1 + 1, 2, none⟩ = some (.int .i64 0) := cel5 HU6 m2
          have fx : ∀ o, w6.frozen? ⟨w.heap.size, o, none⟩ = false := fun o => fz5 HU6 (by omega) (fn o)
          have fq : ∀ o, w6.frozen? ⟨w.heap.size + 1 + 1, o, none⟩ = false := fun o => fz5 HU6 (by omega) (fm o)
          have kx7 : ∀ x, (w6.setCell ⟨w.heap.size, 0, none⟩ x).cell? ⟨bb, 0, none⟩ = some (.int .i64 0) ∧ (w6.setCell ⟨w.heap.size, 0, none⟩ x).cell? ⟨bb, 1, none⟩ = some (.int .i64 ep) ∧ (w6.setCell ⟨w.heap.size, 0, none⟩ x).cell? ⟨bb, 2, none⟩ = some (.int .i64 id) ∧ (w6.setCell ⟨w.heap.size, 0, none⟩ x).cell? ⟨bb, 3, none⟩ = some (.int .i64 0) ∧ (w6.setCell ⟨w.heap.size, 0, none⟩ x).cell? ⟨bb, 4, none⟩ = some (.slice (some ⟨g2, 0, none⟩) 1 c2) := fun x => ⟨sc5 (by omega) kx6.1, sc5 (by omega) kx6.2.1, sc5 (by omega) kx6.2.2.1, sc5 (by omega) kx6.2.2.2.1, sc5 (by omega) kx6.2.2.2.2⟩
          refine hK.out _ _ kx6 (fun hH16 => ?_)
          clear hK KK
          try simp only [Act.put, List.setIfInBounds_toArray, List.set_cons_zero, List.set_cons_succ]
          refine wpAnyH_take (i := 6) (oi := ⟨_, _, _, _, _, _⟩) (v := ?vgf4f76) rfl (by kernel_rfl) (by kernel_rfl) (by kernel_rfl) (fun _ _ _ h => h) (Or.inl ⟨by rfl, ?ygf4f76⟩) (by assumption) ?rgf4f76
          case ygf4f76 => intro w hSw; (try dsimp only at hSw); go_simp; try with_reducible rfl
          try simp only [Act.put, List.setIfInBounds_toArray, List.set_cons_zero, List.set_cons_succ]
          refine wpAnyH_ready (rs := [7]) (by kernel_rfl) (by simp) ?_
          refine AllReadyH.cons (o := ⟨_, _, _, _, _, _⟩) rfl (fun KK hK => ?_) AllReadyH.nil
          go_simp
          refine hK.out _ _ (kx7 _) (fun hH17 => ?_)
          clear hK KK
          try simp only [Act.put, List.setIfInBounds_toArray, List.set_cons_zero, List.set_cons_succ]
          refine wpAnyH_done (by kernel_rfl) (NoPanic.normal ?_) _
          obtain ⟨u3, hu3⟩ : ∃ x, w6.setCell ⟨w.heap.size, 0, none⟩ (.slice (some ⟨gp, 0, none⟩) 1 cp) = x := ⟨_, rfl⟩
          have b4 : u3.cell? ⟨bb, 4, none⟩ = some (.slice (some ⟨g2, 0, none⟩) 1 c2) := by rw [← hu3]; exact (kx7 _).2.2.2.2
          have d0 : u3.cell? ⟨w.heap.size, 0, none⟩ = some (.slice (some ⟨gp, 0, none⟩) 1 cp) := by rw [← hu3]; simp [go_sem, x0]
          have d1 : u3.cell? ⟨w.heap.size, 1, none⟩ = some (.slice (some ⟨gl, 0, none⟩) 1 cl) := by rw [← hu3]; simp [go_sem, x1]
          have d2 : u3.cell? ⟨w.heap.size, 2, none⟩ = some (.int .i64 0) := by rw [← hu3]; simp [go_sem, x2]
          have q0' : u3.cell? ⟨w.heap.size + 1 + 1, 0, none⟩ = some (.slice none 0 0) := by rw [← hu3]; exact sc5 (by omega) q0
          have q1' : u3.cell? ⟨w.heap.size + 1 + 1, 1, none⟩ = some (.slice none 0 0) := by rw [← hu3]; exact sc5 (by omega) q1
          have q2' : u3.cell? ⟨w.heap.size + 1 + 1, 2, none⟩ = some (.int .i64 0) := by rw [← hu3]; exact sc5 (by omega) q2
          have fd : ∀ o, u3.frozen? ⟨w.heap.size, o, none⟩ = false := fun o => by rw [← hu3]; simp [go_sem, fx]
          have fe : ∀ o, u3.frozen? ⟨w.heap.size + 1 + 1, o, none⟩ = false := fun o => by rw [← hu3]; simp [go_sem, fq]
          have O1 : u3.ownsRow w.heap.size 84 4 (.slice (some ⟨gp, 0, none⟩) 1 cp) 1 [.int .i64 id, .int .i64 ep, .int .i64 1, .slice (some ⟨gw, 0, none⟩) 1 cw] := by rw [← hu3]; exact own5 (owns_mono o1 (by simp; omega)) (fun q hq => by have := o1.lt q hq; simp at this; omega)
          have O2 : u3.ownsRow w.heap.size 103 3 (.slice (some ⟨gw, 0, none⟩) 1 cw) 1 [.int .i64 0, .int .i64 1, .int .i64 0] := by rw [← hu3]; exact own5 (owns_mono o2 (by simp; omega)) (fun q hq => by have := o2.lt q hq; simp at this; omega)
          have O3 : u3.ownsRow w.heap.size 48 5 (.slice (some ⟨gl, 0, none⟩) 1 cl) 1 [.int .i64 0, .int .i64 ep, .int .i64 id, .int .i64 0, .slice (some ⟨g2, 0, none⟩) 1 c2] := by rw [← hu3]; exact own5 (owns_below oL HU6) (fun q hq => by simp [Value.ownBlock] at hq; omega)
          have cS7 : u3.cell? ⟨g2, 0, none⟩ = some (.string ⟨#[]⟩) := by rw [← hu3]; exact sc5 (by omega) (cel5 HU6 cS6)
          have hgp := (o1.lt gp rfl).1
          have hgw := (o2.lt gw rfl).1
          simp at hgp hgw
          have B7 : Below w.heap.size w u3 := by rw [← hu3]; exact (st5 B5 HU6).setCell (Nat.le_refl _) _
          rw [hu3]
          clear hu3 kx kxa kx6 kx7 n0 n1 n2 n0a m0 m1 m2 fn fm x0 x1 x2 q0 q1 q2 fx fq HU6 hB6 o1 o2 oL B5 cS6
          have d0a : ∀ x, (u3.setCell ⟨w.heap.size, 2, none⟩ x).cell? ⟨w.heap.size, 0, none⟩ = some (.slice (some ⟨gp, 0, none⟩) 1 cp) := fun x => by simp [go_sem, d0]
          have d1a : ∀ x, (u3.setCell ⟨w.heap.size, 2, none⟩ x).cell? ⟨w.heap.size, 1, none⟩ = some (.slice (some ⟨gl, 0, none⟩) 1 cl) := fun x => by simp [go_sem, d1]
          have d2a : ∀ x, (u3.setCell ⟨w.heap.size, 2, none⟩ x).cell? ⟨w.heap.size, 2, none⟩ = some x := fun x => by simp [go_sem, d2]
          have q0a : ∀ x, (u3.setCell ⟨w.heap.size, 2, none⟩ x).cell? ⟨w.heap.size + 1 + 1, 0, none⟩ = some (.slice none 0 0) := fun x => sc5 (by omega) q0'
          have q1a : ∀ x, (u3.setCell ⟨w.heap.size, 2, none⟩ x).cell? ⟨w.heap.size + 1 + 1, 1, none⟩ = some (.slice none 0 0) := fun x => sc5 (by omega) q1'
          have q2a : ∀ x, (u3.setCell ⟨w.heap.size, 2, none⟩ x).cell? ⟨w.heap.size + 1 + 1, 2, none⟩ = some (.int .i64 0) := fun x => sc5 (by omega) q2'
          have fea : ∀ x o, (u3.setCell ⟨w.heap.size, 2, none⟩ x).frozen? ⟨w.heap.size + 1 + 1, o, none⟩ = false := fun x o => by simp [go_sem, fe]
          go_wp2_with fail
          refine bodyPost_ret (v := .tuple #[.agg #[(.slice (some ⟨gp, 0, none⟩) 1 cp), .slice (some ⟨gl, 0, none⟩) 1 cl, .int .i64 1], .int .i64 0, .int .i64 0]) (by simp [results, Try.results48, go_sem, q0', q1', q2']) rfl ⟨gp, cp, gl, cl, rfl, ⟨gw, cw, g2, c2, ?_, ?_, ?_, ?_, by omega⟩, ?_⟩
          · exact (own5 (own5 (own5 (own5 O1 (fun q hq => by simp [Value.ownBlock] at hq; omega)) (fun q hq => by simp [Value.ownBlock] at hq; omega)) (fun q hq => by simp [Value.ownBlock] at hq; omega)) (fun q hq => by simp [Value.ownBlock] at hq; omega))
          · exact (own5 (own5 (own5 (own5 O2 (fun q hq => by simp [Value.ownBlock] at hq; omega)) (fun q hq => by simp [Value.ownBlock] at hq; omega)) (fun q hq => by simp [Value.ownBlock] at hq; omega)) (fun q hq => by simp [Value.ownBlock] at hq; omega))
          · exact (own5 (own5 (own5 (own5 O3 (fun q hq => by simp [Value.ownBlock] at hq; omega)) (fun q hq => by simp [Value.ownBlock] at hq; omega)) (fun q hq => by simp [Value.ownBlock] at hq; omega)) (fun q hq => by simp [Value.ownBlock] at hq; omega))
          · exact sc5 (by omega) (sc5 (by omega) (sc5 (by omega) (sc5 (by omega) cS7)))
          · exact (((B7.setCell (Nat.le_refl _) _).setCell (by show w.heap.size ≤ w.heap.size + 1 + 1; omega) _).setCell (by show w.heap.size ≤ w.heap.size + 1 + 1; omega) _).setCell (by show w.heap.size ≤ w.heap.size + 1 + 1; omega) _
    case s2x5 =>
      go_simp
      refine hK.out _ _ (kkb _ _) (fun hH2 => ?_)
      clear hK KK
      try simp only [Act.put, List.setIfInBounds_toArray, List.set_cons_zero, List.set_cons_succ]
      refine wpAnyH_ready (rs := [2]) (by kernel_rfl) (by simp) ?_
      refine (AllReadyH.cons (o := ⟨_, _, _, _, _, _⟩) rfl (fun KK hK => ?s8x2) AllReadyH.nil)
      case s8x2 =>
        go_simp
        refine hK.out _ _ (kkb _ _) (fun hH8 => ?_)
        clear hK KK
        try simp only [Act.put, List.setIfInBounds_toArray, List.set_cons_zero, List.set_cons_succ]
        refine wpAnyH_take (i := 3) (oi := ⟨_, _, _, _, _, _⟩) (v := ?vn93) rfl (by kernel_rfl) (by kernel_rfl) (by kernel_rfl) (fun _ _ _ h => h) (Or.inl ⟨by rfl, ?yn93⟩) (by assumption) ?rn93
        case yn93 => intro w hSw; (try dsimp only at hSw); go_simp; try with_reducible rfl
        try simp only [Act.put, List.setIfInBounds_toArray, List.set_cons_zero, List.set_cons_succ]
        refine wpAnyH_ready (rs := [6]) (by kernel_rfl) (by simp) ?_
        refine AllReadyH.cons (o := ⟨_, _, _, _, _, _⟩) rfl (fun KK hK => ?_) AllReadyH.nil
        refine wp_append_lies _ _ _ 23 rfl w.heap.size 48 i1 _ 5 56 Try.underlying23 hi1 hd0 hd1 hd2 rfl (by decide) (.slice (some ⟨u.heap.size, 0, none⟩) 0 0) 0 [] rfl (owns_empty ?e0 (by omega)) ⟨u.heap.size + 1, 0, none⟩ 1 1 [.int .i64 0, .int .i64 ep, .int .i64 id, .int .i64 0, .slice (some ⟨g2, 0, none⟩) 1 c2] rfl rfl ?e1 ?e2 (by omega) ?e3 ?e4 ?e5 (u.heap.size + 1 + 1) ?e6 ?_
        case e0 => exact ((al5 (u.alloc _) _).block u.heap.size (by simp)).trans (heap_alloc_new u _)
        case e1 => exact World.news_of_block (cs := #[.int .i64 0, .int .i64 ep, .int .i64 id, .int .i64 0, .slice (some ⟨g2, 0, none⟩) 1 c2]) (t := 48) (fr := (0, 0)) (by have h := heap_alloc_new (u.alloc (.cells #[] 48)) (.cells #[.int .i64 0, .int .i64 ep, .int .i64 id, .int .i64 0, .slice (some ⟨g2, 0, none⟩) 1 c2] 48); simp only [World.size_alloc] at h; exact h)
        case e2 => simp [Value.oneCell']
        case e3 => unfold maxLen; omega
        case e4 => omega
        case e5 => simp; omega
        case e6 => simp
        intro gl cl w5 hownL hgrow hat _
        have HU5 : Below u.heap.size u w5 := (((Below.refl u.heap.size u).alloc (Nat.le_refl _) _).alloc (by simp) _).drew.grown hgrow (by simp; omega) (fun k hk => by simp [Value.ownBlock] at hk; omega)
        have hgl : u.heap.size ≤ gl := by simp [Value.ownBlock] at hat; omega
        have kk5 : w5.cell? ⟨bb, 0, none⟩ = some (.int .i64 0) ∧ w5.cell? ⟨bb, 1, none⟩ = some (.int .i64 ep) ∧ w5.cell? ⟨bb, 2, none⟩ = some (.int .i64 id) ∧ w5.cell? ⟨bb, 3, none⟩ = some (.int .i64 0) ∧ w5.cell? ⟨bb, 4, none⟩ = some (.slice (some ⟨g2, 0, none⟩) 1 c2) := ⟨cel5 HU5 kk.1, cel5 HU5 kk.2.1, cel5 HU5 kk.2.2.1, cel5 HU5 kk.2.2.2.1, cel5 HU5 kk.2.2.2.2⟩
        have z1 : w5.cell? ⟨w.heap.size, 1, none⟩ = some (.slice none 0 0) := cel5 HU5 y1
        have fz : ∀ o, w5.frozen? ⟨w.heap.size, o, none⟩ = false := fun o => fz5 HU5 (by omega) (fy o)
        have kk6 : ∀ x, (w5.setCell ⟨w.heap.size, 1, none⟩ x).cell? ⟨bb, 0, none⟩ = some (.int .i64 0) ∧ (w5.setCell ⟨w.heap.size, 1, none⟩ x).cell? ⟨bb, 1, none⟩ = some (.int .i64 ep) ∧ (w5.setCell ⟨w.heap.size, 1, none⟩ x).cell? ⟨bb, 2, none⟩ = some (.int .i64 id) ∧ (w5.setCell ⟨w.heap.size, 1, none⟩ x).cell? ⟨bb, 3, none⟩ = some (.int .i64 0) ∧ (w5.setCell ⟨w.heap.size, 1, none⟩ x).cell? ⟨bb, 4, none⟩ = some (.slice (some ⟨g2, 0, none⟩) 1 c2) := fun x => ⟨sc5 (by omega) kk5.1, sc5 (by omega) kk5.2.1, sc5 (by omega) kk5.2.2.1, sc5 (by omega) kk5.2.2.2.1, sc5 (by omega) kk5.2.2.2.2⟩
        refine hK.out _ _ kk5 (fun hH13 => ?_)
        clear hK KK
        try simp only [Act.put, List.setIfInBounds_toArray, List.set_cons_zero, List.set_cons_succ]
        refine wpAnyH_take (i := 7) (oi := ⟨_, _, _, _, _, _⟩) (v := ?vf97) rfl (by kernel_rfl) (by kernel_rfl) (by kernel_rfl) (fun _ _ _ h => h) (Or.inl ⟨by rfl, ?yf97⟩) (by assumption) ?rf97
        case yf97 => intro w hSw; (try dsimp only at hSw); go_simp; try with_reducible rfl
        try simp only [Act.put, List.setIfInBounds_toArray, List.set_cons_zero, List.set_cons_succ]
        refine wpAnyH_ready (rs := [8]) (by kernel_rfl) (by simp) ?_
        refine AllReadyH.cons (o := ⟨_, _, _, _, _, _⟩) rfl (fun KK hK => ?_) AllReadyH.nil
        go_simp
        refine hK.out _ _ (kk6 _) (fun hH15 => ?_)
        clear hK KK
        try simp only [Act.put, List.setIfInBounds_toArray, List.set_cons_zero, List.set_cons_succ]
        refine wpAnyH_done (by kernel_rfl) (NoPanic.normal ?_) _
        have z0 : w5.cell? ⟨w.heap.size, 0, none⟩ = some (.slice none 0 0) := cel5 HU5 y0
        have z2 : w5.cell? ⟨w.heap.size, 2, none⟩ = some (.int .i64 0) := cel5 HU5 y2
        have t0 : w5.cell? ⟨w.heap.size + 1 + 1, 0, none⟩ = some (.slice none 0 0) := cel5 HU5 s0
        have t1 : w5.cell? ⟨w.heap.size + 1 + 1, 1, none⟩ = some (.slice none 0 0) := cel5 HU5 s1
        have t2 : w5.cell? ⟨w.heap.size + 1 + 1, 2, none⟩ = some (.int .i64 0) := cel5 HU5 s2
        have ft : ∀ o, w5.frozen? ⟨w.heap.size + 1 + 1, o, none⟩ = false := fun o => fz5 HU5 (by omega) (fs o)
        have cS5 : w5.cell? ⟨g2, 0, none⟩ = some (.string ⟨#[]⟩) := cel5 HU5 cSu
        have B5 : Below w.heap.size w (w5.setCell ⟨w.heap.size, 1, none⟩ (.slice (some ⟨gl, 0, none⟩) 1 cl)) := (st5 BB HU5).setCell (Nat.le_refl _) _
        have l5 := HU5.size
        obtain ⟨u2, hu2⟩ : ∃ x, w5.setCell ⟨w.heap.size, 1, none⟩ (.slice (some ⟨gl, 0, none⟩) 1 cl) = x := ⟨_, rfl⟩
        have kx : u2.cell? ⟨bb, 0, none⟩ = some (.int .i64 0) ∧ u2.cell? ⟨bb, 1, none⟩ = some (.int .i64 ep) ∧ u2.cell? ⟨bb, 2, none⟩ = some (.int .i64 id) ∧ u2.cell? ⟨bb, 3, none⟩ = some (.int .i64 0) ∧ u2.cell? ⟨bb, 4, none⟩ = some (.slice (some ⟨g2, 0, none⟩) 1 c2) := by rw [← hu2]; exact kk6 _
        have n0 : u2.cell? ⟨w.heap.size, 0, none⟩ = some (.slice none 0 0) := by rw [← hu2]; simp [go_sem, z0]
        have n1 : u2.cell? ⟨w.heap.size, 1, none⟩ = some (.slice (some ⟨gl, 0, none⟩) 1 cl) := by rw [← hu2]; simp [go_sem, z1]
        have n2 : u2.cell? ⟨w.heap.size, 2, none⟩ = some (.int .i64 0) := by rw [← hu2]; simp [go_sem, z2]
        have m0 : u2.cell? ⟨w.heap.size + 1 + 1, 0, none⟩ = some (.slice none 0 0) := by rw [← hu2]; exact sc5 (by omega) t0
        have m1 : u2.cell? ⟨w.heap.size + 1 + 1, 1, none⟩ = some (.slice none 0 0) := by rw [← hu2]; exact sc5 (by omega) t1
        have m2 : u2.cell? ⟨w.heap.size + 1 + 1, 2, none⟩ = some (.int .i64 0) := by rw [← hu2]; exact sc5 (by omega) t2
        have fn : ∀ o, u2.frozen? ⟨w.heap.size, o, none⟩ = false := fun o => by rw [← hu2]; simp [go_sem, fz]
        have fm : ∀ o, u2.frozen? ⟨w.heap.size + 1 + 1, o, none⟩ = false := fun o => by rw [← hu2]; simp [go_sem, ft]
        have oL : u2.ownsRow w.heap.size 48 5 (.slice (some ⟨gl, 0, none⟩) 1 cl) 1 [.int .i64 0, .int .i64 ep, .int .i64 id, .int .i64 0, .slice (some ⟨g2, 0, none⟩) 1 c2] := by rw [← hu2]; exact own5 hownL (fun q hq => by simp [Value.ownBlock] at hq; omega)
        have cS6 : u2.cell? ⟨g2, 0, none⟩ = some (.string ⟨#[]⟩) := by rw [← hu2]; exact sc5 (by omega) cS5
        have l6 : u.heap.size ≤ u2.heap.size := by rw [← hu2]; simp; omega
        have hglu := (oL.lt gl rfl).2
        rw [hu2] at B5 ⊢
        clear hu2 kk kka kkb kk5 kk6 y0 y1 y2 y1a y1b s0 s1 s2 fy fs z0 z1 z2 t0 t1 t2 fz ft HU5 hownL hgrow hat cS5 cSu BB
        go_wp2_with fail
        refine wp_region_noPanic ?_
        refine wp_region_held_drew (S := fun w' => w'.cell? ⟨bb, 0, none⟩ = some (.int .i64 0) ∧ w'.cell? ⟨bb, 1, none⟩ = some (.int .i64 ep) ∧ w'.cell? ⟨bb, 2, none⟩ = some (.int .i64 id) ∧ w'.cell? ⟨bb, 3, none⟩ = some (.int .i64 0) ∧ w'.cell? ⟨bb, 4, none⟩ = some (.slice (some ⟨g2, 0, none⟩) 1 c2)) (by kernel_rfl) kx (fun hH => ?_)
        refine wpAnyH_take (i := 1) (oi := ⟨_, _, _, _, _, _⟩) (v := ?vgf9t1) rfl (by kernel_rfl) (by kernel_rfl) (by kernel_rfl) (fun _ _ _ h => h) (Or.inl ⟨by rfl, ?ygf9t1⟩) (by assumption) ?rgf9t1
        case ygf9t1 => intro w hSw; (try dsimp only at hSw); go_simp; try with_reducible rfl
        try simp only [Act.put, List.setIfInBounds_toArray, List.set_cons_zero, List.set_cons_succ]
        refine wpAnyH_take (i := 4) (oi := ⟨_, _, _, _, _, _⟩) (v := ?vgf9t4) rfl (by kernel_rfl) (by kernel_rfl) (by kernel_rfl) (fun _ _ _ h => h) (Or.inl ⟨by rfl, ?ygf9t4⟩) (by assumption) ?rgf9t4
        case ygf9t4 => intro w hSw; (try dsimp only at hSw); go_simp; try with_reducible rfl
        try simp only [Act.put, List.setIfInBounds_toArray, List.set_cons_zero, List.set_cons_succ]
        have kxa : ∀ o, (u2.alloc o).cell? ⟨bb, 0, none⟩ = some (.int .i64 0) ∧ (u2.alloc o).cell? ⟨bb, 1, none⟩ = some (.int .i64 ep) ∧ (u2.alloc o).cell? ⟨bb, 2, none⟩ = some (.int .i64 id) ∧ (u2.alloc o).cell? ⟨bb, 3, none⟩ = some (.int .i64 0) ∧ (u2.alloc o).cell? ⟨bb, 4, none⟩ = some (.slice (some ⟨g2, 0, none⟩) 1 c2) := fun o => ⟨cel5 (al5 u2 o) kx.1, cel5 (al5 u2 o) kx.2.1, cel5 (al5 u2 o) kx.2.2.1, cel5 (al5 u2 o) kx.2.2.2.1, cel5 (al5 u2 o) kx.2.2.2.2⟩
        have n0a : ∀ o, (u2.alloc o).cell? ⟨w.heap.size, 0, none⟩ = some (.slice none 0 0) := fun o => cel5 (al5 _ o) n0
        refine wpAnyH_ready (rs := [0, 2]) (by kernel_rfl) (by simp) ?_
        refine (AllReadyH.cons (o := ⟨_, _, _, _, _, _⟩) rfl (fun KK hK => ?gf9a) (AllReadyH.cons (o := ⟨_, _, _, _, _, _⟩) rfl (fun KK hK => ?gf9b) AllReadyH.nil))
        case gf9a =>
          go_simp
          refine hK.out _ _ (kxa _) (fun hHa => ?_)
          clear hK KK
          try simp only [Act.put, List.setIfInBounds_toArray, List.set_cons_zero, List.set_cons_succ]
          refine wpAnyH_ready (rs := [2]) (by kernel_rfl) (by simp) ?_
          refine AllReadyH.cons (o := ⟨_, _, _, _, _, _⟩) rfl (fun KK hK => ?_) AllReadyH.nil
          go_simp
          refine hK.out _ _ (kxa _) (fun hHb => ?_)
          clear hK KK
          try simp only [Act.put, List.setIfInBounds_toArray, List.set_cons_zero, List.set_cons_succ]
          refine wpAnyH_take (i := 3) (oi := ⟨_, _, _, _, _, _⟩) (v := ?vgf9n113) rfl (by kernel_rfl) (by kernel_rfl) (by kernel_rfl) (fun _ _ _ h => h) (Or.inl ⟨by rfl, ?ygf9n113⟩) (by assumption) ?rgf9n113
          case ygf9n113 => intro w hSw; (try dsimp only at hSw); go_simp; try with_reducible rfl
          try simp only [Act.put, List.setIfInBounds_toArray, List.set_cons_zero, List.set_cons_succ]
          refine wpAnyH_ready (rs := [5]) (by kernel_rfl) (by simp) ?_
          refine AllReadyH.cons (o := ⟨_, _, _, _, _, _⟩) rfl (fun KK hK => ?_) AllReadyH.nil
          go_simp
          go_at_call 65
          refine (l5Add_nil id ep 0 u2.heap.size g2 c2 _).mono ?_
          rintro r w6 ⟨gp, cp, gw, cw, rfl, o1, o2, hlt6, hB6⟩
          have HU6 : Below u2.heap.size u2 w6 := ((Below.refl u2.heap.size u2).alloc (Nat.le_refl _) _).drew.trans (hB6.mono (by simp))
          have l7 := HU6.size
          have kx6 : w6.cell? ⟨bb, 0, none⟩ = some (.int .i64 0) ∧ w6.cell? ⟨bb, 1, none⟩ = some (.int .i64 ep) ∧ w6.cell? ⟨bb, 2, none⟩ = some (.int .i64 id) ∧ w6.cell? ⟨bb, 3, none⟩ = some (.int .i64 0) ∧ w6.cell? ⟨bb, 4, none⟩ = some (.slice (some ⟨g2, 0, none⟩) 1 c2) := ⟨cel5 HU6 kx.1, cel5 HU6 kx.2.1, cel5 HU6 kx.2.2.1, cel5 HU6 kx.2.2.2.1, cel5 HU6 kx.2.2.2.2⟩
          have x0 : w6.cell? ⟨w.heap.size, 0, none⟩ = some (.slice none 0 0) := cel5 HU6 n0
          have x1 : w6.cell? ⟨w.heap.size, 1, none⟩ = some (.slice (some ⟨gl, 0, none⟩) 1 cl) := cel5 HU6 n1
          have x2 : w6.cell? ⟨w.heap.size, 2, none⟩ = some (.int .i64 0) := cel5 HU6 n2
          have q0 : w6.cell? ⟨w.heap.size + 1 + 1, 0, none⟩ = some (.slice none 0 0) := cel5 HU6 m0
          have q1 : w6.cell? ⟨w.heap.size + 1 + 1, 1, none⟩ = some (.slice none 0 0) := cel5 HU6 m1
          have q2 : w6.cell? ⟨w.heap.size + 1 + 1, 2, none⟩ = some (.int .i64 0) := cel5 HU6 m2
          have fx : ∀ o, w6.frozen? ⟨w.heap.size, o, none⟩ = false := fun o => fz5 HU6 (by omega) (fn o)
          have fq : ∀ o, w6.frozen? ⟨w.heap.size + 1 + 1, o, none⟩ = false := fun o => fz5 HU6 (by omega) (fm o)
          have kx7 : ∀ x, (w6.setCell ⟨w.heap.size, 0, none⟩ x).cell? ⟨bb, 0, none⟩ = some (.int .i64 0) ∧ (w6.setCell ⟨w.heap.size, 0, none⟩ x).cell? ⟨bb, 1, none⟩ = some (.int .i64 ep) ∧ (w6.setCell ⟨w.heap.size, 0, none⟩ x).cell? ⟨bb, 2, none⟩ = some (.int .i64 id) ∧ (w6.setCell ⟨w.heap.size, 0, none⟩ x).cell? ⟨bb, 3, none⟩ = some (.int .i64 0) ∧ (w6.setCell ⟨w.heap.size, 0, none⟩ x).cell? ⟨bb, 4, none⟩ = some (.slice (some ⟨g2, 0, none⟩) 1 c2) := fun x => ⟨sc5 (by omega) kx6.1, sc5 (by omega) kx6.2.1, sc5 (by omega) kx6.2.2.1, sc5 (by omega) kx6.2.2.2.1, sc5 (by omega) kx6.2.2.2.2⟩
          refine hK.out _ _ kx6 (fun hH16 => ?_)
          clear hK KK
          try simp only [Act.put, List.setIfInBounds_toArray, List.set_cons_zero, List.set_cons_succ]
          refine wpAnyH_take (i := 6) (oi := ⟨_, _, _, _, _, _⟩) (v := ?vgf9f116) rfl (by kernel_rfl) (by kernel_rfl) (by kernel_rfl) (fun _ _ _ h => h) (Or.inl ⟨by rfl, ?ygf9f116⟩) (by assumption) ?rgf9f116
          case ygf9f116 => intro w hSw; (try dsimp only at hSw); go_simp; try with_reducible rfl
          try simp only [Act.put, List.setIfInBounds_toArray, List.set_cons_zero, List.set_cons_succ]
          refine wpAnyH_ready (rs := [7]) (by kernel_rfl) (by simp) ?_
          refine AllReadyH.cons (o := ⟨_, _, _, _, _, _⟩) rfl (fun KK hK => ?_) AllReadyH.nil
          go_simp
          refine hK.out _ _ (kx7 _) (fun hH17 => ?_)
          clear hK KK
          try simp only [Act.put, List.setIfInBounds_toArray, List.set_cons_zero, List.set_cons_succ]
          refine wpAnyH_done (by kernel_rfl) (NoPanic.normal ?_) _
          obtain ⟨u3, hu3⟩ : ∃ x, w6.setCell ⟨w.heap.size, 0, none⟩ (.slice (some ⟨gp, 0, none⟩) 1 cp) = x := ⟨_, rfl⟩
          have b4 : u3.cell? ⟨bb, 4, none⟩ = some (.slice (some ⟨g2, 0, none⟩) 1 c2) := by rw [← hu3]; exact (kx7 _).2.2.2.2
          have d0 : u3.cell? ⟨w.heap.size, 0, none⟩ = some (.slice (some ⟨gp, 0, none⟩) 1 cp) := by rw [← hu3]; simp [go_sem, x0]
          have d1 : u3.cell? ⟨w.heap.size, 1, none⟩ = some (.slice (some ⟨gl, 0, none⟩) 1 cl) := by rw [← hu3]; simp [go_sem, x1]
          have d2 : u3.cell? ⟨w.heap.size, 2, none⟩ = some (.int .i64 0) := by rw [← hu3]; simp [go_sem, x2]
          have q0' : u3.cell? ⟨w.heap.size + 1 + 1, 0, none⟩ = some (.slice none 0 0) := by rw [← hu3]; exact sc5 (by omega) q0
          have q1' : u3.cell? ⟨w.heap.size + 1 + 1, 1, none⟩ = some (.slice none 0 0) := by rw [← hu3]; exact sc5 (by omega) q1
          have q2' : u3.cell? ⟨w.heap.size + 1 + 1, 2, none⟩ = some (.int .i64 0) := by rw [← hu3]; exact sc5 (by omega) q2
          have fd : ∀ o, u3.frozen? ⟨w.heap.size, o, none⟩ = false := fun o => by rw [← hu3]; simp [go_sem, fx]
          have fe : ∀ o, u3.frozen? ⟨w.heap.size + 1 + 1, o, none⟩ = false := fun o => by rw [← hu3]; simp [go_sem, fq]
          have O1 : u3.ownsRow w.heap.size 84 4 (.slice (some ⟨gp, 0, none⟩) 1 cp) 1 [.int .i64 id, .int .i64 ep, .int .i64 1, .slice (some ⟨gw, 0, none⟩) 1 cw] := by rw [← hu3]; exact own5 (owns_mono o1 (by simp; omega)) (fun q hq => by have := o1.lt q hq; simp at this; omega)
          have O2 : u3.ownsRow w.heap.size 103 3 (.slice (some ⟨gw, 0, none⟩) 1 cw) 1 [.int .i64 0, .int .i64 1, .int .i64 0] := by rw [← hu3]; exact own5 (owns_mono o2 (by simp; omega)) (fun q hq => by have := o2.lt q hq; simp at this; omega)
          have O3 : u3.ownsRow w.heap.size 48 5 (.slice (some ⟨gl, 0, none⟩) 1 cl) 1 [.int .i64 0, .int .i64 ep, .int .i64 id, .int .i64 0, .slice (some ⟨g2, 0, none⟩) 1 c2] := by rw [← hu3]; exact own5 (owns_below oL HU6) (fun q hq => by simp [Value.ownBlock] at hq; omega)
          have cS7 : u3.cell? ⟨g2, 0, none⟩ = some (.string ⟨#[]⟩) := by rw [← hu3]; exact sc5 (by omega) (cel5 HU6 cS6)
          have hgp := (o1.lt gp rfl).1
          have hgw := (o2.lt gw rfl).1
          simp at hgp hgw
          have B7 : Below w.heap.size w u3 := by rw [← hu3]; exact (st5 B5 HU6).setCell (Nat.le_refl _) _
          rw [hu3]
          clear hu3 kx kxa kx6 kx7 n0 n1 n2 n0a m0 m1 m2 fn fm x0 x1 x2 q0 q1 q2 fx fq HU6 hB6 o1 o2 oL B5 cS6
          have d0a : ∀ x, (u3.setCell ⟨w.heap.size, 2, none⟩ x).cell? ⟨w.heap.size, 0, none⟩ = some (.slice (some ⟨gp, 0, none⟩) 1 cp) := fun x => by simp [go_sem, d0]
          have d1a : ∀ x, (u3.setCell ⟨w.heap.size, 2, none⟩ x).cell? ⟨w.heap.size, 1, none⟩ = some (.slice (some ⟨gl, 0, none⟩) 1 cl) := fun x => by simp [go_sem, d1]
          have d2a : ∀ x, (u3.setCell ⟨w.heap.size, 2, none⟩ x).cell? ⟨w.heap.size, 2, none⟩ = some x := fun x => by simp [go_sem, d2]
          have q0a : ∀ x, (u3.setCell ⟨w.heap.size, 2, none⟩ x).cell? ⟨w.heap.size + 1 + 1, 0, none⟩ = some (.slice none 0 0) := fun x => sc5 (by omega) q0'
          have q1a : ∀ x, (u3.setCell ⟨w.heap.size, 2, none⟩ x).cell? ⟨w.heap.size + 1 + 1, 1, none⟩ = some (.slice none 0 0) := fun x => sc5 (by omega) q1'
          have q2a : ∀ x, (u3.setCell ⟨w.heap.size, 2, none⟩ x).cell? ⟨w.heap.size + 1 + 1, 2, none⟩ = some (.int .i64 0) := fun x => sc5 (by omega) q2'
          have fea : ∀ x o, (u3.setCell ⟨w.heap.size, 2, none⟩ x).frozen? ⟨w.heap.size + 1 + 1, o, none⟩ = false := fun x o => by simp [go_sem, fe]
          go_wp2_with fail
          refine bodyPost_ret (v := .tuple #[.agg #[(.slice (some ⟨gp, 0, none⟩) 1 cp), .slice (some ⟨gl, 0, none⟩) 1 cl, .int .i64 1], .int .i64 0, .int .i64 0]) (by simp [results, Try.results48, go_sem, q0', q1', q2']) rfl ⟨gp, cp, gl, cl, rfl, ⟨gw, cw, g2, c2, ?_, ?_, ?_, ?_, by omega⟩, ?_⟩
          · exact (own5 (own5 (own5 (own5 O1 (fun q hq => by simp [Value.ownBlock] at hq; omega)) (fun q hq => by simp [Value.ownBlock] at hq; omega)) (fun q hq => by simp [Value.ownBlock] at hq; omega)) (fun q hq => by simp [Value.ownBlock] at hq; omega))
          · exact (own5 (own5 (own5 (own5 O2 (fun q hq => by simp [Value.ownBlock] at hq; omega)) (fun q hq => by simp [Value.ownBlock] at hq; omega)) (fun q hq => by simp [Value.ownBlock] at hq; omega)) (fun q hq => by simp [Value.ownBlock] at hq; omega))
          · exact (own5 (own5 (own5 (own5 O3 (fun q hq => by simp [Value.ownBlock] at hq; omega)) (fun q hq => by simp [Value.ownBlock] at hq; omega)) (fun q hq => by simp [Value.ownBlock] at hq; omega)) (fun q hq => by simp [Value.ownBlock] at hq; omega))
          · exact sc5 (by omega) (sc5 (by omega) (sc5 (by omega) (sc5 (by omega) cS7)))
          · exact (((B7.setCell (Nat.le_refl _) _).setCell (by show w.heap.size ≤ w.heap.size + 1 + 1; omega) _).setCell (by show w.heap.size ≤ w.heap.size + 1 + 1; omega) _).setCell (by show w.heap.size ≤ w.heap.size + 1 + 1; omega) _
        case gf9b =>
          go_simp
          refine hK.out _ _ kx (fun hHa => ?_)
          clear hK KK
          try simp only [Act.put, List.setIfInBounds_toArray, List.set_cons_zero, List.set_cons_succ]
          refine wpAnyH_ready (rs := [0]) (by kernel_rfl) (by simp) ?_
          refine AllReadyH.cons (o := ⟨_, _, _, _, _, _⟩) rfl (fun KK hK => ?_) AllReadyH.nil
          go_simp
          refine hK.out _ _ (kxa _) (fun hHb => ?_)
          clear hK KK
          try simp only [Act.put, List.setIfInBounds_toArray, List.set_cons_zero, List.set_cons_succ]
          refine wpAnyH_take (i := 3) (oi := ⟨_, _, _, _, _, _⟩) (v := ?vgf9n123) rfl (by kernel_rfl) (by kernel_rfl) (by kernel_rfl) (fun _ _ _ h => h) (Or.inl ⟨by rfl, ?ygf9n123⟩) (by assumption) ?rgf9n123
          case ygf9n123 => intro w hSw; (try dsimp only at hSw); go_simp; try with_reducible rfl
          try simp only [Act.put, List.setIfInBounds_toArray, List.set_cons_zero, List.set_cons_succ]
          refine wpAnyH_ready (rs := [5]) (by kernel_rfl) (by simp) ?_
          refine AllReadyH.cons (o := ⟨_, _, _, _, _, _⟩) rfl (fun KK hK => ?_) AllReadyH.nil
          go_simp
          go_at_call 65
          refine (l5Add_nil id ep 0 u2.heap.size g2 c2 _).mono ?_
          rintro r w6 ⟨gp, cp, gw, cw, rfl, o1, o2, hlt6, hB6⟩
          have HU6 : Below u2.heap.size u2 w6 := ((Below.refl u2.heap.size u2).alloc (Nat.le_refl _) _).drew.trans (hB6.mono (by simp))
          have l7 := HU6.size
          have kx6 : w6.cell? ⟨bb, 0, none⟩ = some (.int .i64 0) ∧ w6.cell? ⟨bb, 1, none⟩ = some (.int .i64 ep) ∧ w6.cell? ⟨bb, 2, none⟩ = some (.int .i64 id) ∧ w6.cell? ⟨bb, 3, none⟩ = some (.int .i64 0) ∧ w6.cell? ⟨bb, 4, none⟩ = some (.slice (some ⟨g2, 0, none⟩) 1 c2) := ⟨cel5 HU6 kx.1, cel5 HU6 kx.2.1, cel5 HU6 kx.2.2.1, cel5 HU6 kx.2.2.2.1, cel5 HU6 kx.2.2.2.2⟩
          have x0 : w6.cell? ⟨w.heap.size, 0, none⟩ = some (.slice none 0 0) := cel5 HU6 n0
          have x1 : w6.cell? ⟨w.heap.size, 1, none⟩ = some (.slice (some ⟨gl, 0, none⟩) 1 cl) := cel5 HU6 n1
          have x2 : w6.cell? ⟨w.heap.size, 2, none⟩ = some (.int .i64 0) := cel5 HU6 n2
          have q0 : w6.cell? ⟨w.heap.size + 1 + 1, 0, none⟩ = some (.slice none 0 0) := cel5 HU6 m0
          have q1 : w6.cell? ⟨w.heap.size + 1 + 1, 1, none⟩ = some (.slice none 0 0) := cel5 HU6 m1
          have q2 : w6.cell? ⟨w.heap.size + 1 + 1, 2, none⟩ = some (.int .i64 0) := cel5 HU6 m2
          have fx : ∀ o, w6.frozen? ⟨w.heap.size, o, none⟩ = false := fun o => fz5 HU6 (by omega) (fn o)
          have fq : ∀ o, w6.frozen? ⟨w.heap.size + 1 + 1, o, none⟩ = false := fun o => fz5 HU6 (by omega) (fm o)
          have kx7 : ∀ x, (w6.setCell ⟨w.heap.size, 0, none⟩ x).cell? ⟨bb, 0, none⟩ = some (.int .i64 0) ∧ (w6.setCell ⟨w.heap.size, 0, none⟩ x).cell? ⟨bb, 1, none⟩ = some (.int .i64 ep) ∧ (w6.setCell ⟨w.heap.size, 0, none⟩ x).cell? ⟨bb, 2, none⟩ = some (.int .i64 id) ∧ (w6.setCell ⟨w.heap.size, 0, none⟩ x).cell? ⟨bb, 3, none⟩ = some (.int .i64 0) ∧ (w6.setCell ⟨w.heap.size, 0, none⟩ x).cell? ⟨bb, 4, none⟩ = some (.slice (some ⟨g2, 0, none⟩) 1 c2) := fun x => ⟨sc5 (by omega) kx6.1, sc5 (by omega) kx6.2.1, sc5 (by omega) kx6.2.2.1, sc5 (by omega) kx6.2.2.2.1, sc5 (by omega) kx6.2.2.2.2⟩
          refine hK.out _ _ kx6 (fun hH16 => ?_)
          clear hK KK
          try simp only [Act.put, List.setIfInBounds_toArray, List.set_cons_zero, List.set_cons_succ]
          refine wpAnyH_take (i := 6) (oi := ⟨_, _, _, _, _, _⟩) (v := ?vgf9f126) rfl (by kernel_rfl) (by kernel_rfl) (by kernel_rfl) (fun _ _ _ h => h) (Or.inl ⟨by rfl, ?ygf9f126⟩) (by assumption) ?rgf9f126
          case ygf9f126 => intro w hSw; (try dsimp only at hSw); go_simp; try with_reducible rfl
          try simp only [Act.put, List.setIfInBounds_toArray, List.set_cons_zero, List.set_cons_succ]
          refine wpAnyH_ready (rs := [7]) (by kernel_rfl) (by simp) ?_
          refine AllReadyH.cons (o := ⟨_, _, _, _, _, _⟩) rfl (fun KK hK => ?_) AllReadyH.nil
          go_simp
          refine hK.out _ _ (kx7 _) (fun hH17 => ?_)
          clear hK KK
          try simp only [Act.put, List.setIfInBounds_toArray, List.set_cons_zero, List.set_cons_succ]
          refine wpAnyH_done (by kernel_rfl) (NoPanic.normal ?_) _
          obtain ⟨u3, hu3⟩ : ∃ x, w6.setCell ⟨w.heap.size, 0, none⟩ (.slice (some ⟨gp, 0, none⟩) 1 cp) = x := ⟨_, rfl⟩
          have b4 : u3.cell? ⟨bb, 4, none⟩ = some (.slice (some ⟨g2, 0, none⟩) 1 c2) := by rw [← hu3]; exact (kx7 _).2.2.2.2
          have d0 : u3.cell? ⟨w.heap.size, 0, none⟩ = some (.slice (some ⟨gp, 0, none⟩) 1 cp) := by rw [← hu3]; simp [go_sem, x0]
          have d1 : u3.cell? ⟨w.heap.size, 1, none⟩ = some (.slice (some ⟨gl, 0, none⟩) 1 cl) := by rw [← hu3]; simp [go_sem, x1]
          have d2 : u3.cell? ⟨w.heap.size, 2, none⟩ = some (.int .i64 0) := by rw [← hu3]; simp [go_sem, x2]
          have q0' : u3.cell? ⟨w.heap.size + 1 + 1, 0, none⟩ = some (.slice none 0 0) := by rw [← hu3]; exact sc5 (by omega) q0
          have q1' : u3.cell? ⟨w.heap.size + 1 + 1, 1, none⟩ = some (.slice none 0 0) := by rw [← hu3]; exact sc5 (by omega) q1
          have q2' : u3.cell? ⟨w.heap.size + 1 + 1, 2, none⟩ = some (.int .i64 0) := by rw [← hu3]; exact sc5 (by omega) q2
          have fd : ∀ o, u3.frozen? ⟨w.heap.size, o, none⟩ = false := fun o => by rw [← hu3]; simp [go_sem, fx]
          have fe : ∀ o, u3.frozen? ⟨w.heap.size + 1 + 1, o, none⟩ = false := fun o => by rw [← hu3]; simp [go_sem, fq]
          have O1 : u3.ownsRow w.heap.size 84 4 (.slice (some ⟨gp, 0, none⟩) 1 cp) 1 [.int .i64 id, .int .i64 ep, .int .i64 1, .slice (some ⟨gw, 0, none⟩) 1 cw] := by rw [← hu3]; exact own5 (owns_mono o1 (by simp; omega)) (fun q hq => by have := o1.lt q hq; simp at this; omega)
          have O2 : u3.ownsRow w.heap.size 103 3 (.slice (some ⟨gw, 0, none⟩) 1 cw) 1 [.int .i64 0, .int .i64 1, .int .i64 0] := by rw [← hu3]; exact own5 (owns_mono o2 (by simp; omega)) (fun q hq => by have := o2.lt q hq; simp at this; omega)
          have O3 : u3.ownsRow w.heap.size 48 5 (.slice (some ⟨gl, 0, none⟩) 1 cl) 1 [.int .i64 0, .int .i64 ep, .int .i64 id, .int .i64 0, .slice (some ⟨g2, 0, none⟩) 1 c2] := by rw [← hu3]; exact own5 (owns_below oL HU6) (fun q hq => by simp [Value.ownBlock] at hq; omega)
          have cS7 : u3.cell? ⟨g2, 0, none⟩ = some (.string ⟨#[]⟩) := by rw [← hu3]; exact sc5 (by omega) (cel5 HU6 cS6)
          have hgp := (o1.lt gp rfl).1
          have hgw := (o2.lt gw rfl).1
          simp at hgp hgw
          have B7 : Below w.heap.size w u3 := by rw [← hu3]; exact (st5 B5 HU6).setCell (Nat.le_refl _) _
          rw [hu3]
          clear hu3 kx kxa kx6 kx7 n0 n1 n2 n0a m0 m1 m2 fn fm x0 x1 x2 q0 q1 q2 fx fq HU6 hB6 o1 o2 oL B5 cS6
          have d0a : ∀ x, (u3.setCell ⟨w.heap.size, 2, none⟩ x).cell? ⟨w.heap.size, 0, none⟩ = some (.slice (some ⟨gp, 0, none⟩) 1 cp) := fun x => by simp [go_sem, d0]
          have d1a : ∀ x, (u3.setCell ⟨w.heap.size, 2, none⟩ x).cell? ⟨w.heap.size, 1, none⟩ = some (.slice (some ⟨gl, 0, none⟩) 1 cl) := fun x => by simp [go_sem, d1]
          have d2a : ∀ x, (u3.setCell ⟨w.heap.size, 2, none⟩ x).cell? ⟨w.heap.size, 2, none⟩ = some x := fun x => by simp [go_sem, d2]
          have q0a : ∀ x, (u3.setCell ⟨w.heap.size, 2, none⟩ x).cell? ⟨w.heap.size + 1 + 1, 0, none⟩ = some (.slice none 0 0) := fun x => sc5 (by omega) q0'
          have q1a : ∀ x, (u3.setCell ⟨w.heap.size, 2, none⟩ x).cell? ⟨w.heap.size + 1 + 1, 1, none⟩ = some (.slice none 0 0) := fun x => sc5 (by omega) q1'
          have q2a : ∀ x, (u3.setCell ⟨w.heap.size, 2, none⟩ x).cell? ⟨w.heap.size + 1 + 1, 2, none⟩ = some (.int .i64 0) := fun x => sc5 (by omega) q2'
          have fea : ∀ x o, (u3.setCell ⟨w.heap.size, 2, none⟩ x).frozen? ⟨w.heap.size + 1 + 1, o, none⟩ = false := fun x o => by simp [go_sem, fe]
          go_wp2_with fail
          refine bodyPost_ret (v := .tuple #[.agg #[(.slice (some ⟨gp, 0, none⟩) 1 cp), .slice (some ⟨gl, 0, none⟩) 1 cl, .int .i64 1], .int .i64 0, .int .i64 0]) (by simp [results, Try.results48, go_sem, q0', q1', q2']) rfl ⟨gp, cp, gl, cl, rfl, ⟨gw, cw, g2, c2, ?_, ?_, ?_, ?_, by omega⟩, ?_⟩
          · exact (own5 (own5 (own5 (own5 O1 (fun q hq => by simp [Value.ownBlock] at hq; omega)) (fun q hq => by simp [Value.ownBlock] at hq; omega)) (fun q hq => by simp [Value.ownBlock] at hq; omega)) (fun q hq => by simp [Value.ownBlock] at hq; omega))
          · exact (own5 (own5 (own5 (own5 O2 (fun q hq => by simp [Value.ownBlock] at hq; omega)) (fun q hq => by simp [Value.ownBlock] at hq; omega)) (fun q hq => by simp [Value.ownBlock] at hq; omega)) (fun q hq => by simp [Value.ownBlock] at hq; omega))
          · exact (own5 (own5 (own5 (own5 O3 (fun q hq => by simp [Value.ownBlock] at hq; omega)) (fun q hq => by simp [Value.ownBlock] at hq; omega)) (fun q hq => by simp [Value.ownBlock] at hq; omega)) (fun q hq => by simp [Value.ownBlock] at hq; omega))
          · exact sc5 (by omega) (sc5 (by omega) (sc5 (by omega) (sc5 (by omega) cS7)))
          · exact (((B7.setCell (Nat.le_refl _) _).setCell (by show w.heap.size ≤ w.heap.size + 1 + 1; omega) _).setCell (by show w.heap.size ≤ w.heap.size + 1 + 1; omega) _).setCell (by show w.heap.size ≤ w.heap.size + 1 + 1; omega) _
  case s1x2 =>
    go_simp
    refine hK.out _ _ kk (fun hH1 => ?_)
    clear hK KK
    try simp only [Act.put, List.setIfInBounds_toArray, List.set_cons_zero, List.set_cons_succ]
    refine wpAnyH_ready (rs := [0, 5]) (by kernel_rfl) (by simp) ?_
    refine (AllReadyH.cons (o := ⟨_, _, _, _, _, _⟩) rfl (fun KK hK => ?s13x0) (AllReadyH.cons (o := ⟨_, _, _, _, _, _⟩) rfl (fun KK hK => ?s13x5) AllReadyH.nil))
    case s13x0 =>
      go_simp
      refine hK.out _ _ (kka _) (fun hH13 => ?_)
      clear hK KK
      try simp only [Act.put, List.setIfInBounds_toArray, List.set_cons_zero, List.set_cons_succ]
      refine wpAnyH_take (i := 3) (oi := ⟨_, _, _, _, _, _⟩) (v := ?vn143) rfl (by kernel_rfl) (by kernel_rfl) (by kernel_rfl) (fun _ _ _ h => h) (Or.inl ⟨by rfl, ?yn143⟩) (by assumption) ?rn143
      case yn143 => intro w hSw; (try dsimp only at hSw); go_simp; try with_reducible rfl
      try simp only [Act.put, List.setIfInBounds_toArray, List.set_cons_zero, List.set_cons_succ]
      refine wpAnyH_ready (rs := [5]) (by kernel_rfl) (by simp) ?_
      refine (AllReadyH.cons (o := ⟨_, _, _, _, _, _⟩) rfl (fun KK hK => ?s14x5) AllReadyH.nil)
      case s14x5 =>
        go_simp
        refine hK.out _ _ (kkb _ _) (fun hH14 => ?_)
        clear hK KK
        try simp only [Act.put, List.setIfInBounds_toArray, List.set_cons_zero, List.set_cons_succ]
        refine wpAnyH_ready (rs := [6]) (by kernel_rfl) (by simp) ?_
        refine AllReadyH.cons (o := ⟨_, _, _, _, _, _⟩) rfl (fun KK hK => ?_) AllReadyH.nil
        refine wp_append_lies _ _ _ 23 rfl w.heap.size 48 i1 _ 5 56 Try.underlying23 hi1 hd0 hd1 hd2 rfl (by decide) (.slice (some ⟨u.heap.size, 0, none⟩) 0 0) 0 [] rfl (owns_empty ?e0 (by omega)) ⟨u.heap.size + 1, 0, none⟩ 1 1 [.int .i64 0, .int .i64 ep, .int .i64 id, .int .i64 0, .slice (some ⟨g2, 0, none⟩) 1 c2] rfl rfl ?e1 ?e2 (by omega) ?e3 ?e4 ?e5 (u.heap.size + 1 + 1) ?e6 ?_
        case e0 => exact ((al5 (u.alloc _) _).block u.heap.size (by simp)).trans (heap_alloc_new u _)
        case e1 => exact World.news_of_block (cs := #[.int .i64 0, .int .i64 ep, .int .i64 id, .int .i64 0, .slice (some ⟨g2, 0, none⟩) 1 c2]) (t := 48) (fr := (0, 0)) (by have h := heap_alloc_new (u.alloc (.cells #[] 48)) (.cells #[.int .i64 0, .int .i64 ep, .int .i64 id, .int .i64 0, .slice (some ⟨g2, 0, none⟩) 1 c2] 48); simp only [World.size_alloc] at h; exact h)
        case e2 => simp [Value.oneCell']
        case e3 => unfold maxLen; omega
        case e4 => omega
        case e5 => simp; omega
        case e6 => simp
        intro gl cl w5 hownL hgrow hat _
        have HU5 : Below u.heap.size u w5 := (((Below.refl u.heap.size u).alloc (Nat.le_refl _) _).alloc (by simp) _).drew.grown hgrow (by simp; omega) (fun k hk => by simp [Value.ownBlock] at hk; omega)
        have hgl : u.heap.size ≤ gl := by simp [Value.ownBlock] at hat; omega
        have kk5 : w5.cell? ⟨bb, 0, none⟩ = some (.int .i64 0) ∧ w5.cell? ⟨bb, 1, none⟩ = some (.int .i64 ep) ∧ w5.cell? ⟨bb, 2, none⟩ = some (.int .i64 id) ∧ w5.cell? ⟨bb, 3, none⟩ = some (.int .i64 0) ∧ w5.cell? ⟨bb, 4, none⟩ = some (.slice (some ⟨g2, 0, none⟩) 1 c2) := ⟨cel5 HU5 kk.1, cel5 HU5 kk.2.1, cel5 HU5 kk.2.2.1, cel5 HU5 kk.2.2.2.1, cel5 HU5 kk.2.2.2.2⟩
        have z1 : w5.cell? ⟨w.heap.size, 1, none⟩ = some (.slice none 0 0) := cel5 HU5 y1
        have fz : ∀ o, w5.frozen? ⟨w.heap.size, o, none⟩ = false := fun o => fz5 HU5 (by omega) (fy o)
        have kk6 : ∀ x, (w5.setCell ⟨w.heap.size, 1, none⟩ x).cell? ⟨bb, 0, none⟩ = some (.int .i64 0) ∧ (w5.setCell ⟨w.heap.size, 1, none⟩ x).cell? ⟨bb, 1, none⟩ = some (.int .i64 ep) ∧ (w5.setCell ⟨w.heap.size, 1, none⟩ x).cell? ⟨bb, 2, none⟩ = some (.int .i64 id) ∧ (w5.setCell ⟨w.heap.size, 1, none⟩ x).cell? ⟨bb, 3, none⟩ = some (.int .i64 0) ∧ (w5.setCell ⟨w.heap.size, 1, none⟩ x).cell? ⟨bb, 4, none⟩ = some (.slice (some ⟨g2, 0, none⟩) 1 c2) := fun x => ⟨sc5 (by omega) kk5.1, sc5 (by omega) kk5.2.1, sc5 (by omega) kk5.2.2.1, sc5 (by omega) kk5.2.2.2.1, sc5 (by omega) kk5.2.2.2.2⟩
        refine hK.out _ _ kk5 (fun hH13 => ?_)
        clear hK KK
        try simp only [Act.put, List.setIfInBounds_toArray, List.set_cons_zero, List.set_cons_succ]
        refine wpAnyH_take (i := 7) (oi := ⟨_, _, _, _, _, _⟩) (v := ?vf157) rfl (by kernel_rfl) (by kernel_rfl) (by kernel_rfl) (fun _ _ _ h => h) (Or.inl ⟨by rfl, ?yf157⟩) (by assumption) ?rf157
        case yf157 => intro w hSw; (try dsimp only at hSw); go_simp; try with_reducible rfl
        try simp only [Act.put, List.setIfInBounds_toArray, List.set_cons_zero, List.set_cons_succ]
        refine wpAnyH_ready (rs := [8]) (by kernel_rfl) (by simp) ?_
        refine AllReadyH.cons (o := ⟨_, _, _, _, _, _⟩) rfl (fun KK hK => ?_) AllReadyH.nil
        go_simp
        refine hK.out _ _ (kk6 _) (fun hH15 => ?_)
        clear hK KK
        try simp only [Act.put, List.setIfInBounds_toArray, List.set_cons_zero, List.set_cons_succ]
        refine wpAnyH_done (by kernel_rfl) (NoPanic.normal ?_) _
        have z0 : w5.cell? ⟨w.heap.size, 0, none⟩ = some (.slice none 0 0) := cel5 HU5 y0
        have z2 : w5.cell? ⟨w.heap.size, 2, none⟩ = some (.int .i64 0) := cel5 HU5 y2
        have t0 : w5.cell? ⟨w.heap.size + 1 + 1, 0, none⟩ = some (.slice none 0 0) := cel5 HU5 s0
        have t1 : w5.cell? ⟨w.heap.size + 1 + 1, 1, none⟩ = some (.slice none 0 0) := cel5 HU5 s1
        have t2 : w5.cell? ⟨w.heap.size + 1 + 1, 2, none⟩ = some (.int .i64 0) := cel5 HU5 s2
        have ft : ∀ o, w5.frozen? ⟨w.heap.size + 1 + 1, o, none⟩ = false := fun o => fz5 HU5 (by omega) (fs o)
        have cS5 : w5.cell? ⟨g2, 0, none⟩ = some (.string ⟨#[]⟩) := cel5 HU5 cSu
        have B5 : Below w.heap.size w (w5.setCell ⟨w.heap.size, 1, none⟩ (.slice (some ⟨gl, 0, none⟩) 1 cl)) := (st5 BB HU5).setCell (Nat.le_refl _) _
        have l5 := HU5.size
        obtain ⟨u2, hu2⟩ : ∃ x, w5.setCell ⟨w.heap.size, 1, none⟩ (.slice (some ⟨gl, 0, none⟩) 1 cl) = x := ⟨_, rfl⟩
        have kx : u2.cell? ⟨bb, 0, none⟩ = some (.int .i64 0) ∧ u2.cell? ⟨bb, 1, none⟩ = some (.int .i64 ep) ∧ u2.cell? ⟨bb, 2, none⟩ = some (.int .i64 id) ∧ u2.cell? ⟨bb, 3, none⟩ = some (.int .i64 0) ∧ u2.cell? ⟨bb, 4, none⟩ = some (.slice (some ⟨g2, 0, none⟩) 1 c2) := by rw [← hu2]; exact kk6 _
        have n0 : u2.cell? ⟨w.heap.size, 0, none⟩ = some (.slice none 0 0) := by rw [← hu2]; simp [go_sem, z0]
        have n1 : u2.cell? ⟨w.heap.size, 1, none⟩ = some (.slice (some ⟨gl, 0, none⟩) 1 cl) := by rw [← hu2]; simp [go_sem, z1]
        have n2 : u2.cell? ⟨w.heap.size, 2, none⟩ = some (.int .i64 0) := by rw [← hu2]; simp [go_sem, z2]
        have m0 : u2.cell? ⟨w.heap.size + 1 + 1, 0, none⟩ = some (.slice none 0 0) := by rw [← hu2]; exact sc5 (by omega) t0
        have m1 : u2.cell? ⟨w.heap.size + 1 + 1, 1, none⟩ = some (.slice none 0 0) := by rw [← hu2]; exact sc5 (by omega) t1
        have m2 : u2.cell? ⟨w.heap.size + 1 + 1, 2, none⟩ = some (.int .i64 0) := by rw [← hu2]; exact sc5 (by omega) t2
        have fn : ∀ o, u2.frozen? ⟨w.heap.size, o, none⟩ = false := fun o => by rw [← hu2]; simp [go_sem, fz]
        have fm : ∀ o, u2.frozen? ⟨w.heap.size + 1 + 1, o, none⟩ = false := fun o => by rw [← hu2]; simp [go_sem, ft]
        have oL : u2.ownsRow w.heap.size 48 5 (.slice (some ⟨gl, 0, none⟩) 1 cl) 1 [.int .i64 0, .int .i64 ep, .int .i64 id, .int .i64 0, .slice (some ⟨g2, 0, none⟩) 1 c2] := by rw [← hu2]; exact own5 hownL (fun q hq => by simp [Value.ownBlock] at hq; omega)
        have cS6 : u2.cell? ⟨g2, 0, none⟩ = some (.string ⟨#[]⟩) := by rw [← hu2]; exact sc5 (by omega) cS5
        have l6 : u.heap.size ≤ u2.heap.size := by rw [← hu2]; simp; omega
        have hglu := (oL.lt gl rfl).2
        rw [hu2] at B5 ⊢
        clear hu2 kk kka kkb kk5 kk6 y0 y1 y2 y1a y1b s0 s1 s2 fy fs z0 z1 z2 t0 t1 t2 fz ft HU5 hownL hgrow hat cS5 cSu BB
        go_wp2_with fail
        refine wp_region_noPanic ?_
        refine wp_region_held_drew (S := fun w' => w'.cell? ⟨bb, 0, none⟩ = some (.int .i64 0) ∧ w'.cell? ⟨bb, 1, none⟩ = some (.int .i64 ep) ∧ w'.cell? ⟨bb, 2, none⟩ = some (.int .i64 id) ∧ w'.cell? ⟨bb, 3, none⟩ = some (.int .i64 0) ∧ w'.cell? ⟨bb, 4, none⟩ = some (.slice (some ⟨g2, 0, none⟩) 1 c2)) (by kernel_rfl) kx (fun hH => ?_)
        refine wpAnyH_take (i := 1) (oi := ⟨_, _, _, _, _, _⟩) (v := ?vgf15t1) rfl (by kernel_rfl) (by kernel_rfl) (by kernel_rfl) (fun _ _ _ h => h) (Or.inl ⟨by rfl, ?ygf15t1⟩) (by assumption) ?rgf15t1
        case ygf15t1 => intro w hSw; (try dsimp only at hSw); go_simp; try with_reducible rfl
        try simp only [Act.put, List.setIfInBounds_toArray, List.set_cons_zero, List.set_cons_succ]
        refine wpAnyH_take (i := 4) (oi := ⟨_, _, _, _, _, _⟩) (v := ?vgf15t4) rfl (by kernel_rfl) (by kernel_rfl) (by kernel_rfl) (fun _ _ _ h => h) (Or.inl ⟨by rfl, ?ygf15t4⟩) (by assumption) ?rgf15t4
        case ygf15t4 => intro w hSw; (try dsimp only at hSw); go_simp; try with_reducible rfl
        try simp only [Act.put, List.setIfInBounds_toArray, List.set_cons_zero, List.set_cons_succ]
        have kxa : ∀ o, (u2.alloc o).cell? ⟨bb, 0, none⟩ = some (.int .i64 0) ∧ (u2.alloc o).cell? ⟨bb, 1, none⟩ = some (.int .i64 ep) ∧ (u2.alloc o).cell? ⟨bb, 2, none⟩ = some (.int .i64 id) ∧ (u2.alloc o).cell? ⟨bb, 3, none⟩ = some (.int .i64 0) ∧ (u2.alloc o).cell? ⟨bb, 4, none⟩ = some (.slice (some ⟨g2, 0, none⟩) 1 c2) := fun o => ⟨cel5 (al5 u2 o) kx.1, cel5 (al5 u2 o) kx.2.1, cel5 (al5 u2 o) kx.2.2.1, cel5 (al5 u2 o) kx.2.2.2.1, cel5 (al5 u2 o) kx.2.2.2.2⟩
        have n0a : ∀ o, (u2.alloc o).cell? ⟨w.heap.size, 0, none⟩ = some (.slice none 0 0) := fun o => cel5 (al5 _ o) n0
        refine wpAnyH_ready (rs := [0, 2]) (by kernel_rfl) (by simp) ?_
        refine (AllReadyH.cons (o := ⟨_, _, _, _, _, _⟩) rfl (fun KK hK => ?gf15a) (AllReadyH.cons (o := ⟨_, _, _, _, _, _⟩) rfl (fun KK hK => ?gf15b) AllReadyH.nil))
        case gf15a =>
          go_simp
          refine hK.out _ _ (kxa _) (fun hHa => ?_)
          clear hK KK
          try simp only [Act.put, List.setIfInBounds_toArray, List.set_cons_zero, List.set_cons_succ]
          refine wpAnyH_ready (rs := [2]) (by kernel_rfl) (by simp) ?_
          refine AllReadyH.cons (o := ⟨_, _, _, _, _, _⟩) rfl (fun KK hK => ?_) AllReadyH.nil
          go_simp
          refine hK.out _ _ (kxa _) (fun hHb => ?_)
          clear hK KK
          try simp only [Act.put, List.setIfInBounds_toArray, List.set_cons_zero, List.set_cons_succ]
          refine wpAnyH_take (i := 3) (oi := ⟨_, _, _, _, _, _⟩) (v := ?vgf15n173) rfl (by kernel_rfl) (by kernel_rfl) (by kernel_rfl) (fun _ _ _ h => h) (Or.inl ⟨by rfl, ?ygf15n173⟩) (by assumption) ?rgf15n173
          case ygf15n173 => intro w hSw; (try dsimp only at hSw); go_simp; try with_reducible rfl
          try simp only [Act.put, List.setIfInBounds_toArray, List.set_cons_zero, List.set_cons_succ]
          refine wpAnyH_ready (rs := [5]) (by kernel_rfl) (by simp) ?_
          refine AllReadyH.cons (o := ⟨_, _, _, _, _, _⟩) rfl (fun KK hK => ?_) AllReadyH.nil
          go_simp
          go_at_call 65
          refine (l5Add_nil id ep 0 u2.heap.size g2 c2 _).mono ?_
          rintro r w6 ⟨gp, cp, gw, cw, rfl, o1, o2, hlt6, hB6⟩
          have HU6 : Below u2.heap.size u2 w6 := ((Below.refl u2.heap.size u2).alloc (Nat.le_refl _) _).drew.trans (hB6.mono (by simp))
          have l7 := HU6.size
          have kx6 : w6.cell? ⟨bb, 0, none⟩ = some (.int .i64 0) ∧ w6.cell? ⟨bb, 1, none⟩ = some (.int .i64 ep) ∧ w6.cell? ⟨bb, 2, none⟩ = some (.int .i64 id) ∧ w6.cell? ⟨bb, 3, none⟩ = some (.int .i64 0) ∧ w6.cell? ⟨bb, 4, none⟩ = some (.slice (some ⟨g2, 0, none⟩) 1 c2) := ⟨cel5 HU6 kx.1, cel5 HU6 kx.2.1, cel5 HU6 kx.2.2.1, cel5 HU6 kx.2.2.2.1, cel5 HU6 kx.2.2.2.2⟩
          have x0 : w6.cell? ⟨w.heap.size, 0, none⟩ = some (.slice none 0 0) := cel5 HU6 n0
          have x1 : w6.cell? ⟨w.heap.size, 1, none⟩ = some (.slice (some ⟨gl, 0, none⟩) 1 cl) := cel5 HU6 n1
          have x2 : w6.cell? ⟨w.heap.size, 2, none⟩ = some (.int .i64 0) := cel5 HU6 n2
          have q0 : w6.cell? ⟨w.heap.size + 1 + 1, 0, none⟩ = some (.slice none 0 0) := cel5 HU6 m0
          have q1 : w6.cell? ⟨w.heap.size + 1 + 1, 1, none⟩ = some (.slice none 0 0) := cel5 HU6 m1
          have q2 : w6.cell? ⟨w.heap.size + 1 + 1, 2, none⟩ = some (.int .i64 0) := cel5 HU6 m2
          have fx : ∀ o, w6.frozen? ⟨w.heap.size, o, none⟩ = false := fun o => fz5 HU6 (by omega) (fn o)
          have fq : ∀ o, w6.frozen? ⟨w.heap.size + 1 + 1, o, none⟩ = false := fun o => fz5 HU6 (by omega) (fm o)
          have kx7 : ∀ x, (w6.setCell ⟨w.heap.size, 0, none⟩ x).cell? ⟨bb, 0, none⟩ = some (.int .i64 0) ∧ (w6.setCell ⟨w.heap.size, 0, none⟩ x).cell? ⟨bb, 1, none⟩ = some (.int .i64 ep) ∧ (w6.setCell ⟨w.heap.size, 0, none⟩ x).cell? ⟨bb, 2, none⟩ = some (.int .i64 id) ∧ (w6.setCell ⟨w.heap.size, 0, none⟩ x).cell? ⟨bb, 3, none⟩ = some (.int .i64 0) ∧ (w6.setCell ⟨w.heap.size, 0, none⟩ x).cell? ⟨bb, 4, none⟩ = some (.slice (some ⟨g2, 0, none⟩) 1 c2) := fun x => ⟨sc5 (by omega) kx6.1, sc5 (by omega) kx6.2.1, sc5 (by omega) kx6.2.2.1, sc5 (by omega) kx6.2.2.2.1, sc5 (by omega) kx6.2.2.2.2⟩
          refine hK.out _ _ kx6 (fun hH16 => ?_)
          clear hK KK
          try simp only [Act.put, List.setIfInBounds_toArray, List.set_cons_zero, List.set_cons_succ]
          refine wpAnyH_take (i := 6) (oi := ⟨_, _, _, _, _, _⟩) (v := ?vgf15f176) rfl (by kernel_rfl) (by kernel_rfl) (by kernel_rfl) (fun _ _ _ h => h) (Or.inl ⟨by rfl, ?ygf15f176⟩) (by assumption) ?rgf15f176
          case ygf15f176 => intro w hSw; (try dsimp only at hSw); go_simp; try with_reducible rfl
          try simp only [Act.put, List.setIfInBounds_toArray, List.set_cons_zero, List.set_cons_succ]
          refine wpAnyH_ready (rs := [7]) (by kernel_rfl) (by simp) ?_
          refine AllReadyH.cons (o := ⟨_, _, _, _, _, _⟩) rfl (fun KK hK => ?_) AllReadyH.nil
          go_simp
          refine hK.out _ _ (kx7 _) (fun hH17 => ?_)
          clear hK KK
          try simp only [Act.put, List.setIfInBounds_toArray, List.set_cons_zero, List.set_cons_succ]
          refine wpAnyH_done (by kernel_rfl) (NoPanic.normal ?_) _
          obtain ⟨u3, hu3⟩ : ∃ x, w6.setCell ⟨w.heap.size, 0, none⟩ (.slice (some ⟨gp, 0, none⟩) 1 cp) = x := ⟨_, rfl⟩
          have b4 : u3.cell? ⟨bb, 4, none⟩ = some (.slice (some ⟨g2, 0, none⟩) 1 c2) := by rw [← hu3]; exact (kx7 _).2.2.2.2
          have d0 : u3.cell? ⟨w.heap.size, 0, none⟩ = some (.slice (some ⟨gp, 0, none⟩) 1 cp) := by rw [← hu3]; simp [go_sem, x0]
          have d1 : u3.cell? ⟨w.heap.size, 1, none⟩ = some (.slice (some ⟨gl, 0, none⟩) 1 cl) := by rw [← hu3]; simp [go_sem, x1]
          have d2 : u3.cell? ⟨w.heap.size, 2, none⟩ = some (.int .i64 0) := by rw [← hu3]; simp [go_sem, x2]
          have q0' : u3.cell? ⟨w.heap.size + 1 + 1, 0, none⟩ = some (.slice none 0 0) := by rw [← hu3]; exact sc5 (by omega) q0
          have q1' : u3.cell? ⟨w.heap.size + 1 + 1, 1, none⟩ = some (.slice none 0 0) := by rw [← hu3]; exact sc5 (by omega) q1
          have q2' : u3.cell? ⟨w.heap.size + 1 + 1, 2, none⟩ = some (.int .i64 0) := by rw [← hu3]; exact sc5 (by omega) q2
          have fd : ∀ o, u3.frozen? ⟨w.heap.size, o, none⟩ = false := fun o => by rw [← hu3]; simp [go_sem, fx]
          have fe : ∀ o, u3.frozen? ⟨w.heap.size + 1 + 1, o, none⟩ = false := fun o => by rw [← hu3]; simp [go_sem, fq]
          have O1 : u3.ownsRow w.heap.size 84 4 (.slice (some ⟨gp, 0, none⟩) 1 cp) 1 [.int .i64 id, .int .i64 ep, .int .i64 1, .slice (some ⟨gw, 0, none⟩) 1 cw] := by rw [← hu3]; exact own5 (owns_mono o1 (by simp; omega)) (fun q hq => by have := o1.lt q hq; simp at this; omega)
          have O2 : u3.ownsRow w.heap.size 103 3 (.slice (some ⟨gw, 0, none⟩) 1 cw) 1 [.int .i64 0, .int .i64 1, .int .i64 0] := by rw [← hu3]; exact own5 (owns_mono o2 (by simp; omega)) (fun q hq => by have := o2.lt q hq; simp at this; omega)
          have O3 : u3.ownsRow w.heap.size 48 5 (.slice (some ⟨gl, 0, none⟩) 1 cl) 1 [.int .i64 0, .int .i64 ep, .int .i64 id, .int .i64 0, .slice (some ⟨g2, 0, none⟩) 1 c2] := by rw [← hu3]; exact own5 (owns_below oL HU6) (fun q hq => by simp [Value.ownBlock] at hq; omega)
          have cS7 : u3.cell? ⟨g2, 0, none⟩ = some (.string ⟨#[]⟩) := by rw [← hu3]; exact sc5 (by omega) (cel5 HU6 cS6)
          have hgp := (o1.lt gp rfl).1
          have hgw := (o2.lt gw rfl).1
          simp at hgp hgw
          have B7 : Below w.heap.size w u3 := by rw [← hu3]; exact (st5 B5 HU6).setCell (Nat.le_refl _) _
          rw [hu3]
          clear hu3 kx kxa kx6 kx7 n0 n1 n2 n0a m0 m1 m2 fn fm x0 x1 x2 q0 q1 q2 fx fq HU6 hB6 o1 o2 oL B5 cS6
          have d0a : ∀ x, (u3.setCell ⟨w.heap.size, 2, none⟩ x).cell? ⟨w.heap.size, 0, none⟩ = some (.slice (some ⟨gp, 0, none⟩) 1 cp) := fun x => by simp [go_sem, d0]
          have d1a : ∀ x, (u3.setCell ⟨w.heap.size, 2, none⟩ x).cell? ⟨w.heap.size, 1, none⟩ = some (.slice (some ⟨gl, 0, none⟩) 1 cl) := fun x => by simp [go_sem, d1]
          have d2a : ∀ x, (u3.setCell ⟨w.heap.size, 2, none⟩ x).cell? ⟨w.heap.size, 2, none⟩ = some x := fun x => by simp [go_sem, d2]
          have q0a : ∀ x, (u3.setCell ⟨w.heap.size, 2, none⟩ x).cell? ⟨w.heap.size + 1 + 1, 0, none⟩ = some (.slice none 0 0) := fun x => sc5 (by omega) q0'
          have q1a : ∀ x, (u3.setCell ⟨w.heap.size, 2, none⟩ x).cell? ⟨w.heap.size + 1 + 1, 1, none⟩ = some (.slice none 0 0) := fun x => sc5 (by omega) q1'
          have q2a : ∀ x, (u3.setCell ⟨w.heap.size, 2, none⟩ x).cell? ⟨w.heap.size + 1 + 1, 2, none⟩ = some (.int .i64 0) := fun x => sc5 (by omega) q2'
          have fea : ∀ x o, (u3.setCell ⟨w.heap.size, 2, none⟩ x).frozen? ⟨w.heap.size + 1 + 1, o, none⟩ = false := fun x o => by simp [go_sem, fe]
          go_wp2_with fail
          refine bodyPost_ret (v := .tuple #[.agg #[(.slice (some ⟨gp, 0, none⟩) 1 cp), .slice (some ⟨gl, 0, none⟩) 1 cl, .int .i64 1], .int .i64 0, .int .i64 0]) (by simp [results, Try.results48, go_sem, q0', q1', q2']) rfl ⟨gp, cp, gl, cl, rfl, ⟨gw, cw, g2, c2, ?_, ?_, ?_, ?_, by omega⟩, ?_⟩
          · exact (own5 (own5 (own5 (own5 O1 (fun q hq => by simp [Value.ownBlock] at hq; omega)) (fun q hq => by simp [Value.ownBlock] at hq; omega)) (fun q hq => by simp [Value.ownBlock] at hq; omega)) (fun q hq => by simp [Value.ownBlock] at hq; omega))
          · exact (own5 (own5 (own5 (own5 O2 (fun q hq => by simp [Value.ownBlock] at hq; omega)) (fun q hq => by simp [Value.ownBlock] at hq; omega)) (fun q hq => by simp [Value.ownBlock] at hq; omega)) (fun q hq => by simp [Value.ownBlock] at hq; omega))
          · exact (own5 (own5 (own5 (own5 O3 (fun q hq => by simp [Value.ownBlock] at hq; omega)) (fun q hq => by simp [Value.ownBlock] at hq; omega)) (fun q hq => by simp [Value.ownBlock] at hq; omega)) (fun q hq => by simp [Value.ownBlock] at hq; omega))
          · exact sc5 (by omega) (sc5 (by omega) (sc5 (by omega) (sc5 (by omega) cS7)))
          · exact (((B7.setCell (Nat.le_refl _) _).setCell (by show w.heap.size ≤ w.heap.size + 1 + 1; omega) _).setCell (by show w.heap.size ≤ w.heap.size + 1 + 1; omega) _).setCell (by show w.heap.size ≤ w.heap.size + 1 + 1; omega) _
        case gf15b =>
          go_simp
          refine hK.out _ _ kx (fun hHa => ?_)
          clear hK KK
          try simp only [Act.put, List.setIfInBounds_toArray, List.set_cons_zero, List.set_cons_succ]
          refine wpAnyH_ready (rs := [0]) (by kernel_rfl) (by simp) ?_
          refine AllReadyH.cons (o := ⟨_, _, _, _, _, _⟩) rfl (fun KK hK => ?_) AllReadyH.nil
          go_simp
          refine hK.out _ _ (kxa _) (fun hHb => ?_)
          clear hK KK
          try simp only [Act.put, List.setIfInBounds_toArray, List.set_cons_zero, List.set_cons_succ]
          refine wpAnyH_take (i := 3) (oi := ⟨_, _, _, _, _, _⟩) (v := ?vgf15n183) rfl (by kernel_rfl) (by kernel_rfl) (by kernel_rfl) (fun _ _ _ h => h) (Or.inl ⟨by rfl, ?ygf15n183⟩) (by assumption) ?rgf15n183
          case ygf15n183 => intro w hSw; (try dsimp only at hSw); go_simp; try with_reducible rfl
          try simp only [Act.put, List.setIfInBounds_toArray, List.set_cons_zero, List.set_cons_succ]
          refine wpAnyH_ready (rs := [5]) (by kernel_rfl) (by simp) ?_
          refine AllReadyH.cons (o := ⟨_, _, _, _, _, _⟩) rfl (fun KK hK => ?_) AllReadyH.nil
          go_simp
          go_at_call 65
          refine (l5Add_nil id ep 0 u2.heap.size g2 c2 _).mono ?_
          rintro r w6 ⟨gp, cp, gw, cw, rfl, o1, o2, hlt6, hB6⟩
          have HU6 : Below u2.heap.size u2 w6 := ((Below.refl u2.heap.size u2).alloc (Nat.le_refl _) _).drew.trans (hB6.mono (by simp))
          have l7 := HU6.size
          have kx6 : w6.cell? ⟨bb, 0, none⟩ = some (.int .i64 0) ∧ w6.cell? ⟨bb, 1, none⟩ = some (.int .i64 ep) ∧ w6.cell? ⟨bb, 2, none⟩ = some (.int .i64 id) ∧ w6.cell? ⟨bb, 3, none⟩ = some (.int .i64 0) ∧ w6.cell? ⟨bb, 4, none⟩ = some (.slice (some ⟨g2, 0, none⟩) 1 c2) := ⟨cel5 HU6 kx.1, cel5 HU6 kx.2.1, cel5 HU6 kx.2.2.1, cel5 HU6 kx.2.2.2.1, cel5 HU6 kx.2.2.2.2⟩
          have x0 : w6.cell? ⟨w.heap.size, 0, none⟩ = some (.slice none 0 0) := cel5 HU6 n0
          have x1 : w6.cell? ⟨w.heap.size, 1, none⟩ = some (.slice (some ⟨gl, 0, none⟩) 1 cl) := cel5 HU6 n1
          have x2 : w6.cell? ⟨w.heap.size, 2, none⟩ = some (.int .i64 0) := cel5 HU6 n2
          have q0 : w6.cell? ⟨w.heap.size + 1 + 1, 0, none⟩ = some (.slice none 0 0) := cel5 HU6 m0
          have q1 : w6.cell? ⟨w.heap.size + 1 + 1, 1, none⟩ = some (.slice none 0 0) := cel5 HU6 m1
          have q2 : w6.cell? ⟨w.heap.size + 1 + 1, 2, none⟩ = some (.int .i64 0) := cel5 HU6 m2
          have fx : ∀ o, w6.frozen? ⟨w.heap.size, o, none⟩ = false := fun o => fz5 HU6 (by omega) (fn o)
          have fq : ∀ o, w6.frozen? ⟨w.heap.size + 1 + 1, o, none⟩ = false := fun o => fz5 HU6 (by omega) (fm o)
          have kx7 : ∀ x, (w6.setCell ⟨w.heap.size, 0, none⟩ x).cell? ⟨bb, 0, none⟩ = some (.int .i64 0) ∧ (w6.setCell ⟨w.heap.size, 0, none⟩ x).cell? ⟨bb, 1, none⟩ = some (.int .i64 ep) ∧ (w6.setCell ⟨w.heap.size, 0, none⟩ x).cell? ⟨bb, 2, none⟩ = some (.int .i64 id) ∧ (w6.setCell ⟨w.heap.size, 0, none⟩ x).cell? ⟨bb, 3, none⟩ = some (.int .i64 0) ∧ (w6.setCell ⟨w.heap.size, 0, none⟩ x).cell? ⟨bb, 4, none⟩ = some (.slice (some ⟨g2, 0, none⟩) 1 c2) := fun x => ⟨sc5 (by omega) kx6.1, sc5 (by omega) kx6.2.1, sc5 (by omega) kx6.2.2.1, sc5 (by omega) kx6.2.2.2.1, sc5 (by omega) kx6.2.2.2.2⟩
          refine hK.out _ _ kx6 (fun hH16 => ?_)
          clear hK KK
          try simp only [Act.put, List.setIfInBounds_toArray, List.set_cons_zero, List.set_cons_succ]
          refine wpAnyH_take (i := 6) (oi := ⟨_, _, _, _, _, _⟩) (v := ?vgf15f186) rfl (by kernel_rfl) (by kernel_rfl) (by kernel_rfl) (fun _ _ _ h => h) (Or.inl ⟨by rfl, ?ygf15f186⟩) (by assumption) ?rgf15f186
          case ygf15f186 => intro w hSw; (try dsimp only at hSw); go_simp; try with_reducible rfl
          try simp only [Act.put, List.setIfInBounds_toArray, List.set_cons_zero, List.set_cons_succ]
          refine wpAnyH_ready (rs := [7]) (by kernel_rfl) (by simp) ?_
          refine AllReadyH.cons (o := ⟨_, _, _, _, _, _⟩) rfl (fun KK hK => ?_) AllReadyH.nil
          go_simp
          refine hK.out _ _ (kx7 _) (fun hH17 => ?_)
          clear hK KK
          try simp only [Act.put, List.setIfInBounds_toArray, List.set_cons_zero, List.set_cons_succ]
          refine wpAnyH_done (by kernel_rfl) (NoPanic.normal ?_) _
          obtain ⟨u3, hu3⟩ : ∃ x, w6.setCell ⟨w.heap.size, 0, none⟩ (.slice (some ⟨gp, 0, none⟩) 1 cp) = x := ⟨_, rfl⟩
          have b4 : u3.cell? ⟨bb, 4, none⟩ = some (.slice (some ⟨g2, 0, none⟩) 1 c2) := by rw [← hu3]; exact (kx7 _).2.2.2.2
          have d0 : u3.cell? ⟨w.heap.size, 0, none⟩ = some (.slice (some ⟨gp, 0, none⟩) 1 cp) := by rw [← hu3]; simp [go_sem, x0]
          have d1 : u3.cell? ⟨w.heap.size, 1, none⟩ = some (.slice (some ⟨gl, 0, none⟩) 1 cl) := by rw [← hu3]; simp [go_sem, x1]
          have d2 : u3.cell? ⟨w.heap.size, 2, none⟩ = some (.int .i64 0) := by rw [← hu3]; simp [go_sem, x2]
          have q0' : u3.cell? ⟨w.heap.size + 1 + 1, 0, none⟩ = some (.slice none 0 0) := by rw [← hu3]; exact sc5 (by omega) q0
          have q1' : u3.cell? ⟨w.heap.size + 1 + 1, 1, none⟩ = some (.slice none 0 0) := by rw [← hu3]; exact sc5 (by omega) q1
          have q2' : u3.cell? ⟨w.heap.size + 1 + 1, 2, none⟩ = some (.int .i64 0) := by rw [← hu3]; exact sc5 (by omega) q2
          have fd : ∀ o, u3.frozen? ⟨w.heap.size, o, none⟩ = false := fun o => by rw [← hu3]; simp [go_sem, fx]
          have fe : ∀ o, u3.frozen? ⟨w.heap.size + 1 + 1, o, none⟩ = false := fun o => by rw [← hu3]; simp [go_sem, fq]
          have O1 : u3.ownsRow w.heap.size 84 4 (.slice (some ⟨gp, 0, none⟩) 1 cp) 1 [.int .i64 id, .int .i64 ep, .int .i64 1, .slice (some ⟨gw, 0, none⟩) 1 cw] := by rw [← hu3]; exact own5 (owns_mono o1 (by simp; omega)) (fun q hq => by have := o1.lt q hq; simp at this; omega)
          have O2 : u3.ownsRow w.heap.size 103 3 (.slice (some ⟨gw, 0, none⟩) 1 cw) 1 [.int .i64 0, .int .i64 1, .int .i64 0] := by rw [← hu3]; exact own5 (owns_mono o2 (by simp; omega)) (fun q hq => by have := o2.lt q hq; simp at this; omega)
          have O3 : u3.ownsRow w.heap.size 48 5 (.slice (some ⟨gl, 0, none⟩) 1 cl) 1 [.int .i64 0, .int .i64 ep, .int .i64 id, .int .i64 0, .slice (some ⟨g2, 0, none⟩) 1 c2] := by rw [← hu3]; exact own5 (owns_below oL HU6) (fun q hq => by simp [Value.ownBlock] at hq; omega)
          have cS7 : u3.cell? ⟨g2, 0, none⟩ = some (.string ⟨#[]⟩) := by rw [← hu3]; exact sc5 (by omega) (cel5 HU6 cS6)
          have hgp := (o1.lt gp rfl).1
          have hgw := (o2.lt gw rfl).1
          simp at hgp hgw
          have B7 : Below w.heap.size w u3 := by rw [← hu3]; exact (st5 B5 HU6).setCell (Nat.le_refl _) _
          rw [hu3]
          clear hu3 kx kxa kx6 kx7 n0 n1 n2 n0a m0 m1 m2 fn fm x0 x1 x2 q0 q1 q2 fx fq HU6 hB6 o1 o2 oL B5 cS6
          have d0a : ∀ x, (u3.setCell ⟨w.heap.size, 2, none⟩ x).cell? ⟨w.heap.size, 0, none⟩ = some (.slice (some ⟨gp, 0, none⟩) 1 cp) := fun x => by simp [go_sem, d0]
          have d1a : ∀ x, (u3.setCell ⟨w.heap.size, 2, none⟩ x).cell? ⟨w.heap.size, 1, none⟩ = some (.slice (some ⟨gl, 0, none⟩) 1 cl) := fun x => by simp [go_sem, d1]
          have d2a : ∀ x, (u3.setCell ⟨w.heap.size, 2, none⟩ x).cell? ⟨w.heap.size, 2, none⟩ = some x := fun x => by simp [go_sem, d2]
          have q0a : ∀ x, (u3.setCell ⟨w.heap.size, 2, none⟩ x).cell? ⟨w.heap.size + 1 + 1, 0, none⟩ = some (.slice none 0 0) := fun x => sc5 (by omega) q0'
          have q1a : ∀ x, (u3.setCell ⟨w.heap.size, 2, none⟩ x).cell? ⟨w.heap.size + 1 + 1, 1, none⟩ = some (.slice none 0 0) := fun x => sc5 (by omega) q1'
          have q2a : ∀ x, (u3.setCell ⟨w.heap.size, 2, none⟩ x).cell? ⟨w.heap.size + 1 + 1, 2, none⟩ = some (.int .i64 0) := fun x => sc5 (by omega) q2'
          have fea : ∀ x o, (u3.setCell ⟨w.heap.size, 2, none⟩ x).frozen? ⟨w.heap.size + 1 + 1, o, none⟩ = false := fun x o => by simp [go_sem, fe]
          go_wp2_with fail
          refine bodyPost_ret (v := .tuple #[.agg #[(.slice (some ⟨gp, 0, none⟩) 1 cp), .slice (some ⟨gl, 0, none⟩) 1 cl, .int .i64 1], .int .i64 0, .int .i64 0]) (by simp [results, Try.results48, go_sem, q0', q1', q2']) rfl ⟨gp, cp, gl, cl, rfl, ⟨gw, cw, g2, c2, ?_, ?_, ?_, ?_, by omega⟩, ?_⟩
          · exact (own5 (own5 (own5 (own5 O1 (fun q hq => by simp [Value.ownBlock] at hq; omega)) (fun q hq => by simp [Value.ownBlock] at hq; omega)) (fun q hq => by simp [Value.ownBlock] at hq; omega)) (fun q hq => by simp [Value.ownBlock] at hq; omega))
          · exact (own5 (own5 (own5 (own5 O2 (fun q hq => by simp [Value.ownBlock] at hq; omega)) (fun q hq => by simp [Value.ownBlock] at hq; omega)) (fun q hq => by simp [Value.ownBlock] at hq; omega)) (fun q hq => by simp [Value.ownBlock] at hq; omega))
          · exact (own5 (own5 (own5 (own5 O3 (fun q hq => by simp [Value.ownBlock] at hq; omega)) (fun q hq => by simp [Value.ownBlock] at hq; omega)) (fun q hq => by simp [Value.ownBlock] at hq; omega)) (fun q hq => by simp [Value.ownBlock] at hq; omega))
          · exact sc5 (by omega) (sc5 (by omega) (sc5 (by omega) (sc5 (by omega) cS7)))
          · exact (((B7.setCell (Nat.le_refl _) _).setCell (by show w.heap.size ≤ w.heap.size + 1 + 1; omega) _).setCell (by show w.heap.size ≤ w.heap.size + 1 + 1; omega) _).setCell (by show w.heap.size ≤ w.heap.size + 1 + 1; omega) _
    case s13x5 =>
      go_simp
      refine hK.out _ _ (kka _) (fun hH13 => ?_)
      clear hK KK
      try simp only [Act.put, List.setIfInBounds_toArray, List.set_cons_zero, List.set_cons_succ]
      refine wpAnyH_ready (rs := [0]) (by kernel_rfl) (by simp) ?_
      refine (AllReadyH.cons (o := ⟨_, _, _, _, _, _⟩) rfl (fun KK hK => ?s19x0) AllReadyH.nil)
      case s19x0 =>
        go_simp
        refine hK.out _ _ (kkb _ _) (fun hH19 => ?_)
        clear hK KK
        try simp only [Act.put, List.setIfInBounds_toArray, List.set_cons_zero, List.set_cons_succ]
        refine wpAnyH_take (i := 3) (oi := ⟨_, _, _, _, _, _⟩) (v := ?vn203) rfl (by kernel_rfl) (by kernel_rfl) (by kernel_rfl) (fun _ _ _ h => h) (Or.inl ⟨by rfl, ?yn203⟩) (by assumption) ?rn203
        case yn203 => intro w hSw; (try dsimp only at hSw); go_simp; try with_reducible rfl
        try simp only [Act.put, List.setIfInBounds_toArray, List.set_cons_zero, List.set_cons_succ]
        refine wpAnyH_ready (rs := [6]) (by kernel_rfl) (by simp) ?_
        refine AllReadyH.cons (o := ⟨_, _, _, _, _, _⟩) rfl (fun KK hK => ?_) AllReadyH.nil
        refine wp_append_lies _ _ _ 23 rfl w.heap.size 48 i1 _ 5 56 Try.underlying23 hi1 hd0 hd1 hd2 rfl (by decide) (.slice (some ⟨u.heap.size + 1, 0, none⟩) 0 0) 0 [] rfl (owns_empty ?e0 (by omega)) ⟨u.heap.size, 0, none⟩ 1 1 [.int .i64 0, .int .i64 ep, .int .i64 id, .int .i64 0, .slice (some ⟨g2, 0, none⟩) 1 c2] rfl rfl ?e1 ?e2 (by omega) ?e3 ?e4 ?e5 (u.heap.size + 1 + 1) ?e6 ?_
        case e0 => (have h := heap_alloc_new (u.alloc (.cells #[.int .i64 0, .int .i64 ep, .int .i64 id, .int .i64 0, .slice (some ⟨g2, 0, none⟩) 1 c2] 48)) (.cells #[] 48); simp only [World.size_alloc] at h; exact h)
        case e1 => exact World.news_of_block (cs := #[.int .i64 0, .int .i64 ep, .int .i64 id, .int .i64 0, .slice (some ⟨g2, 0, none⟩) 1 c2]) (t := 48) (fr := (0, 0)) (by exact ((al5 (u.alloc _) _).block u.heap.size (by simp)).trans (heap_alloc_new u _))
        case e2 => simp [Value.oneCell']
        case e3 => unfold maxLen; omega
        case e4 => omega
        case e5 => simp; omega
        case e6 => simp
        intro gl cl w5 hownL hgrow hat _
        have HU5 : Below u.heap.size u w5 := (((Below.refl u.heap.size u).alloc (Nat.le_refl _) _).alloc (by simp) _).drew.grown hgrow (by simp; omega) (fun k hk => by simp [Value.ownBlock] at hk; omega)
        have hgl : u.heap.size ≤ gl := by simp [Value.ownBlock] at hat; omega
        have kk5 : w5.cell? ⟨bb, 0, none⟩ = some (.int .i64 0) ∧ w5.cell? ⟨bb, 1, none⟩ = some (.int .i64 ep) ∧ w5.cell? ⟨bb, 2, none⟩ = some (.int .i64 id) ∧ w5.cell? ⟨bb, 3, none⟩ = some (.int .i64 0) ∧ w5.cell? ⟨bb, 4, none⟩ = some (.slice (some ⟨g2, 0, none⟩) 1 c2) := ⟨cel5 HU5 kk.1, cel5 HU5 kk.2.1, cel5 HU5 kk.2.2.1, cel5 HU5 kk.2.2.2.1, cel5 HU5 kk.2.2.2.2⟩
        have z1 : w5.cell? ⟨w.heap.size, 1, none⟩ = some (.slice none 0 0) := cel5 HU5 y1
        have fz : ∀ o, w5.frozen? ⟨w.heap.size, o, none⟩ = false := fun o => fz5 HU5 (by omega) (fy o)
        have kk6 : ∀ x, (w5.setCell ⟨w.heap.size, 1, none⟩ x).cell? ⟨bb, 0, none⟩ = some (.int .i64 0) ∧ (w5.setCell ⟨w.heap.size, 1, none⟩ x).cell? ⟨bb, 1, none⟩ = some (.int .i64 ep) ∧ (w5.setCell ⟨w.heap.size, 1, none⟩ x).cell? ⟨bb, 2, none⟩ = some (.int .i64 id) ∧ (w5.setCell ⟨w.heap.size, 1, none⟩ x).cell? ⟨bb, 3, none⟩ = some (.int .i64 0) ∧ (w5.setCell ⟨w.heap.size, 1, none⟩ x).cell? ⟨bb, 4, none⟩ = some (.slice (some ⟨g2, 0, none⟩) 1 c2) := fun x => ⟨sc5 (by omega) kk5.1, sc5 (by omega) kk5.2.1, sc5 (by omega) kk5.2.2.1, sc5 (by omega) kk5.2.2.2.1, sc5 (by omega) kk5.2.2.2.2⟩
        refine hK.out _ _ kk5 (fun hH13 => ?_)
        clear hK KK
        try simp only [Act.put, List.setIfInBounds_toArray, List.set_cons_zero, List.set_cons_succ]
        refine wpAnyH_take (i := 7) (oi := ⟨_, _, _, _, _, _⟩) (v := ?vf207) rfl (by kernel_rfl) (by kernel_rfl) (by kernel_rfl) (fun _ _ _ h => h) (Or.inl ⟨by rfl, ?yf207⟩) (by assumption) ?rf207
        case yf207 => intro w hSw; (try dsimp only at hSw); go_simp; try with_reducible rfl
        try simp only [Act.put, List.setIfInBounds_toArray, List.set_cons_zero, List.set_cons_succ]
        refine wpAnyH_ready (rs := [8]) (by kernel_rfl) (by simp) ?_
        refine AllReadyH.cons (o := ⟨_, _, _, _, _, _⟩) rfl (fun KK hK => ?_) AllReadyH.nil
        go_simp
        refine hK.out _ _ (kk6 _) (fun hH15 => ?_)
        clear hK KK
        try simp only [Act.put, List.setIfInBounds_toArray, List.set_cons_zero, List.set_cons_succ]
        refine wpAnyH_done (by kernel_rfl) (NoPanic.normal ?_) _
        have z0 : w5.cell? ⟨w.heap.size, 0, none⟩ = some (.slice none 0 0) := cel5 HU5 y0
        have z2 : w5.cell? ⟨w.heap.size, 2, none⟩ = some (.int .i64 0) := cel5 HU5 y2
        have t0 : w5.cell? ⟨w.heap.size + 1 + 1, 0, none⟩ = some (.slice none 0 0) := cel5 HU5 s0
        have t1 : w5.cell? ⟨w.heap.size + 1 + 1, 1, none⟩ = some (.slice none 0 0) := cel5 HU5 s1
        have t2 : w5.cell? ⟨w.heap.size + 1 + 1, 2, none⟩ = some (.int .i64 0) := cel5 HU5 s2
        have ft : ∀ o, w5.frozen? ⟨w.heap.size + 1 + 1, o, none⟩ = false := fun o => fz5 HU5 (by omega) (fs o)
        have cS5 : w5.cell? ⟨g2, 0, none⟩ = some (.string ⟨#[]⟩) := cel5 HU5 cSu
        have B5 : Below w.heap.size w (w5.setCell ⟨w.heap.size, 1, none⟩ (.slice (some ⟨gl, 0, none⟩) 1 cl)) := (st5 BB HU5).setCell (Nat.le_refl _) _
        have l5 := HU5.size
        obtain ⟨u2, hu2⟩ : ∃ x, w5.setCell ⟨w.heap.size, 1, none⟩ (.slice (some ⟨gl, 0, none⟩) 1 cl) = x := ⟨_, rfl⟩
        have kx : u2.cell? ⟨bb, 0, none⟩ = some (.int .i64 0) ∧ u2.cell? ⟨bb, 1, none⟩ = some (.int .i64 ep) ∧ u2.cell? ⟨bb, 2, none⟩ = some (.int .i64 id) ∧ u2.cell? ⟨bb, 3, none⟩ = some (.int .i64 0) ∧ u2.cell? ⟨bb, 4, none⟩ = some (.slice (some ⟨g2, 0, none⟩) 1 c2) := by rw [← hu2]; exact kk6 _
        have n0 : u2.cell? ⟨w.heap.size, 0, none⟩ = some (.slice none 0 0) := by rw [← hu2]; simp [go_sem, z0]
        have n1 : u2.cell? ⟨w.heap.size, 1, none⟩ = some (.slice (some ⟨gl, 0, none⟩) 1 cl) := by rw [← hu2]; simp [go_sem, z1]
        have n2 : u2.cell? ⟨w.heap.size, 2, none⟩ = some (.int .i64 0) := by rw [← hu2]; simp [go_sem, z2]
        have m0 : u2.cell? ⟨w.heap.size + 1 + 1, 0, none⟩ = some (.slice none 0 0) := by rw [← hu2]; exact sc5 (by omega) t0
        have m1 : u2.cell? ⟨w.heap.size + 1 + 1, 1, none⟩ = some (.slice none 0 0) := by rw [← hu2]; exact sc5 (by omega) t1
        have m2 : u2.cell? ⟨w.heap.size + 1 + 1, 2, none⟩ = some (.int .i64 0) := by rw [← hu2]; exact sc5 (by omega) t2
        have fn : ∀ o, u2.frozen? ⟨w.heap.size, o, none⟩ = false := fun o => by rw [← hu2]; simp [go_sem, fz]
        have fm : ∀ o, u2.frozen? ⟨w.heap.size + 1 + 1, o, none⟩ = false := fun o => by rw [← hu2]; simp [go_sem, ft]
        have oL : u2.ownsRow w.heap.size 48 5 (.slice (some ⟨gl, 0, none⟩) 1 cl) 1 [.int .i64 0, .int .i64 ep, .int .i64 id, .int .i64 0, .slice (some ⟨g2, 0, none⟩) 1 c2] := by rw [← hu2]; exact own5 hownL (fun q hq => by simp [Value.ownBlock] at hq; omega)
        have cS6 : u2.cell? ⟨g2, 0, none⟩ = some (.string ⟨#[]⟩) := by rw [← hu2]; exact sc5 (by omega) cS5
        have l6 : u.heap.size ≤ u2.heap.size := by rw [← hu2]; simp; omega
        have hglu := (oL.lt gl rfl).2
        rw [hu2] at B5 ⊢
        clear hu2 kk kka kkb kk5 kk6 y0 y1 y2 y1a y1b s0 s1 s2 fy fs z0 z1 z2 t0 t1 t2 fz ft HU5 hownL hgrow hat cS5 cSu BB
        go_wp2_with fail
        refine wp_region_noPanic ?_
        refine wp_region_held_drew (S := fun w' => w'.cell? ⟨bb, 0, none⟩ = some (.int .i64 0) ∧ w'.cell? ⟨bb, 1, none⟩ = some (.int .i64 ep) ∧ w'.cell? ⟨bb, 2, none⟩ = some (.int .i64 id) ∧ w'.cell? ⟨bb, 3, none⟩ = some (.int .i64 0) ∧ w'.cell? ⟨bb, 4, none⟩ = some (.slice (some ⟨g2, 0, none⟩) 1 c2)) (by kernel_rfl) kx (fun hH => ?_)
        refine wpAnyH_take (i := 1) (oi := ⟨_, _, _, _, _, _⟩) (v := ?vgf20t1) rfl (by kernel_rfl) (by kernel_rfl) (by kernel_rfl) (fun _ _ _ h => h) (Or.inl ⟨by rfl, ?ygf20t1⟩) (by assumption) ?rgf20t1
        case ygf20t1 => intro w hSw; (try dsimp only at hSw); go_simp; try with_reducible rfl
        try simp only [Act.put, List.setIfInBounds_toArray, List.set_cons_zero, List.set_cons_succ]
        refine wpAnyH_take (i := 4) (oi := ⟨_, _, _, _, _, _⟩) (v := ?vgf20t4) rfl (by kernel_rfl) (by kernel_rfl) (by kernel_rfl) (fun _ _ _ h => h) (Or.inl ⟨by rfl, ?ygf20t4⟩) (by assumption) ?rgf20t4
        case ygf20t4 => intro w hSw; (try dsimp only at hSw); go_simp; try with_reducible rfl
        try simp only [Act.put, List.setIfInBounds_toArray, List.set_cons_zero, List.set_cons_succ]
        have kxa : ∀ o, (u2.alloc o).cell? ⟨bb, 0, none⟩ = some (.int .i64 0) ∧ (u2.alloc o).cell? ⟨bb, 1, none⟩ = some (.int .i64 ep) ∧ (u2.alloc o).cell? ⟨bb, 2, none⟩ = some (.int .i64 id) ∧ (u2.alloc o).cell? ⟨bb, 3, none⟩ = some (.int .i64 0) ∧ (u2.alloc o).cell? ⟨bb, 4, none⟩ = some (.slice (some ⟨g2, 0, none⟩) 1 c2) := fun o => ⟨cel5 (al5 u2 o) kx.1, cel5 (al5 u2 o) kx.2.1, cel5 (al5 u2 o) kx.2.2.1, cel5 (al5 u2 o) kx.2.2.2.1, cel5 (al5 u2 o) kx.2.2.2.2⟩
        have n0a : ∀ o, (u2.alloc o).cell? ⟨w.heap.size, 0, none⟩ = some (.slice none 0 0) := fun o => cel5 (al5 _ o) n0
        refine wpAnyH_ready (rs := [0, 2]) (by kernel_rfl) (by simp) ?_
        refine (AllReadyH.cons (o := ⟨_, _, _, _, _, _⟩) rfl (fun KK hK => ?gf20a) (AllReadyH.cons (o := ⟨_, _, _, _, _, _⟩) rfl (fun KK hK => ?gf20b) AllReadyH.nil))
        case gf20a =>
          go_simp
          refine hK.out _ _ (kxa _) (fun hHa => ?_)
          clear hK KK
          try simp only [Act.put, List.setIfInBounds_toArray, List.set_cons_zero, List.set_cons_succ]
          refine wpAnyH_ready (rs := [2]) (by kernel_rfl) (by simp) ?_
          refine AllReadyH.cons (o := ⟨_, _, _, _, _, _⟩) rfl (fun KK hK => ?_) AllReadyH.nil
          go_simp
          refine hK.out _ _ (kxa _) (fun hHb => ?_)
          clear hK KK
          try simp only [Act.put, List.setIfInBounds_toArray, List.set_cons_zero, List.set_cons_succ]
          refine wpAnyH_take (i := 3) (oi := ⟨_, _, _, _, _, _⟩) (v := ?vgf20n223) rfl (by kernel_rfl) (by kernel_rfl) (by kernel_rfl) (fun _ _ _ h => h) (Or.inl ⟨by rfl, ?ygf20n223⟩) (by assumption) ?rgf20n223
          case ygf20n223 => intro w hSw; (try dsimp only at hSw); go_simp; try with_reducible rfl
          try simp only [Act.put, List.setIfInBounds_toArray, List.set_cons_zero, List.set_cons_succ]
          refine wpAnyH_ready (rs := [5]) (by kernel_rfl) (by simp) ?_
          refine AllReadyH.cons (o := ⟨_, _, _, _, _, _⟩) rfl (fun KK hK => ?_) AllReadyH.nil
          go_simp
          go_at_call 65
          refine (l5Add_nil id ep 0 u2.heap.size g2 c2 _).mono ?_
          rintro r w6 ⟨gp, cp, gw, cw, rfl, o1, o2, hlt6, hB6⟩
          have HU6 : Below u2.heap.size u2 w6 := ((Below.refl u2.heap.size u2).alloc (Nat.le_refl _) _).drew.trans (hB6.mono (by simp))
          have l7 := HU6.size
          have kx6 : w6.cell? ⟨bb, 0, none⟩ = some (.int .i64 0) ∧ w6.cell? ⟨bb, 1, none⟩ = some (.int .i64 ep) ∧ w6.cell? ⟨bb, 2, none⟩ = some (.int .i64 id) ∧ w6.cell? ⟨bb, 3, none⟩ = some (.int .i64 0) ∧ w6.cell? ⟨bb, 4, none⟩ = some (.slice (some ⟨g2, 0, none⟩) 1 c2) := ⟨cel5 HU6 kx.1, cel5 HU6 kx.2.1, cel5 HU6 kx.2.2.1, cel5 HU6 kx.2.2.2.1, cel5 HU6 kx.2.2.2.2⟩
          have x0 : w6.cell? ⟨w.heap.size, 0, none⟩ = some (.slice none 0 0) := cel5 HU6 n0
          have x1 : w6.cell? ⟨w.heap.size, 1, none⟩ = some (.slice (some ⟨gl, 0, none⟩) 1 cl) := cel5 HU6 n1
          have x2 : w6.cell? ⟨w.heap.size, 2, none⟩ = some (.int .i64 0) := cel5 HU6 n2
          have q0 : w6.cell? ⟨w.heap.size + 1 + 1, 0, none⟩ = some (.slice none 0 0) := cel5 HU6 m0
          have q1 : w6.cell? ⟨w.heap.size + 1 + 1, 1, none⟩ = some (.slice none 0 0) := cel5 HU6 m1
          have q2 : w6.cell? ⟨w.heap.size + 1 + 1, 2, none⟩ = some (.int .i64 0) := cel5 HU6 m2
          have fx : ∀ o, w6.frozen? ⟨w.heap.size, o, none⟩ = false := fun o => fz5 HU6 (by omega) (fn o)
          have fq : ∀ o, w6.frozen? ⟨w.heap.size + 1 + 1, o, none⟩ = false := fun o => fz5 HU6 (by omega) (fm o)
          have kx7 : ∀ x, (w6.setCell ⟨w.heap.size, 0, none⟩ x).cell? ⟨bb, 0, none⟩ = some (.int .i64 0) ∧ (w6.setCell ⟨w.heap.size, 0, none⟩ x).cell? ⟨bb, 1, none⟩ = some (.int .i64 ep) ∧ (w6.setCell ⟨w.heap.size, 0, none⟩ x).cell? ⟨bb, 2, none⟩ = some (.int .i64 id) ∧ (w6.setCell ⟨w.heap.size, 0, none⟩ x).cell? ⟨bb, 3, none⟩ = some (.int .i64 0) ∧ (w6.setCell ⟨w.heap.size, 0, none⟩ x).cell? ⟨bb, 4, none⟩ = some (.slice (some ⟨g2, 0, none⟩) 1 c2) := fun x => ⟨sc5 (by omega) kx6.1, sc5 (by omega) kx6.2.1, sc5 (by omega) kx6.2.2.1, sc5 (by omega) kx6.2.2.2.1, sc5 (by omega) kx6.2.2.2.2⟩
          refine hK.out _ _ kx6 (fun hH16 => ?_)
          clear hK KK
          try simp only [Act.put, List.setIfInBounds_toArray, List.set_cons_zero, List.set_cons_succ]
          refine wpAnyH_take (i := 6) (oi := ⟨_, _, _, _, _, _⟩) (v := ?vgf20f226) rfl (by kernel_rfl) (by kernel_rfl) (by kernel_rfl) (fun _ _ _ h => h) (Or.inl ⟨by rfl, ?ygf20f226⟩) (by assumption) ?rgf20f226
          case ygf20f226 => intro w hSw; (try dsimp only at hSw); go_simp; try with_reducible rfl
          try simp only [Act.put, List.setIfInBounds_toArray, List.set_cons_zero, List.set_cons_succ]
          refine wpAnyH_ready (rs := [7]) (by kernel_rfl) (by simp) ?_
          refine AllReadyH.cons (o := ⟨_, _, _, _, _, _⟩) rfl (fun KK hK => ?_) AllReadyH.nil
          go_simp
          refine hK.out _ _ (kx7 _) (fun hH17 => ?_)
          clear hK KK
          try simp only [Act.put, List.setIfInBounds_toArray, List.set_cons_zero, List.set_cons_succ]
          refine wpAnyH_done (by kernel_rfl) (NoPanic.normal ?_) _
          obtain ⟨u3, hu3⟩ : ∃ x, w6.setCell ⟨w.heap.size, 0, none⟩ (.slice (some ⟨gp, 0, none⟩) 1 cp) = x := ⟨_, rfl⟩
          have b4 : u3.cell? ⟨bb, 4, none⟩ = some (.slice (some ⟨g2, 0, none⟩) 1 c2) := by rw [← hu3]; exact (kx7 _).2.2.2.2
          have d0 : u3.cell? ⟨w.heap.size, 0, none⟩ = some (.slice (some ⟨gp, 0, none⟩) 1 cp) := by rw [← hu3]; simp [go_sem, x0]
          have d1 : u3.cell? ⟨w.heap.size, 1, none⟩ = some (.slice (some ⟨gl, 0, none⟩) 1 cl) := by rw [← hu3]; simp [go_sem, x1]
          have d2 : u3.cell? ⟨w.heap.size, 2, none⟩ = some (.int .i64 0) := by rw [← hu3]; simp [go_sem, x2]
          have q0' : u3.cell? ⟨w.heap.size + 1 + 1, 0, none⟩ = some (.slice none 0 0) := by rw [← hu3]; exact sc5 (by omega) q0
          have q1' : u3.cell? ⟨w.heap.size + 1 + 1, 1, none⟩ = some (.slice none 0 0) := by rw [← hu3]; exact sc5 (by omega) q1
          have q2' : u3.cell? ⟨w.heap.size + 1 + 1, 2, none⟩ = some (.int .i64 0) := by rw [← hu3]; exact sc5 (by omega) q2
          have fd : ∀ o, u3.frozen? ⟨w.heap.size, o, none⟩ = false := fun o => by rw [← hu3]; simp [go_sem, fx]
          have fe : ∀ o, u3.frozen? ⟨w.heap.size + 1 + 1, o, none⟩ = false := fun o => by rw [← hu3]; simp [go_sem, fq]
          have O1 : u3.ownsRow w.heap.size 84 4 (.slice (some ⟨gp, 0, none⟩) 1 cp) 1 [.int .i64 id, .int .i64 ep, .int .i64 1, .slice (some ⟨gw, 0, none⟩) 1 cw] := by rw [← hu3]; exact own5 (owns_mono o1 (by simp; omega)) (fun q hq => by have := o1.lt q hq; simp at this; omega)
          have O2 : u3.ownsRow w.heap.size 103 3 (.slice (some ⟨gw, 0, none⟩) 1 cw) 1 [.int .i64 0, .int .i64 1, .int .i64 0] := by rw [← hu3]; exact own5 (owns_mono o2 (by simp; omega)) (fun q hq => by have := o2.lt q hq; simp at this; omega)
          have O3 : u3.ownsRow w.heap.size 48 5 (.slice (some ⟨gl, 0, none⟩) 1 cl) 1 [.int .i64 0, .int .i64 ep, .int .i64 id, .int .i64 0, .slice (some ⟨g2, 0, none⟩) 1 c2] := by rw [← hu3]; exact own5 (owns_below oL HU6) (fun q hq => by simp [Value.ownBlock] at hq; omega)
          have cS7 : u3.cell? ⟨g2, 0, none⟩ = some (.string ⟨#[]⟩) := by rw [← hu3]; exact sc5 (by omega) (cel5 HU6 cS6)
          have hgp := (o1.lt gp rfl).1
          have hgw := (o2.lt gw rfl).1
          simp at hgp hgw
          have B7 : Below w.heap.size w u3 := by rw [← hu3]; exact (st5 B5 HU6).setCell (Nat.le_refl _) _
          rw [hu3]
          clear hu3 kx kxa kx6 kx7 n0 n1 n2 n0a m0 m1 m2 fn fm x0 x1 x2 q0 q1 q2 fx fq HU6 hB6 o1 o2 oL B5 cS6
          have d0a : ∀ x, (u3.setCell ⟨w.heap.size, 2, none⟩ x).cell? ⟨w.heap.size, 0, none⟩ = some (.slice (some ⟨gp, 0, none⟩) 1 cp) := fun x => by simp [go_sem, d0]
          have d1a : ∀ x, (u3.setCell ⟨w.heap.size, 2, none⟩ x).cell? ⟨w.heap.size, 1, none⟩ = some (.slice (some ⟨gl, 0, none⟩) 1 cl) := fun x => by simp [go_sem, d1]
          have d2a : ∀ x, (u3.setCell ⟨w.heap.size, 2, none⟩ x).cell? ⟨w.heap.size, 2, none⟩ = some x := fun x => by simp [go_sem, d2]
          have q0a : ∀ x, (u3.setCell ⟨w.heap.size, 2, none⟩ x).cell? ⟨w.heap.size + 1 + 1, 0, none⟩ = some (.slice none 0 0) := fun x => sc5 (by omega) q0'
          have q1a : ∀ x, (u3.setCell ⟨w.heap.size, 2, none⟩ x).cell? ⟨w.heap.size + 1 + 1, 1, none⟩ = some (.slice none 0 0) := fun x => sc5 (by omega) q1'
          have q2a : ∀ x, (u3.setCell ⟨w.heap.size, 2, none⟩ x).cell? ⟨w.heap.size + 1 + 1, 2, none⟩ = some (.int .i64 0) := fun x => sc5 (by omega) q2'
          have fea : ∀ x o, (u3.setCell ⟨w.heap.size, 2, none⟩ x).frozen? ⟨w.heap.size + 1 + 1, o, none⟩ = false := fun x o => by simp [go_sem, fe]
          go_wp2_with fail
          refine bodyPost_ret (v := .tuple #[.agg #[(.slice (some ⟨gp, 0, none⟩) 1 cp), .slice (some ⟨gl, 0, none⟩) 1 cl, .int .i64 1], .int .i64 0, .int .i64 0]) (by simp [results, Try.results48, go_sem, q0', q1', q2']) rfl ⟨gp, cp, gl, cl, rfl, ⟨gw, cw, g2, c2, ?_, ?_, ?_, ?_, by omega⟩, ?_⟩
          · exact (own5 (own5 (own5 (own5 O1 (fun q hq => by simp [Value.ownBlock] at hq; omega)) (fun q hq => by simp [Value.ownBlock] at hq; omega)) (fun q hq => by simp [Value.ownBlock] at hq; omega)) (fun q hq => by simp [Value.ownBlock] at hq; omega))
          · exact (own5 (own5 (own5 (own5 O2 (fun q hq => by simp [Value.ownBlock] at hq; omega)) (fun q hq => by simp [Value.ownBlock] at hq; omega)) (fun q hq => by simp [Value.ownBlock] at hq; omega)) (fun q hq => by simp [Value.ownBlock] at hq; omega))
          · exact (own5 (own5 (own5 (own5 O3 (fun q hq => by simp [Value.ownBlock] at hq; omega)) (fun q hq => by simp [Value.ownBlock] at hq; omega)) (fun q hq => by simp [Value.ownBlock] at hq; omega)) (fun q hq => by simp [Value.ownBlock] at hq; omega))
          · exact sc5 (by omega) (sc5 (by omega) (sc5 (by omega) (sc5 (by omega) cS7)))
          · exact (((B7.setCell (Nat.le_refl _) _).setCell (by show w.heap.size ≤ w.heap.size + 1 + 1; omega) _).setCell (by show w.heap.size ≤ w.heap.size + 1 + 1; omega) _).setCell (by show w.heap.size ≤ w.heap.size + 1 + 1; omega) _
        case gf20b =>
          go_simp
          refine hK.out _ _ kx (fun hHa => ?_)
          clear hK KK
          try simp only [Act.put, List.setIfInBounds_toArray, List.set_cons_zero, List.set_cons_succ]
          refine wpAnyH_ready (rs := [0]) (by kernel_rfl) (by simp) ?_
          refine AllReadyH.cons (o := ⟨_, _, _, _, _, _⟩) rfl (fun KK hK => ?_) AllReadyH.nil
          go_simp
          refine hK.out _ _ (kxa _) (fun hHb => ?_)
          clear hK KK
          try simp only [Act.put, List.setIfInBounds_toArray, List.set_cons_zero, List.set_cons_succ]
          refine wpAnyH_take (i := 3) (oi := ⟨_, _, _, _, _, _⟩) (v := ?vgf20n233) rfl (by kernel_rfl) (by kernel_rfl) (by kernel_rfl) (fun _ _ _ h => h) (Or.inl ⟨by rfl, ?ygf20n233⟩) (by assumption) ?rgf20n233
          case ygf20n233 => intro w hSw; (try dsimp only at hSw); go_simp; try with_reducible rfl
          try simp only [Act.put, List.setIfInBounds_toArray, List.set_cons_zero, List.set_cons_succ]
          refine wpAnyH_ready (rs := [5]) (by kernel_rfl) (by simp) ?_
          refine AllReadyH.cons (o := ⟨_, _, _, _, _, _⟩) rfl (fun KK hK => ?_) AllReadyH.nil
          go_simp
          go_at_call 65
          refine (l5Add_nil id ep 0 u2.heap.size g2 c2 _).mono ?_
          rintro r w6 ⟨gp, cp, gw, cw, rfl, o1, o2, hlt6, hB6⟩
          have HU6 : Below u2.heap.size u2 w6 := ((Below.refl u2.heap.size u2).alloc (Nat.le_refl _) _).drew.trans (hB6.mono (by simp))
          have l7 := HU6.size
          have kx6 : w6.cell? ⟨bb, 0, none⟩ = some (.int .i64 0) ∧ w6.cell? ⟨bb, 1, none⟩ = some (.int .i64 ep) ∧ w6.cell? ⟨bb, 2, none⟩ = some (.int .i64 id) ∧ w6.cell? ⟨bb, 3, none⟩ = some (.int .i64 0) ∧ w6.cell? ⟨bb, 4, none⟩ = some (.slice (some ⟨g2, 0, none⟩) 1 c2) := ⟨cel5 HU6 kx.1, cel5 HU6 kx.2.1, cel5 HU6 kx.2.2.1, cel5 HU6 kx.2.2.2.1, cel5 HU6 kx.2.2.2.2⟩
          have x0 : w6.cell? ⟨w.heap.size, 0, none⟩ = some (.slice none 0 0) := cel5 HU6 n0
          have x1 : w6.cell? ⟨w.heap.size, 1, none⟩ = some (.slice (some ⟨gl, 0, none⟩) 1 cl) := cel5 HU6 n1
          have x2 : w6.cell? ⟨w.heap.size, 2, none⟩ = some (.int .i64 0) := cel5 HU6 n2
          have q0 : w6.cell? ⟨w.heap.size + 1 + 1, 0, none⟩ = some (.slice none 0 0) := cel5 HU6 m0
          have q1 : w6.cell? ⟨w.heap.size + 1 + 1, 1, none⟩ = some (.slice none 0 0) := cel5 HU6 m1
          have q2 : w6.cell? ⟨w.heap.size + 1 + 1, 2, none⟩ = some (.int .i64 0) := cel5 HU6 m2
          have fx : ∀ o, w6.frozen? ⟨w.heap.size, o, none⟩ = false := fun o => fz5 HU6 (by omega) (fn o)
          have fq : ∀ o, w6.frozen? ⟨w.heap.size + 1 + 1, o, none⟩ = false := fun o => fz5 HU6 (by omega) (fm o)
          have kx7 : ∀ x, (w6.setCell ⟨w.heap.size, 0, none⟩ x).cell? ⟨bb, 0, none⟩ = some (.int .i64 0) ∧ (w6.setCell ⟨w.heap.size, 0, none⟩ x).cell? ⟨bb, 1, none⟩ = some (.int .i64 ep) ∧ (w6.setCell ⟨w.heap.size, 0, none⟩ x).cell? ⟨bb, 2, none⟩ = some (.int .i64 id) ∧ (w6.setCell ⟨w.heap.size, 0, none⟩ x).cell? ⟨bb, 3, none⟩ = some (.int .i64 0) ∧ (w6.setCell ⟨w.heap.size, 0, none⟩ x).cell? ⟨bb, 4, none⟩ = some (.slice (some ⟨g2, 0, none⟩) 1 c2) := fun x => ⟨sc5 (by omega) kx6.1, sc5 (by omega) kx6.2.1, sc5 (by omega) kx6.2.2.1, sc5 (by omega) kx6.2.2.2.1, sc5 (by omega) kx6.2.2.2.2⟩
          refine hK.out _ _ kx6 (fun hH16 => ?_)
          clear hK KK
          try simp only [Act.put, List.setIfInBounds_toArray, List.set_cons_zero, List.set_cons_succ]
          refine wpAnyH_take (i := 6) (oi := ⟨_, _, _, _, _, _⟩) (v := ?vgf20f236) rfl (by kernel_rfl) (by kernel_rfl) (by kernel_rfl) (fun _ _ _ h => h) (Or.inl ⟨by rfl, ?ygf20f236⟩) (by assumption) ?rgf20f236
          case ygf20f236 => intro w hSw; (try dsimp only at hSw); go_simp; try with_reducible rfl
          try simp only [Act.put, List.setIfInBounds_toArray, List.set_cons_zero, List.set_cons_succ]
          refine wpAnyH_ready (rs := [7]) (by kernel_rfl) (by simp) ?_
          refine AllReadyH.cons (o := ⟨_, _, _, _, _, _⟩) rfl (fun KK hK => ?_) AllReadyH.nil
          go_simp
          refine hK.out _ _ (kx7 _) (fun hH17 => ?_)
          clear hK KK
          try simp only [Act.put, List.setIfInBounds_toArray, List.set_cons_zero, List.set_cons_succ]
          refine wpAnyH_done (by kernel_rfl) (NoPanic.normal ?_) _
          obtain ⟨u3, hu3⟩ : ∃ x, w6.setCell ⟨w.heap.size, 0, none⟩ (.slice (some ⟨gp, 0, none⟩) 1 cp) = x := ⟨_, rfl⟩
          have b4 : u3.cell? ⟨bb, 4, none⟩ = some (.slice (some ⟨g2, 0, none⟩) 1 c2) := by rw [← hu3]; exact (kx7 _).2.2.2.2
          have d0 : u3.cell? ⟨w.heap.size, 0, none⟩ = some (.slice (some ⟨gp, 0, none⟩) 1 cp) := by rw [← hu3]; simp [go_sem, x0]
          have d1 : u3.cell? ⟨w.heap.size, 1, none⟩ = some (.slice (some ⟨gl, 0, none⟩) 1 cl) := by rw [← hu3]; simp [go_sem, x1]
          have d2 : u3.cell? ⟨w.heap.size, 2, none⟩ = some (.int .i64 0) := by rw [← hu3]; simp [go_sem, x2]
          have q0' : u3.cell? ⟨w.heap.size + 1 + 1, 0, none⟩ = some (.slice none 0 0) := by rw [← hu3]; exact sc5 (by omega) q0
          have q1' : u3.cell? ⟨w.heap.size + 1 + 1, 1, none⟩ = some (.slice none 0 0) := by rw [← hu3]; exact sc5 (by omega) q1
          have q2' : u3.cell? ⟨w.heap.size + 1 + 1, 2, none⟩ = some (.int .i64 0) := by rw [← hu3]; exact sc5 (by omega) q2
          have fd : ∀ o, u3.frozen? ⟨w.heap.size, o, none⟩ = false := fun o => by rw [← hu3]; simp [go_sem, fx]
          have fe : ∀ o, u3.frozen? ⟨w.heap.size + 1 + 1, o, none⟩ = false := fun o => by rw [← hu3]; simp [go_sem, fq]
          have O1 : u3.ownsRow w.heap.size 84 4 (.slice (some ⟨gp, 0, none⟩) 1 cp) 1 [.int .i64 id, .int .i64 ep, .int .i64 1, .slice (some ⟨gw, 0, none⟩) 1 cw] := by rw [← hu3]; exact own5 (owns_mono o1 (by simp; omega)) (fun q hq => by have := o1.lt q hq; simp at this; omega)
          have O2 : u3.ownsRow w.heap.size 103 3 (.slice (some ⟨gw, 0, none⟩) 1 cw) 1 [.int .i64 0, .int .i64 1, .int .i64 0] := by rw [← hu3]; exact own5 (owns_mono o2 (by simp; omega)) (fun q hq => by have := o2.lt q hq; simp at this; omega)
          have O3 : u3.ownsRow w.heap.size 48 5 (.slice (some ⟨gl, 0, none⟩) 1 cl) 1 [.int .i64 0, .int .i64 ep, .int .i64 id, .int .i64 0, .slice (some ⟨g2, 0, none⟩) 1 c2] := by rw [← hu3]; exact own5 (owns_below oL HU6) (fun q hq => by simp [Value.ownBlock] at hq; omega)
          have cS7 : u3.cell? ⟨g2, 0, none⟩ = some (.string ⟨#[]⟩) := by rw [← hu3]; exact sc5 (by omega) (cel5 HU6 cS6)
          have hgp := (o1.lt gp rfl).1
          have hgw := (o2.lt gw rfl).1
          simp at hgp hgw
          have B7 : Below w.heap.size w u3 := by rw [← hu3]; exact (st5 B5 HU6).setCell (Nat.le_refl _) _
          rw [hu3]
          clear hu3 kx kxa kx6 kx7 n0 n1 n2 n0a m0 m1 m2 fn fm x0 x1 x2 q0 q1 q2 fx fq HU6 hB6 o1 o2 oL B5 cS6
          have d0a : ∀ x, (u3.setCell ⟨w.heap.size, 2, none⟩ x).cell? ⟨w.heap.size, 0, none⟩ = some (.slice (some ⟨gp, 0, none⟩) 1 cp) := fun x => by simp [go_sem, d0]
          have d1a : ∀ x, (u3.setCell ⟨w.heap.size, 2, none⟩ x).cell? ⟨w.heap.size, 1, none⟩ = some (.slice (some ⟨gl, 0, none⟩) 1 cl) := fun x => by simp [go_sem, d1]
          have d2a : ∀ x, (u3.setCell ⟨w.heap.size, 2, none⟩ x).cell? ⟨w.heap.size, 2, none⟩ = some x := fun x => by simp [go_sem, d2]
          have q0a : ∀ x, (u3.setCell ⟨w.heap.size, 2, none⟩ x).cell? ⟨w.heap.size + 1 + 1, 0, none⟩ = some (.slice none 0 0) := fun x => sc5 (by omega) q0'
          have q1a : ∀ x, (u3.setCell ⟨w.heap.size, 2, none⟩ x).cell? ⟨w.heap.size + 1 + 1, 1, none⟩ = some (.slice none 0 0) := fun x => sc5 (by omega) q1'
          have q2a : ∀ x, (u3.setCell ⟨w.heap.size, 2, none⟩ x).cell? ⟨w.heap.size + 1 + 1, 2, none⟩ = some (.int .i64 0) := fun x => sc5 (by omega) q2'
          have fea : ∀ x o, (u3.setCell ⟨w.heap.size, 2, none⟩ x).frozen? ⟨w.heap.size + 1 + 1, o, none⟩ = false := fun x o => by simp [go_sem, fe]
          go_wp2_with fail
          refine bodyPost_ret (v := .tuple #[.agg #[(.slice (some ⟨gp, 0, none⟩) 1 cp), .slice (some ⟨gl, 0, none⟩) 1 cl, .int .i64 1], .int .i64 0, .int .i64 0]) (by simp [results, Try.results48, go_sem, q0', q1', q2']) rfl ⟨gp, cp, gl, cl, rfl, ⟨gw, cw, g2, c2, ?_, ?_, ?_, ?_, by omega⟩, ?_⟩
          · exact (own5 (own5 (own5 (own5 O1 (fun q hq => by simp [Value.ownBlock] at hq; omega)) (fun q hq => by simp [Value.ownBlock] at hq; omega)) (fun q hq => by simp [Value.ownBlock] at hq; omega)) (fun q hq => by simp [Value.ownBlock] at hq; omega))
          · exact (own5 (own5 (own5 (own5 O2 (fun q hq => by simp [Value.ownBlock] at hq; omega)) (fun q hq => by simp [Value.ownBlock] at hq; omega)) (fun q hq => by simp [Value.ownBlock] at hq; omega)) (fun q hq => by simp [Value.ownBlock] at hq; omega))
          · exact (own5 (own5 (own5 (own5 O3 (fun q hq => by simp [Value.ownBlock] at hq; omega)) (fun q hq => by simp [Value.ownBlock] at hq; omega)) (fun q hq => by simp [Value.ownBlock] at hq; omega)) (fun q hq => by simp [Value.ownBlock] at hq; omega))
          · exact sc5 (by omega) (sc5 (by omega) (sc5 (by omega) (sc5 (by omega) cS7)))
          · exact (((B7.setCell (Nat.le_refl _) _).setCell (by show w.heap.size ≤ w.heap.size + 1 + 1; omega) _).setCell (by show w.heap.size ≤ w.heap.size + 1 + 1; omega) _).setCell (by show w.heap.size ≤ w.heap.size + 1 + 1; omega) _
  case s1x5 =>
    go_simp
    refine hK.out _ _ (kka _) (fun hH1 => ?_)
    clear hK KK
    try simp only [Act.put, List.setIfInBounds_toArray, List.set_cons_zero, List.set_cons_succ]
    refine wpAnyH_ready (rs := [0, 2]) (by kernel_rfl) (by simp) ?_
    refine (AllReadyH.cons (o := ⟨_, _, _, _, _, _⟩) rfl (fun KK hK => ?s24x0) (AllReadyH.cons (o := ⟨_, _, _, _, _, _⟩) rfl (fun KK hK => ?s24x2) AllReadyH.nil))
    case s24x0 =>
      go_simp
      refine hK.out _ _ (kkb _ _) (fun hH24 => ?_)
      clear hK KK
      try simp only [Act.put, List.setIfInBounds_toArray, List.set_cons_zero, List.set_cons_succ]
      refine wpAnyH_ready (rs := [2]) (by kernel_rfl) (by simp) ?_
      refine (AllReadyH.cons (o := ⟨_, _, _, _, _, _⟩) rfl (fun KK hK => ?s25x2) AllReadyH.nil)
      case s25x2 =>
        go_simp
        refine hK.out _ _ (kkb _ _) (fun hH25 => ?_)
        clear hK KK
        try simp only [Act.put, List.setIfInBounds_toArray, List.set_cons_zero, List.set_cons_succ]
        refine wpAnyH_take (i := 3) (oi := ⟨_, _, _, _, _, _⟩) (v := ?vn263) rfl (by kernel_rfl) (by kernel_rfl) (by kernel_rfl) (fun _ _ _ h => h) (Or.inl ⟨by rfl, ?yn263⟩) (by assumption) ?rn263
        case yn263 => intro w hSw; (try dsimp only at hSw); go_simp; try with_reducible rfl
        try simp only [Act.put, List.setIfInBounds_toArray, List.set_cons_zero, List.set_cons_succ]
        refine wpAnyH_ready (rs := [6]) (by kernel_rfl) (by simp) ?_
        refine AllReadyH.cons (o := ⟨_, _, _, _, _, _⟩) rfl (fun KK hK => ?_) AllReadyH.nil
        refine wp_append_lies _ _ _ 23 rfl w.heap.size 48 i1 _ 5 56 Try.underlying23 hi1 hd0 hd1 hd2 rfl (by decide) (.slice (some ⟨u.heap.size + 1, 0, none⟩) 0 0) 0 [] rfl (owns_empty ?e0 (by omega)) ⟨u.heap.size, 0, none⟩ 1 1 [.int .i64 0, .int .i64 ep, .int .i64 id, .int .i64 0, .slice (some ⟨g2, 0, none⟩) 1 c2] rfl rfl ?e1 ?e2 (by omega) ?e3 ?e4 ?e5 (u.heap.size + 1 + 1) ?e6 ?_
        case e0 => (have h := heap_alloc_new (u.alloc (.cells #[.int .i64 0, .int .i64 ep, .int .i64 id, .int .i64 0, .slice (some ⟨g2, 0, none⟩) 1 c2] 48)) (.cells #[] 48); simp only [World.size_alloc] at h; exact h)
        case e1 => exact World.news_of_block (cs := #[.int .i64 0, .int .i64 ep, .int .i64 id, .int .i64 0, .slice (some ⟨g2, 0, none⟩) 1 c2]) (t := 48) (fr := (0, 0)) (by exact ((al5 (u.alloc _) _).block u.heap.size (by simp)).trans (heap_alloc_new u _))
        case e2 => simp [Value.oneCell']
        case e3 => unfold maxLen; omega
        case e4 => omega
        case e5 => simp; omega
        case e6 => simp
        intro gl cl w5 hownL hgrow hat _
        have HU5 : Below u.heap.size u w5 := (((Below.refl u.heap.size u).alloc (Nat.le_refl _) _).alloc (by simp) _).drew.grown hgrow (by simp; omega) (fun k hk => by simp [Value.ownBlock] at hk; omega)
        have hgl : u.heap.size ≤ gl := by simp [Value.ownBlock] at hat; omega
        have kk5 : w5.cell? ⟨bb, 0, none⟩ = some (.int .i64 0) ∧ w5.cell? ⟨bb, 1, none⟩ = some (.int .i64 ep) ∧ w5.cell? ⟨bb, 2, none⟩ = some (.int .i64 id) ∧ w5.cell? ⟨bb, 3, none⟩ = some (.int .i64 0) ∧ w5.cell? ⟨bb, 4, none⟩ = some (.slice (some ⟨g2, 0, none⟩) 1 c2) := ⟨cel5 HU5 kk.1, cel5 HU5 kk.2.1, cel5 HU5 kk.2.2.1, cel5 HU5 kk.2.2.2.1, cel5 HU5 kk.2.2.2.2⟩
        have z1 : w5.cell? ⟨w.heap.size, 1, none⟩ = some (.slice none 0 0) := cel5 HU5 y1
        have fz : ∀ o, w5.frozen? ⟨w.heap.size, o, none⟩ = false := fun o => fz5 HU5 (by omega) (fy o)
        have kk6 : ∀ x, (w5.setCell ⟨w.heap.size, 1, none⟩ x).cell? ⟨bb, 0, none⟩ = some (.int .i64 0) ∧ (w5.setCell ⟨w.heap.size, 1, none⟩ x).cell? ⟨bb, 1, none⟩ = some (.int .i64 ep) ∧ (w5.setCell ⟨w.heap.size, 1, none⟩ x).cell? ⟨bb, 2, none⟩ = some (.int .i64 id) ∧ (w5.setCell ⟨w.heap.size, 1, none⟩ x).cell? ⟨bb, 3, none⟩ = some (.int .i64 0) ∧ (w5.setCell ⟨w.heap.size, 1, none⟩ x).cell? ⟨bb, 4, none⟩ = some (.slice (some ⟨g2, 0, none⟩) 1 c2) := fun x => ⟨sc5 (by omega) kk5.1, sc5 (by omega) kk5.2.1, sc5 (by omega) kk5.2.2.1, sc5 (by omega) kk5.2.2.2.1, sc5 (by omega) kk5.2.2.2.2⟩
        refine hK.out _ _ kk5 (fun hH13 => ?_)
        clear hK KK
        try simp only [Act.put, List.setIfInBounds_toArray, List.set_cons_zero, List.set_cons_succ]
        refine wpAnyH_take (i := 7) (oi := ⟨_, _, _, _, _, _⟩) (v := ?vf267) rfl (by kernel_rfl) (by kernel_rfl) (by kernel_rfl) (fun _ _ _ h => h) (Or.inl ⟨by rfl, ?yf267⟩) (by assumption) ?rf267
        case yf267 => intro w hSw; (try dsimp only at hSw); go_simp; try with_reducible rfl
        try simp only [Act.put, List.setIfInBounds_toArray, List.set_cons_zero, List.set_cons_succ]
        refine wpAnyH_ready (rs := [8]) (by kernel_rfl) (by simp) ?_
        refine AllReadyH.cons (o := ⟨_, _, _, _, _, _⟩) rfl (fun KK hK => ?_) AllReadyH.nil
        go_simp
        refine hK.out _ _ (kk6 _) (fun hH15 => ?_)
        clear hK KK
        try simp only [Act.put, List.setIfInBounds_toArray, List.set_cons_zero, List.set_cons_succ]
        refine wpAnyH_done (by kernel_rfl) (NoPanic.normal ?_) _
        have z0 : w5.cell? ⟨w.heap.size, 0, none⟩ = some (.slice none 0 0) := cel5 HU5 y0
        have z2 : w5.cell? ⟨w.heap.size, 2, none⟩ = some (.int .i64 0) := cel5 HU5 y2
        have t0 : w5.cell? ⟨w.heap.size + 1 + 1, 0, none⟩ = some (.slice none 0 0) := cel5 HU5 s0
        have t1 : w5.cell? ⟨w.heap.size + 1 + 1, 1, none⟩ = some (.slice none 0 0) := cel5 HU5 s1
        have t2 : w5.cell? ⟨w.heap.size + 1 + 1, 2, none⟩ = some (.int .i64 0) := cel5 HU5 s2
        have ft : ∀ o, w5.frozen? ⟨w.heap.size + 1 + 1, o, none⟩ = false := fun o => fz5 HU5 (by omega) (fs o)
        have cS5 : w5.cell? ⟨g2, 0, none⟩ = some (.string ⟨#[]⟩) := cel5 HU5 cSu
        have B5 : Below w.heap.size w (w5.setCell ⟨w.heap.size, 1, none⟩ (.slice (some ⟨gl, 0, none⟩) 1 cl)) := (st5 BB HU5).setCell (Nat.le_refl _) _
        have l5 := HU5.size
        obtain ⟨u2, hu2⟩ : ∃ x, w5.setCell ⟨w.heap.size, 1, none⟩ (.slice (some ⟨gl, 0, none⟩) 1 cl) = x := ⟨_, rfl⟩
        have kx : u2.cell? ⟨bb, 0, none⟩ = some (.int .i64 0) ∧ u2.cell? ⟨bb, 1, none⟩ = some (.int .i64 ep) ∧ u2.cell? ⟨bb, 2, none⟩ = some (.int .i64 id) ∧ u2.cell? ⟨bb, 3, none⟩ = some (.int .i64 0) ∧ u2.cell? ⟨bb, 4, none⟩ = some (.slice (some ⟨g2, 0, none⟩) 1 c2) := by rw [← hu2]; exact kk6 _
        have n0 : u2.cell? ⟨w.heap.size, 0, none⟩ = some (.slice none 0 0) := by rw [← hu2]; simp [go_sem, z0]
        have n1 : u2.cell? ⟨w.heap.size, 1, none⟩ = some (.slice (some ⟨gl, 0, none⟩) 1 cl) := by rw [← hu2]; simp [go_sem, z1]
        have n2 : u2.cell? ⟨w.heap.size, 2, none⟩ = some (.int .i64 0) := by rw [← hu2]; simp [go_sem, z2]
        have m0 : u2.cell? ⟨w.heap.size + 1 + 1, 0, none⟩ = some (.slice none 0 0) := by rw [← hu2]; exact sc5 (by omega) t0
        have m1 : u2.cell? ⟨w.heap.size + 1 + 1, 1, none⟩ = some (.slice none 0 0) := by rw [← hu2]; exact sc5 (by omega) t1
        have m2 : u2.cell? ⟨w.heap.size + 1 + 1, 2, none⟩ = some (.int .i64 0) := by rw [← hu2]; exact sc5 (by omega) t2
        have fn : ∀ o, u2.frozen? ⟨w.heap.size, o, none⟩ = false := fun o => by rw [← hu2]; simp [go_sem, fz]
        have fm : ∀ o, u2.frozen? ⟨w.heap.size + 1 + 1, o, none⟩ = false := fun o => by rw [← hu2]; simp [go_sem, ft]
        have oL : u2.ownsRow w.heap.size 48 5 (.slice (some ⟨gl, 0, none⟩) 1 cl) 1 [.int .i64 0, .int .i64 ep, .int .i64 id, .int .i64 0, .slice (some ⟨g2, 0, none⟩) 1 c2] := by rw [← hu2]; exact own5 hownL (fun q hq => by simp [Value.ownBlock] at hq; omega)
        have cS6 : u2.cell? ⟨g2, 0, none⟩ = some (.string ⟨#[]⟩) := by rw [← hu2]; exact sc5 (by omega) cS5
        have l6 : u.heap.size ≤ u2.heap.size := by rw [← hu2]; simp; omega
        have hglu := (oL.lt gl rfl).2
        rw [hu2] at B5 ⊢
        clear hu2 kk kka kkb kk5 kk6 y0 y1 y2 y1a y1b s0 s1 s2 fy fs z0 z1 z2 t0 t1 t2 fz ft HU5 hownL hgrow hat cS5 cSu BB
        go_wp2_with fail
        refine wp_region_noPanic ?_
        refine wp_region_held_drew (S := fun w' => w'.cell? ⟨bb, 0, none⟩ = some (.int .i64 0) ∧ w'.cell? ⟨bb, 1, none⟩ = some (.int .i64 ep) ∧ w'.cell? ⟨bb, 2, none⟩ = some (.int .i64 id) ∧ w'.cell? ⟨bb, 3, none⟩ = some (.int .i64 0) ∧ w'.cell? ⟨bb, 4, none⟩ = some (.slice (some ⟨g2, 0, none⟩) 1 c2)) (by kernel_rfl) kx (fun hH => ?_)
        refine wpAnyH_take (i := 1) (oi := ⟨_, _, _, _, _, _⟩) (v := ?vgf26t1) rfl (by kernel_rfl) (by kernel_rfl) (by kernel_rfl) (fun _ _ _ h => h) (Or.inl ⟨by rfl, ?ygf26t1⟩) (by assumption) ?rgf26t1
        case ygf26t1 => intro w hSw; (try dsimp only at hSw); go_simp; try with_reducible rfl
        try simp only [Act.put, List.setIfInBounds_toArray, List.set_cons_zero, List.set_cons_succ]
        refine wpAnyH_take (i := 4) (oi := ⟨_, _, _, _, _, _⟩) (v := ?vgf26t4) rfl (by kernel_rfl) (by kernel_rfl) (by kernel_rfl) (fun _ _ _ h => h) (Or.inl ⟨by rfl, ?ygf26t4⟩) (by assumption) ?rgf26t4
        case ygf26t4 => intro w hSw; (try dsimp only at hSw); go_simp; try with_reducible rfl
        try simp only [Act.put, List.setIfInBounds_toArray, List.set_cons_zero, List.set_cons_succ]
        have kxa : ∀ o, (u2.alloc o).cell? ⟨bb, 0, none⟩ = some (.int .i64 0) ∧ (u2.alloc o).cell? ⟨bb, 1, none⟩ = some (.int .i64 ep) ∧ (u2.alloc o).cell? ⟨bb, 2, none⟩ = some (.int .i64 id) ∧ (u2.alloc o).cell? ⟨bb, 3, none⟩ = some (.int .i64 0) ∧ (u2.alloc o).cell? ⟨bb, 4, none⟩ = some (.slice (some ⟨g2, 0, none⟩) 1 c2) := fun o => ⟨cel5 (al5 u2 o) kx.1, cel5 (al5 u2 o) kx.2.1, cel5 (al5 u2 o) kx.2.2.1, cel5 (al5 u2 o) kx.2.2.2.1, cel5 (al5 u2 o) kx.2.2.2.2⟩
        have n0a : ∀ o, (u2.alloc o).cell? ⟨w.heap.size, 0, none⟩ = some (.slice none 0 0) := fun o => cel5 (al5 _ o) n0
        refine wpAnyH_ready (rs := [0, 2]) (by kernel_rfl) (by simp) ?_
        refine (AllReadyH.cons (o := ⟨_, _, _, _, _, _⟩) rfl (fun KK hK => ?gf26a) (AllReadyH.cons (o := ⟨_, _, _, _, _, _⟩) rfl (fun KK hK => ?gf26b) AllReadyH.nil))
        case gf26a =>
          go_simp
          refine hK.out _ _ (kxa _) (fun hHa => ?_)
          clear hK KK
          try simp only [Act.put, List.setIfInBounds_toArray, List.set_cons_zero, List.set_cons_succ]
          refine wpAnyH_ready (rs := [2]) (by kernel_rfl) (by simp) ?_
          refine AllReadyH.cons (o := ⟨_, _, _, _, _, _⟩) rfl (fun KK hK => ?_) AllReadyH.nil
          go_simp
          refine hK.out _ _ (kxa _) (fun hHb => ?_)
          clear hK KK
          try simp only [Act.put, List.setIfInBounds_toArray, List.set_cons_zero, List.set_cons_succ]
          refine wpAnyH_take (i := 3) (oi := ⟨_, _, _, _, _, _⟩) (v := ?vgf26n283) rfl (by kernel_rfl) (by kernel_rfl) (by kernel_rfl) (fun _ _ _ h => h) (Or.inl ⟨by rfl, ?ygf26n283⟩) (by assumption) ?rgf26n283
          case ygf26n283 => intro w hSw; (try dsimp only at hSw); go_simp; try with_reducible rfl
          try simp only [Act.put, List.setIfInBounds_toArray, List.set_cons_zero, List.set_cons_succ]
          refine wpAnyH_ready (rs := [5]) (by kernel_rfl) (by simp) ?_
          refine AllReadyH.cons (o := ⟨_, _, _, _, _, _⟩) rfl (fun KK hK => ?_) AllReadyH.nil
          go_simp
          go_at_call 65
          refine (l5Add_nil id ep 0 u2.heap.size g2 c2 _).mono ?_
          rintro r w6 ⟨gp, cp, gw, cw, rfl, o1, o2, hlt6, hB6⟩
          have HU6 : Below u2.heap.size u2 w6 := ((Below.refl u2.heap.size u2).alloc (Nat.le_refl _) _).drew.trans (hB6.mono (by simp))
          have l7 := HU6.size
          have kx6 : w6.cell? ⟨bb, 0, none⟩ = some (.int .i64 0) ∧ w6.cell? ⟨bb, 1, none⟩ = some (.int .i64 ep) ∧ w6.cell? ⟨bb, 2, none⟩ = some (.int .i64 id) ∧ w6.cell? ⟨bb, 3, none⟩ = some (.int .i64 0) ∧ w6.cell? ⟨bb, 4, none⟩ = some (.slice (some ⟨g2, 0, none⟩) 1 c2) := ⟨cel5 HU6 kx.1, cel5 HU6 kx.2.1, cel5 HU6 kx.2.2.1, cel5 HU6 kx.2.2.2.1, cel5 HU6 kx.2.2.2.2⟩
          have x0 : w6.cell? ⟨w.heap.size, 0, none⟩ = some (.slice none 0 0) := cel5 HU6 n0
          have x1 : w6.cell? ⟨w.heap.size, 1, none⟩ = some (.slice (some ⟨gl, 0, none⟩) 1 cl) := cel5 HU6 n1
          have x2 : w6.cell? ⟨w.heap.size, 2, none⟩ = some (.int .i64 0) := cel5 HU6 n2
          have q0 : w6.cell? ⟨w.heap.size + 1 + 1, 0, none⟩ = some (.slice none 0 0) := cel5 HU6 m0
          have q1 : w6.cell? ⟨w.heap.size + 1 + 1, 1, none⟩ = some (.slice none 0 0) := cel5 HU6 m1
          have q2 : w6.cell? ⟨w.heap.size + 1 + 1, 2, none⟩ = some (.int .i64 0) := cel5 HU6 m2
          have fx : ∀ o, w6.frozen? ⟨w.heap.size, o, none⟩ = false := fun o => fz5 HU6 (by omega) (fn o)
          have fq : ∀ o, w6.frozen? ⟨w.heap.size + 1 + 1, o, none⟩ = false := fun o => fz5 HU6 (by omega) (fm o)
          have kx7 : ∀ x, (w6.setCell ⟨w.heap.size, 0, none⟩ x).cell? ⟨bb, 0, none⟩ = some (.int .i64 0) ∧ (w6.setCell ⟨w.heap.size, 0, none⟩ x).cell? ⟨bb, 1, none⟩ = some (.int .i64 ep) ∧ (w6.setCell ⟨w.heap.size, 0, none⟩ x).cell? ⟨bb, 2, none⟩ = some (.int .i64 id) ∧ (w6.setCell ⟨w.heap.size, 0, none⟩ x).cell? ⟨bb, 3, none⟩ = some (.int .i64 0) ∧ (w6.setCell ⟨w.heap.size, 0, none⟩ x).cell? ⟨bb, 4, none⟩ = some (.slice (some ⟨g2, 0, none⟩) 1 c2) := fun x => ⟨sc5 (by omega) kx6.1, sc5 (by omega) kx6.2.1, sc5 (by omega) kx6.2.2.1, sc5 (by omega) kx6.2.2.2.1, sc5 (by omega) kx6.2.2.2.2⟩
          refine hK.out _ _ kx6 (fun hH16 => ?_)
          clear hK KK
          try simp only [Act.put, List.setIfInBounds_toArray, List.set_cons_zero, List.set_cons_succ]
          refine wpAnyH_take (i := 6) (oi := ⟨_, _, _, _, _, _⟩) (v := ?vgf26f286) rfl (by kernel_rfl) (by kernel_rfl) (by kernel_rfl) (fun _ _ _ h => h) (Or.inl ⟨by rfl, ?ygf26f286⟩) (by assumption) ?rgf26f286
          case ygf26f286 => intro w hSw; (try dsimp only at hSw); go_simp; try with_reducible rfl
          try simp only [Act.put, List.setIfInBounds_toArray, List.set_cons_zero, List.set_cons_succ]
          refine wpAnyH_ready (rs := [7]) (by kernel_rfl) (by simp) ?_
          refine AllReadyH.cons (o := ⟨_, _, _, _, _, _⟩) rfl (fun KK hK => ?_) AllReadyH.nil
          go_simp
          refine hK.out _ _ (kx7 _) (fun hH17 => ?_)
          clear hK KK
          try simp only [Act.put, List.setIfInBounds_toArray, List.set_cons_zero, List.set_cons_succ]
          refine wpAnyH_done (by kernel_rfl) (NoPanic.normal ?_) _
          obtain ⟨u3, hu3⟩ : ∃ x, w6.setCell ⟨w.heap.size, 0, none⟩ (.slice (some ⟨gp, 0, none⟩) 1 cp) = x := ⟨_, rfl⟩
          have b4 : u3.cell? ⟨bb, 4, none⟩ = some (.slice (some ⟨g2, 0, none⟩) 1 c2) := by rw [← hu3]; exact (kx7 _).2.2.2.2
          have d0 : u3.cell? ⟨w.heap.size, 0, none⟩ = some (.slice (some ⟨gp, 0, none⟩) 1 cp) := by rw [← hu3]; simp [go_sem, x0]
          have d1 : u3.cell? ⟨w.heap.size, 1, none⟩ = some (.slice (some ⟨gl, 0, none⟩) 1 cl) := by rw [← hu3]; simp [go_sem, x1]
          have d2 : u3.cell? ⟨w.heap.size, 2, none⟩ = some (.int .i64 0) := by rw [← hu3]; simp [go_sem, x2]
          have q0' : u3.cell? ⟨w.heap.size + 1 + 1, 0, none⟩ = some (.slice none 0 0) := by rw [← hu3]; exact sc5 (by omega) q0
          have q1' : u3.cell? ⟨w.heap.size + 1 + 1, 1, none⟩ = some (.slice none 0 0) := by rw [← hu3]; exact sc5 (by omega) q1
          have q2' : u3.cell? ⟨w.heap.size + 1 + 1, 2, none⟩ = some (.int .i64 0) := by rw [← hu3]; exact sc5 (by omega) q2
          have fd : ∀ o, u3.frozen? ⟨w.heap.size, o, none⟩ = false := fun o => by rw [← hu3]; simp [go_sem, fx]
          have fe : ∀ o, u3.frozen? ⟨w.heap.size + 1 + 1, o, none⟩ = false := fun o => by rw [← hu3]; simp [go_sem, fq]
          have O1 : u3.ownsRow w.heap.size 84 4 (.slice (some ⟨gp, 0, none⟩) 1 cp) 1 [.int .i64 id, .int .i64 ep, .int .i64 1, .slice (some ⟨gw, 0, none⟩) 1 cw] := by rw [← hu3]; exact own5 (owns_mono o1 (by simp; omega)) (fun q hq => by have := o1.lt q hq; simp at this; omega)
          have O2 : u3.ownsRow w.heap.size 103 3 (.slice (some ⟨gw, 0, none⟩) 1 cw) 1 [.int .i64 0, .int .i64 1, .int .i64 0] := by rw [← hu3]; exact own5 (owns_mono o2 (by simp; omega)) (fun q hq => by have := o2.lt q hq; simp at this; omega)
          have O3 : u3.ownsRow w.heap.size 48 5 (.slice (some ⟨gl, 0, none⟩) 1 cl) 1 [.int .i64 0, .int .i64 ep, .int .i64 id, .int .i64 0, .slice (some ⟨g2, 0, none⟩) 1 c2] := by rw [← hu3]; exact own5 (owns_below oL HU6) (fun q hq => by simp [Value.ownBlock] at hq; omega)
          have cS7 : u3.cell? ⟨g2, 0, none⟩ = some (.string ⟨#[]⟩) := by rw [← hu3]; exact sc5 (by omega) (cel5 HU6 cS6)
          have hgp := (o1.lt gp rfl).1
          have hgw := (o2.lt gw rfl).1
          simp at hgp hgw
          have B7 : Below w.heap.size w u3 := by rw [← hu3]; exact (st5 B5 HU6).setCell (Nat.le_refl _) _
          rw [hu3]
          clear hu3 kx kxa kx6 kx7 n0 n1 n2 n0a m0 m1 m2 fn fm x0 x1 x2 q0 q1 q2 fx fq HU6 hB6 o1 o2 oL B5 cS6
          have d0a : ∀ x, (u3.setCell ⟨w.heap.size, 2, none⟩ x).cell? ⟨w.heap.size, 0, none⟩ = some (.slice (some ⟨gp, 0, none⟩) 1 cp) := fun x => by simp [go_sem, d0]
          have d1a : ∀ x, (u3.setCell ⟨w.heap.size, 2, none⟩ x).cell? ⟨w.heap.size, 1, none⟩ = some (.slice (some ⟨gl, 0, none⟩) 1 cl) := fun x => by simp [go_sem, d1]
          have d2a : ∀ x, (u3.setCell ⟨w.heap.size, 2, none⟩ x).cell? ⟨w.heap.size, 2, none⟩ = some x := fun x => by simp [go_sem, d2]
          have q0a : ∀ x, (u3.setCell ⟨w.heap.size, 2, none⟩ x).cell? ⟨w.heap.size + 1 + 1, 0, none⟩ = some (.slice none 0 0) := fun x => sc5 (by omega) q0'
          have q1a : ∀ x, (u3.setCell ⟨w.heap.size, 2, none⟩ x).cell? ⟨w.heap.size + 1 + 1, 1, none⟩ = some (.slice none 0 0) := fun x => sc5 (by omega) q1'
          have q2a : ∀ x, (u3.setCell ⟨w.heap.size, 2, none⟩ x).cell? ⟨w.heap.size + 1 + 1, 2, none⟩ = some (.int .i64 0) := fun x => sc5 (by omega) q2'
          have fea : ∀ x o, (u3.setCell ⟨w.heap.size, 2, none⟩ x).frozen? ⟨w.heap.size + 1 + 1, o, none⟩ = false := fun x o => by simp [go_sem, fe]
          go_wp2_with fail
          refine bodyPost_ret (v := .tuple #[.agg #[(.slice (some ⟨gp, 0, none⟩) 1 cp), .slice (some ⟨gl, 0, none⟩) 1 cl, .int .i64 1], .int .i64 0, .int .i64 0]) (by simp [results, Try.results48, go_sem, q0', q1', q2']) rfl ⟨gp, cp, gl, cl, rfl, ⟨gw, cw, g2, c2, ?_, ?_, ?_, ?_, by omega⟩, ?_⟩
          · exact (own5 (own5 (own5 (own5 O1 (fun q hq => by simp [Value.ownBlock] at hq; omega)) (fun q hq => by simp [Value.ownBlock] at hq; omega)) (fun q hq => by simp [Value.ownBlock] at hq; omega)) (fun q hq => by simp [Value.ownBlock] at hq; omega))
          · exact (own5 (own5 (own5 (own5 O2 (fun q hq => by simp [Value.ownBlock] at hq; omega)) (fun q hq => by simp [Value.ownBlock] at hq; omega)) (fun q hq => by simp [Value.ownBlock] at hq; omega)) (fun q hq => by simp [Value.ownBlock] at hq; omega))
          · exact (own5 (own5 (own5 (own5 O3 (fun q hq => by simp [Value.ownBlock] at hq; omega)) (fun q hq => by simp [Value.ownBlock] at hq; omega)) (fun q hq => by simp [Value.ownBlock] at hq; omega)) (fun q hq => by simp [Value.ownBlock] at hq; omega))
          · exact sc5 (by omega) (sc5 (by omega) (sc5 (by omega) (sc5 (by omega) cS7)))
          · exact (((B7.setCell (Nat.le_refl _) _).setCell (by show w.heap.size ≤ w.heap.size + 1 + 1; omega) _).setCell (by show w.heap.size ≤ w.heap.size + 1 + 1; omega) _).setCell (by show w.heap.size ≤ w.heap.size + 1 + 1; omega) _
        case gf26b =>
          go_simp
          refine hK.out _ _ kx (fun hHa => ?_)
          clear hK KK
          try simp only [Act.put, List.setIfInBounds_toArray, List.set_cons_zero, List.set_cons_succ]
          refine wpAnyH_ready (rs := [0]) (by kernel_rfl) (by simp) ?_
          refine AllReadyH.cons (o := ⟨_, _, _, _, _, _⟩) rfl (fun KK hK => ?_) AllReadyH.nil
          go_simp
          refine hK.out _ _ (kxa _) (fun hHb => ?_)
          clear hK KK
          try simp only [Act.put, List.setIfInBounds_toArray, List.set_cons_zero, List.set_cons_succ]
          refine wpAnyH_take (i := 3) (oi := ⟨_, _, _, _, _, _⟩) (v := ?vgf26n293) rfl (by kernel_rfl) (by kernel_rfl) (by kernel_rfl) (fun _ _ _ h => h) (Or.inl ⟨by rfl, ?ygf26n293⟩) (by assumption) ?rgf26n293
          case ygf26n293 => intro w hSw; (try dsimp only at hSw); go_simp; try with_reducible rfl
          try simp only [Act.put, List.setIfInBounds_toArray, List.set_cons_zero, List.set_cons_succ]
          refine wpAnyH_ready (rs := [5]) (by kernel_rfl) (by simp) ?_
          refine AllReadyH.cons (o := ⟨_, _, _, _, _, _⟩) rfl (fun KK hK => ?_) AllReadyH.nil
          go_simp
          go_at_call 65
          refine (l5Add_nil id ep 0 u2.heap.size g2 c2 _).mono ?_
          rintro r w6 ⟨gp, cp, gw, cw, rfl, o1, o2, hlt6, hB6⟩
          have HU6 : Below u2.heap.size u2 w6 := ((Below.refl u2.heap.size u2).alloc (Nat.le_refl _) _).drew.trans (hB6.mono (by simp))
          have l7 := HU6.size
          have kx6 : w6.cell? ⟨bb, 0, none⟩ = some (.int .i64 0) ∧ w6.cell? ⟨bb, 1, none⟩ = some (.int .i64 ep) ∧ w6.cell? ⟨bb, 2, none⟩ = some (.int .i64 id) ∧ w6.cell? ⟨bb, 3, none⟩ = some (.int .i64 0) ∧ w6.cell? ⟨bb, 4, none⟩ = some (.slice (some ⟨g2, 0, none⟩) 1 c2) := ⟨cel5 HU6 kx.1, cel5 HU6 kx.2.1, cel5 HU6 kx.2.2.1, cel5 HU6 kx.2.2.2.1, cel5 HU6 kx.2.2.2.2⟩
          have x0 : w6.cell? ⟨w.heap.size, 0, none⟩ = some (.slice none 0 0) := cel5 HU6 n0
          have x1 : w6.cell? ⟨w.heap.size, 1, none⟩ = some (.slice (some ⟨gl, 0, none⟩) 1 cl) := cel5 HU6 n1
          have x2 : w6.cell? ⟨w.heap.size, 2, none⟩ = some (.int .i64 0) := cel5 HU6 n2
          have q0 : w6.cell? ⟨w.heap.size + 1 + 1, 0, none⟩ = some (.slice none 0 0) := cel5 HU6 m0
          have q1 : w6.cell? ⟨w.heap.size + 1 + 1, 1, none⟩ = some (.slice none 0 0) := cel5 HU6 m1
          have q2 : w6.cell? ⟨w.heap.size + 1 + 1, 2, none⟩ = some (.int .i64 0) := cel5 HU6 m2
          have fx : ∀ o, w6.frozen? ⟨w.heap.size, o, none⟩ = false := fun o => fz5 HU6 (by omega) (fn o)
          have fq : ∀ o, w6.frozen? ⟨w.heap.size + 1 + 1, o, none⟩ = false := fun o => fz5 HU6 (by omega) (fm o)
          have kx7 : ∀ x, (w6.setCell ⟨w.heap.size, 0, none⟩ x).cell? ⟨bb, 0, none⟩ = some (.int .i64 0) ∧ (w6.setCell ⟨w.heap.size, 0, none⟩ x).cell? ⟨bb, 1, none⟩ = some (.int .i64 ep) ∧ (w6.setCell ⟨w.heap.size, 0, none⟩ x).cell? ⟨bb, 2, none⟩ = some (.int .i64 id) ∧ (w6.setCell ⟨w.heap.size, 0, none⟩ x).cell? ⟨bb, 3, none⟩ = some (.int .i64 0) ∧ (w6.setCell ⟨w.heap.size, 0, none⟩ x).cell? ⟨bb, 4, none⟩ = some (.slice (some ⟨g2, 0, none⟩) 1 c2) := fun x => ⟨sc5 (by omega) kx6.1, sc5 (by omega) kx6.2.1, sc5 (by omega) kx6.2.2.1, sc5 (by omega) kx6.2.2.2.1, sc5 (by omega) kx6.2.2.2.2⟩
          refine hK.out _ _ kx6 (fun hH16 => ?_)
          clear hK KK
          try simp only [Act.put, List.setIfInBounds_toArray, List.set_cons_zero, List.set_cons_succ]
          refine wpAnyH_take (i := 6) (oi := ⟨_, _, _, _, _, _⟩) (v := ?vgf26f296) rfl (by kernel_rfl) (by kernel_rfl) (by kernel_rfl) (fun _ _ _ h => h) (Or.inl ⟨by rfl, ?ygf26f296⟩) (by assumption) ?rgf26f296
          case ygf26f296 => intro w hSw; (try dsimp only at hSw); go_simp; try with_reducible rfl
          try simp only [Act.put, List.setIfInBounds_toArray, List.set_cons_zero, List.set_cons_succ]
          refine wpAnyH_ready (rs := [7]) (by kernel_rfl) (by simp) ?_
          refine AllReadyH.cons (o := ⟨_, _, _, _, _, _⟩) rfl (fun KK hK => ?_) AllReadyH.nil
          go_simp
          refine hK.out _ _ (kx7 _) (fun hH17 => ?_)
          clear hK KK
          try simp only [Act.put, List.setIfInBounds_toArray, List.set_cons_zero, List.set_cons_succ]
          refine wpAnyH_done (by kernel_rfl) (NoPanic.normal ?_) _
          obtain ⟨u3, hu3⟩ : ∃ x, w6.setCell ⟨w.heap.size, 0, none⟩ (.slice (some ⟨gp, 0, none⟩) 1 cp) = x := ⟨_, rfl⟩
          have b4 : u3.cell? ⟨bb, 4, none⟩ = some (.slice (some ⟨g2, 0, none⟩) 1 c2) := by rw [← hu3]; exact (kx7 _).2.2.2.2
          have d0 : u3.cell? ⟨w.heap.size, 0, none⟩ = some (.slice (some ⟨gp, 0, none⟩) 1 cp) := by rw [← hu3]; simp [go_sem, x0]
          have d1 : u3.cell? ⟨w.heap.size, 1, none⟩ = some (.slice (some ⟨gl, 0, none⟩) 1 cl) := by rw [← hu3]; simp [go_sem, x1]
          have d2 : u3.cell? ⟨w.heap.size, 2, none⟩ = some (.int .i64 0) := by rw [← hu3]; simp [go_sem, x2]
          have q0' : u3.cell? ⟨w.heap.size + 1 + 1, 0, none⟩ = some (.slice none 0 0) := by rw [← hu3]; exact sc5 (by omega) q0
          have q1' : u3.cell? ⟨w.heap.size + 1 + 1, 1, none⟩ = some (.slice none 0 0) := by rw [← hu3]; exact sc5 (by omega) q1
          have q2' : u3.cell? ⟨w.heap.size + 1 + 1, 2, none⟩ = some (.int .i64 0) := by rw [← hu3]; exact sc5 (by omega) q2
          have fd : ∀ o, u3.frozen? ⟨w.heap.size, o, none⟩ = false := fun o => by rw [← hu3]; simp [go_sem, fx]
          have fe : ∀ o, u3.frozen? ⟨w.heap.size + 1 + 1, o, none⟩ = false := fun o => by rw [← hu3]; simp [go_sem, fq]
          have O1 : u3.ownsRow w.heap.size 84 4 (.slice (some ⟨gp, 0, none⟩) 1 cp) 1 [.int .i64 id, .int .i64 ep, .int .i64 1, .slice (some ⟨gw, 0, none⟩) 1 cw] := by rw [← hu3]; exact own5 (owns_mono o1 (by simp; omega)) (fun q hq => by have := o1.lt q hq; simp at this; omega)
          have O2 : u3.ownsRow w.heap.size 103 3 (.slice (some ⟨gw, 0, none⟩) 1 cw) 1 [.int .i64 0, .int .i64 1, .int .i64 0] := by rw [← hu3]; exact own5 (owns_mono o2 (by simp; omega)) (fun q hq => by have := o2.lt q hq; simp at this; omega)
          have O3 : u3.ownsRow w.heap.size 48 5 (.slice (some ⟨gl, 0, none⟩) 1 cl) 1 [.int .i64 0, .int .i64 ep, .int .i64 id, .int .i64 0, .slice (some ⟨g2, 0, none⟩) 1 c2] := by rw [← hu3]; exact own5 (owns_below oL HU6) (fun q hq => by simp [Value.ownBlock] at hq; omega)
          have cS7 : u3.cell? ⟨g2, 0, none⟩ = some (.string ⟨#[]⟩) := by rw [← hu3]; exact sc5 (by omega) (cel5 HU6 cS6)
          have hgp := (o1.lt gp rfl).1
          have hgw := (o2.lt gw rfl).1
          simp at hgp hgw
          have B7 : Below w.heap.size w u3 := by rw [← hu3]; exact (st5 B5 HU6).setCell (Nat.le_refl _) _
          rw [hu3]
          clear hu3 kx kxa kx6 kx7 n0 n1 n2 n0a m0 m1 m2 fn fm x0 x1 x2 q0 q1 q2 fx fq HU6 hB6 o1 o2 oL B5 cS6
          have d0a : ∀ x, (u3.setCell ⟨w.heap.size, 2, none⟩ x).cell? ⟨w.heap.size, 0, none⟩ = some (.slice (some ⟨gp, 0, none⟩) 1 cp) := fun x => by simp [go_sem, d0]
          have d1a : ∀ x, (u3.setCell ⟨w.heap.size, 2, none⟩ x).cell? ⟨w.heap.size, 1, none⟩ = some (.slice (some ⟨gl, 0, none⟩) 1 cl) := fun x => by simp [go_sem, d1]
          have d2a : ∀ x, (u3.setCell ⟨w.heap.size, 2, none⟩ x).cell? ⟨w.heap.size, 2, none⟩ = some x := fun x => by simp [go_sem, d2]
          have q0a : ∀ x, (u3.setCell ⟨w.heap.size, 2, none⟩ x).cell? ⟨w.heap.size + 1 + 1, 0, none⟩ = some (.slice none 0 0) := fun x => sc5 (by omega) q0'
          have q1a : ∀ x, (u3.setCell ⟨w.heap.size, 2, none⟩ x).cell? ⟨w.heap.size + 1 + 1, 1, none⟩ = some (.slice none 0 0) := fun x => sc5 (by omega) q1'
          have q2a : ∀ x, (u3.setCell ⟨w.heap.size, 2, none⟩ x).cell? ⟨w.heap.size + 1 + 1, 2, none⟩ = some (.int .i64 0) := fun x => sc5 (by omega) q2'
          have fea : ∀ x o, (u3.setCell ⟨w.heap.size, 2, none⟩ x).frozen? ⟨w.heap.size + 1 + 1, o, none⟩ = false := fun x o => by simp [go_sem, fe]
          go_wp2_with fail
          refine bodyPost_ret (v := .tuple #[.agg #[(.slice (some ⟨gp, 0, none⟩) 1 cp), .slice (some ⟨gl, 0, none⟩) 1 cl, .int .i64 1], .int .i64 0, .int .i64 0]) (by simp [results, Try.results48, go_sem, q0', q1', q2']) rfl ⟨gp, cp, gl, cl, rfl, ⟨gw, cw, g2, c2, ?_, ?_, ?_, ?_, by omega⟩, ?_⟩
          · exact (own5 (own5 (own5 (own5 O1 (fun q hq => by simp [Value.ownBlock] at hq; omega)) (fun q hq => by simp [Value.ownBlock] at hq; omega)) (fun q hq => by simp [Value.ownBlock] at hq; omega)) (fun q hq => by simp [Value.ownBlock] at hq; omega))
          · exact (own5 (own5 (own5 (own5 O2 (fun q hq => by simp [Value.ownBlock] at hq; omega)) (fun q hq => by simp [Value.ownBlock] at hq; omega)) (fun q hq => by simp [Value.ownBlock] at hq; omega)) (fun q hq => by simp [Value.ownBlock] at hq; omega))
          · exact (own5 (own5 (own5 (own5 O3 (fun q hq => by simp [Value.ownBlock] at hq; omega)) (fun q hq => by simp [Value.ownBlock] at hq; omega)) (fun q hq => by simp [Value.ownBlock] at hq; omega)) (fun q hq => by simp [Value.ownBlock] at hq; omega))
          · exact sc5 (by omega) (sc5 (by omega) (sc5 (by omega) (sc5 (by omega) cS7)))
          · exact (((B7.setCell (Nat.le_refl _) _).setCell (by show w.heap.size ≤ w.heap.size + 1 + 1; omega) _).setCell (by show w.heap.size ≤ w.heap.size + 1 + 1; omega) _).setCell (by show w.heap.size ≤ w.heap.size + 1 + 1; omega) _
    case s24x2 =>
      go_simp
      refine hK.out _ _ (kka _) (fun hH24 => ?_)
      clear hK KK
      try simp only [Act.put, List.setIfInBounds_toArray, List.set_cons_zero, List.set_cons_succ]
      refine wpAnyH_ready (rs := [0]) (by kernel_rfl) (by simp) ?_
      refine (AllReadyH.cons (o := ⟨_, _, _, _, _, _⟩) rfl (fun KK hK => ?s30x0) AllReadyH.nil)
      case s30x0 =>
        go_simp
        refine hK.out _ _ (kkb _ _) (fun hH30 => ?_)
        clear hK KK
        try simp only [Act.put, List.setIfInBounds_toArray, List.set_cons_zero, List.set_cons_succ]
        refine wpAnyH_take (i := 3) (oi := ⟨_, _, _, _, _, _⟩) (v := ?vn313) rfl (by kernel_rfl) (by kernel_rfl) (by kernel_rfl) (fun _ _ _ h => h) (Or.inl ⟨by rfl, ?yn313⟩) (by assumption) ?rn313
        case yn313 => intro w hSw; (try dsimp only at hSw); go_simp; try with_reducible rfl
        try simp only [Act.put, List.setIfInBounds_toArray, List.set_cons_zero, List.set_cons_succ]
        refine wpAnyH_ready (rs := [6]) (by kernel_rfl) (by simp) ?_
        refine AllReadyH.cons (o := ⟨_, _, _, _, _, _⟩) rfl (fun KK hK => ?_) AllReadyH.nil
        refine wp_append_lies _ _ _ 23 rfl w.heap.size 48 i1 _ 5 56 Try.underlying23 hi1 hd0 hd1 hd2 rfl (by decide) (.slice (some ⟨u.heap.size + 1, 0, none⟩) 0 0) 0 [] rfl (owns_empty ?e0 (by omega)) ⟨u.heap.size, 0, none⟩ 1 1 [.int .i64 0, .int .i64 ep, .int .i64 id, .int .i64 0, .slice (some ⟨g2, 0, none⟩) 1 c2] rfl rfl ?e1 ?e2 (by omega) ?e3 ?e4 ?e5 (u.heap.size + 1 + 1) ?e6 ?_
        case e0 => (have h := heap_alloc_new (u.alloc (.cells #[.int .i64 0, .int .i64 ep, .int .i64 id, .int .i64 0, .slice (some ⟨g2, 0, none⟩) 1 c2] 48)) (.cells #[] 48); simp only [World.size_alloc] at h; exact h)
        case e1 => exact World.news_of_block (cs := #[.int .i64 0, .int .i64 ep, .int .i64 id, .int .i64 0, .slice (some ⟨g2, 0, none⟩) 1 c2]) (t := 48) (fr := (0, 0)) (by exact ((al5 (u.alloc _) _).block u.heap.size (by simp)).trans (heap_alloc_new u _))
        case e2 => simp [Value.oneCell']
        case e3 => unfold maxLen; omega
        case e4 => omega
        case e5 => simp; omega
        case e6 => simp
        intro gl cl w5 hownL hgrow hat _
        have HU5 : Below u.heap.size u w5 := (((Below.refl u.heap.size u).alloc (Nat.le_refl _) _).alloc (by simp) _).drew.grown hgrow (by simp; omega) (fun k hk => by simp [Value.ownBlock] at hk; omega)
        have hgl : u.heap.size ≤ gl := by simp [Value.ownBlock] at hat; omega
        have kk5 : w5.cell? ⟨bb, 0, none⟩ = some (.int .i64 0) ∧ w5.cell? ⟨bb, 1, none⟩ = some (.int .i64 ep) ∧ w5.cell? ⟨bb, 2, none⟩ = some (.int .i64 id) ∧ w5.cell? ⟨bb, 3, none⟩ = some (.int .i64 0) ∧ w5.cell? ⟨bb, 4, none⟩ = some (.slice (some ⟨g2, 0, none⟩) 1 c2) := ⟨cel5 HU5 kk.1, cel5 HU5 kk.2.1, cel5 HU5 kk.2.2.1, cel5 HU5 kk.2.2.2.1, cel5 HU5 kk.2.2.2.2⟩
        have z1 : w5.cell? ⟨w.heap.size, 1, none⟩ = some (.slice none 0 0) := cel5 HU5 y1
        have fz : ∀ o, w5.frozen? ⟨w.heap.size, o, none⟩ = false := fun o => fz5 HU5 (by omega) (fy o)
        have kk6 : ∀ x, (w5.setCell ⟨w.heap.size, 1, none⟩ x).cell? ⟨bb, 0, none⟩ = some (.int .i64 0) ∧ (w5.setCell ⟨w.heap.size, 1, none⟩ x).cell? ⟨bb, 1, none⟩ = some (.int .i64 ep) ∧ (w5.setCell ⟨w.heap.size, 1, none⟩ x).cell? ⟨bb, 2, none⟩ = some (.int .i64 id) ∧ (w5.setCell ⟨w.heap.size, 1, none⟩ x).cell? ⟨bb, 3, none⟩ = some (.int .i64 0) ∧ (w5.setCell ⟨w.heap.size, 1, none⟩ x).cell? ⟨bb, 4, none⟩ = some (.slice (some ⟨g2, 0, none⟩) 1 c2) := fun x => ⟨sc5 (by omega) kk5.1, sc5 (by omega) kk5.2.1, sc5 (by omega) kk5.2.2.1, sc5 (by omega) kk5.2.2.2.1, sc5 (by omega) kk5.2.2.2.2⟩
        refine hK.out _ _ kk5 (fun hH13 => ?_)
        clear hK KK
        try simp only [Act.put, List.setIfInBounds_toArray, List.set_cons_zero, List.set_cons_succ]
        refine wpAnyH_take (i := 7) (oi := ⟨_, _, _, _, _, _⟩) (v := ?vf317) rfl (by kernel_rfl) (by kernel_rfl) (by kernel_rfl) (fun _ _ _ h => h) (Or.inl ⟨by rfl, ?yf317⟩) (by assumption) ?rf317
        case yf317 => intro w hSw; (try dsimp only at hSw); go_simp; try with_reducible rfl
        try simp only [Act.put, List.setIfInBounds_toArray, List.set_cons_zero, List.set_cons_succ]
        refine wpAnyH_ready (rs := [8]) (by kernel_rfl) (by simp) ?_
        refine AllReadyH.cons (o := ⟨_, _, _, _, _, _⟩) rfl (fun KK hK => ?_) AllReadyH.nil
        go_simp
        refine hK.out _ _ (kk6 _) (fun hH15 => ?_)
        clear hK KK
        try simp only [Act.put, List.setIfInBounds_toArray, List.set_cons_zero, List.set_cons_succ]
        refine wpAnyH_done (by kernel_rfl) (NoPanic.normal ?_) _
        have z0 : w5.cell? ⟨w.heap.size, 0, none⟩ = some (.slice none 0 0) := cel5 HU5 y0
        have z2 : w5.cell? ⟨w.heap.size, 2, none⟩ = some (.int .i64 0) := cel5 HU5 y2
        have t0 : w5.cell? ⟨w.heap.size + 1 + 1, 0, none⟩ = some (.slice none 0 0) := cel5 HU5 s0
        have t1 : w5.cell? ⟨w.heap.size + 1 + 1, 1, none⟩ = some (.slice none 0 0) := cel5 HU5 s1
        have t2 : w5.cell? ⟨w.heap.size + 1 + 1, 2, none⟩ = some (.int .i64 0) := cel5 HU5 s2
        have ft : ∀ o, w5.frozen? ⟨w.heap.size + 1 + 1, o, none⟩ = false := fun o => fz5 HU5 (by omega) (fs o)
        have cS5 : w5.cell? ⟨g2, 0, none⟩ = some (.string ⟨#[]⟩) := cel5 HU5 cSu
        have B5 : Below w.heap.size w (w5.setCell ⟨w.heap.size, 1, none⟩ (.slice (some ⟨gl, 0, none⟩) 1 cl)) := (st5 BB HU5).setCell (Nat.le_refl _) _
        have l5 := HU5.size
        obtain ⟨u2, hu2⟩ : ∃ x, w5.setCell ⟨w.heap.size, 1, none⟩ (.slice (some ⟨gl, 0, none⟩) 1 cl) = x := ⟨_, rfl⟩
        have kx : u2.cell? ⟨bb, 0, none⟩ = some (.int .i64 0) ∧ u2.cell? ⟨bb, 1, none⟩ = some (.int .i64 ep) ∧ u2.cell? ⟨bb, 2, none⟩ = some (.int .i64 id) ∧ u2.cell? ⟨bb, 3, none⟩ = some (.int .i64 0) ∧ u2.cell? ⟨bb, 4, none⟩ = some (.slice (some ⟨g2, 0, none⟩) 1 c2) := by rw [← hu2]; exact kk6 _
        have n0 : u2.cell? ⟨w.heap.size, 0, none⟩ = some (.slice none 0 0) := by rw [← hu2]; simp [go_sem, z0]
        have n1 : u2.cell? ⟨w.heap.size, 1, none⟩ = some (.slice (some ⟨gl, 0, none⟩) 1 cl) := by rw [← hu2]; simp [go_sem, z1]
        have n2 : u2.cell? ⟨w.heap.size, 2, none⟩ = some (.int .i64 0) := by rw [← hu2]; simp [go_sem, z2]
        have m0 : u2.cell? ⟨w.heap.size + 1 + 1, 0, none⟩ = some (.slice none 0 0) := by rw [← hu2]; exact sc5 (by omega) t0
        have m1 : u2.cell? ⟨w.heap.size + 1 + 1, 1, none⟩ = some (.slice none 0 0) := by rw [← hu2]; exact sc5 (by omega) t1
        have m2 : u2.cell? ⟨w.heap.size + 1 + 1, 2, none⟩ = some (.int .i64 0) := by rw [← hu2]; exact sc5 (by omega) t2
        have fn : ∀ o, u2.frozen? ⟨w.heap.size, o, none⟩ = false := fun o => by rw [← hu2]; simp [go_sem, fz]
        have fm : ∀ o, u2.frozen? ⟨w.heap.size + 1 + 1, o, none⟩ = false := fun o => by rw [← hu2]; simp [go_sem, ft]
        have oL : u2.ownsRow w.heap.size 48 5 (.slice (some ⟨gl, 0, none⟩) 1 cl) 1 [.int .i64 0, .int .i64 ep, .int .i64 id, .int .i64 0, .slice (some ⟨g2, 0, none⟩) 1 c2] := by rw [← hu2]; exact own5 hownL (fun q hq => by simp [Value.ownBlock] at hq; omega)
        have cS6 : u2.cell? ⟨g2, 0, none⟩ = some (.string ⟨#[]⟩) := by rw [← hu2]; exact sc5 (by omega) cS5
        have l6 : u.heap.size ≤ u2.heap.size := by rw [← hu2]; simp; omega
        have hglu := (oL.lt gl rfl).2
        rw [hu2] at B5 ⊢
        clear hu2 kk kka kkb kk5 kk6 y0 y1 y2 y1a y1b s0 s1 s2 fy fs z0 z1 z2 t0 t1 t2 fz ft HU5 hownL hgrow hat cS5 cSu BB
        go_wp2_with fail
        refine wp_region_noPanic ?_
        refine wp_region_held_drew (S := fun w' => w'.cell? ⟨bb, 0, none⟩ = some (.int .i64 0) ∧ w'.cell? ⟨bb, 1, none⟩ = some (.int .i64 ep) ∧ w'.cell? ⟨bb, 2, none⟩ = some (.int .i64 id) ∧ w'.cell? ⟨bb, 3, none⟩ = some (.int .i64 0) ∧ w'.cell? ⟨bb, 4, none⟩ = some (.slice (some ⟨g2, 0, none⟩) 1 c2)) (by kernel_rfl) kx (fun hH => ?_)
        refine wpAnyH_take (i := 1) (oi := ⟨_, _, _, _, _, _⟩) (v := ?vgf31t1) rfl (by kernel_rfl) (by kernel_rfl) (by kernel_rfl) (fun _ _ _ h => h) (Or.inl ⟨by rfl, ?ygf31t1⟩) (by assumption) ?rgf31t1
        case ygf31t1 => intro w hSw; (try dsimp only at hSw); go_simp; try with_reducible rfl
        try simp only [Act.put, List.setIfInBounds_toArray, List.set_cons_zero, List.set_cons_succ]
        refine wpAnyH_take (i := 4) (oi := ⟨_, _, _, _, _, _⟩) (v := ?vgf31t4) rfl (by kernel_rfl) (by kernel_rfl) (by kernel_rfl) (fun _ _ _ h => h) (Or.inl ⟨by rfl, ?ygf31t4⟩) (by assumption) ?rgf31t4
        case ygf31t4 => intro w hSw; (try dsimp only at hSw); go_simp; try with_reducible rfl
        try simp only [Act.put, List.setIfInBounds_toArray, List.set_cons_zero, List.set_cons_succ]
        have kxa : ∀ o, (u2.alloc o).cell? ⟨bb, 0, none⟩ = some (.int .i64 0) ∧ (u2.alloc o).cell? ⟨bb, 1, none⟩ = some (.int .i64 ep) ∧ (u2.alloc o).cell? ⟨bb, 2, none⟩ = some (.int .i64 id) ∧ (u2.alloc o).cell? ⟨bb, 3, none⟩ = some (.int .i64 0) ∧ (u2.alloc o).cell? ⟨bb, 4, none⟩ = some (.slice (some ⟨g2, 0, none⟩) 1 c2) := fun o => ⟨cel5 (al5 u2 o) kx.1, cel5 (al5 u2 o) kx.2.1, cel5 (al5 u2 o) kx.2.2.1, cel5 (al5 u2 o) kx.2.2.2.1, cel5 (al5 u2 o) kx.2.2.2.2⟩
        have n0a : ∀ o, (u2.alloc o).cell? ⟨w.heap.size, 0, none⟩ = some (.slice none 0 0) := fun o => cel5 (al5 _ o) n0
        refine wpAnyH_ready (rs := [0, 2]) (by kernel_rfl) (by simp) ?_
        refine (AllReadyH.cons (o := ⟨_, _, _, _, _, _⟩) rfl (fun KK hK => ?gf31a) (AllReadyH.cons (o := ⟨_, _, _, _, _, _⟩) rfl (fun KK hK => ?gf31b) AllReadyH.nil))
        case gf31a =>
          go_simp
          refine hK.out _ _ (kxa _) (fun hHa => ?_)
          clear hK KK
          try simp only [Act.put, List.setIfInBounds_toArray, List.set_cons_zero, List.set_cons_succ]
          refine wpAnyH_ready (rs := [2]) (by kernel_rfl) (by simp) ?_
          refine AllReadyH.cons (o := ⟨_, _, _, _, _, _⟩) rfl (fun KK hK => ?_) AllReadyH.nil
          go_simp
          refine hK.out _ _ (kxa _) (fun hHb => ?_)
          clear hK KK
          try simp only [Act.put, List.setIfInBounds_toArray, List.set_cons_zero, List.set_cons_succ]
          refine wpAnyH_take (i := 3) (oi := ⟨_, _, _, _, _, _⟩) (v := ?vgf31n333) rfl (by kernel_rfl) (by kernel_rfl) (by kernel_rfl) (fun _ _ _ h => h) (Or.inl ⟨by rfl, ?ygf31n333⟩) (by assumption) ?rgf31n333
          case ygf31n333 => intro w hSw; (try dsimp only at hSw); go_simp; try with_reducible rfl
          try simp only [Act.put, List.setIfInBounds_toArray, List.set_cons_zero, List.set_cons_succ]
          refine wpAnyH_ready (rs := [5]) (by kernel_rfl) (by simp) ?_
          refine AllReadyH.cons (o := ⟨_, _, _, _, _, _⟩) rfl (fun KK hK => ?_) AllReadyH.nil
          go_simp
          go_at_call 65
          refine (l5Add_nil id ep 0 u2.heap.size g2 c2 _).mono ?_
          rintro r w6 ⟨gp, cp, gw, cw, rfl, o1, o2, hlt6, hB6⟩
          have HU6 : Below u2.heap.size u2 w6 := ((Below.refl u2.heap.size u2).alloc (Nat.le_refl _) _).drew.trans (hB6.mono (by simp))
          have l7 := HU6.size
          have kx6 : w6.cell? ⟨bb, 0, none⟩ = some (.int .i64 0) ∧ w6.cell? ⟨bb, 1, none⟩ = some (.int .i64 ep) ∧ w6.cell? ⟨bb, 2, none⟩ = some (.int .i64 id) ∧ w6.cell? ⟨bb, 3, none⟩ = some (.int .i64 0) ∧ w6.cell? ⟨bb, 4, none⟩ = some (.slice (some ⟨g2, 0, none⟩) 1 c2) := ⟨cel5 HU6 kx.1, cel5 HU6 kx.2.1, cel5 HU6 kx.2.2.1, cel5 HU6 kx.2.2.2.1, cel5 HU6 kx.2.2.2.2⟩
          have x0 : w6.cell? ⟨w.heap.size, 0, none⟩ = some (.slice none 0 0) := cel5 HU6 n0
          have x1 : w6.cell? ⟨w.heap.size, 1, none⟩ = some (.slice (some ⟨gl, 0, none⟩) 1 cl) := cel5 HU6 n1
          have x2 : w6.cell? ⟨w.heap.size, 2, none⟩ = some (.int .i64 0) := cel5 HU6 n2
          have q0 : w6.cell? ⟨w.heap.size + 1 + 1, 0, none⟩ = some (.slice none 0 0) := cel5 HU6 m0
          have q1 : w6.cell? ⟨w.heap.size + 1 + 1, 1, none⟩ = some (.slice none 0 0) := cel5 HU6 m1
          have q2 : w6.cell? ⟨w.heap.size + 1 + 1, 2, none⟩ = some (.int .i64 0) := cel5 HU6 m2
          have fx : ∀ o, w6.frozen? ⟨w.heap.size, o, none⟩ = false := fun o => fz5 HU6 (by omega) (fn o)
          have fq : ∀ o, w6.frozen? ⟨w.heap.size + 1 + 1, o, none⟩ = false := fun o => fz5 HU6 (by omega) (fm o)
          have kx7 : ∀ x, (w6.setCell ⟨w.heap.size, 0, none⟩ x).cell? ⟨bb, 0, none⟩ = some (.int .i64 0) ∧ (w6.setCell ⟨w.heap.size, 0, none⟩ x).cell? ⟨bb, 1, none⟩ = some (.int .i64 ep) ∧ (w6.setCell ⟨w.heap.size, 0, none⟩ x).cell? ⟨bb, 2, none⟩ = some (.int .i64 id) ∧ (w6.setCell ⟨w.heap.size, 0, none⟩ x).cell? ⟨bb, 3, none⟩ = some (.int .i64 0) ∧ (w6.setCell ⟨w.heap.size, 0, none⟩ x).cell? ⟨bb, 4, none⟩ = some (.slice (some ⟨g2, 0, none⟩) 1 c2) := fun x => ⟨sc5 (by omega) kx6.1, sc5 (by omega) kx6.2.1, sc5 (by omega) kx6.2.2.1, sc5 (by omega) kx6.2.2.2.1, sc5 (by omega) kx6.2.2.2.2⟩
          refine hK.out _ _ kx6 (fun hH16 => ?_)
          clear hK KK
          try simp only [Act.put, List.setIfInBounds_toArray, List.set_cons_zero, List.set_cons_succ]
          refine wpAnyH_take (i := 6) (oi := ⟨_, _, _, _, _, _⟩) (v := ?vgf31f336) rfl (by kernel_rfl) (by kernel_rfl) (by kernel_rfl) (fun _ _ _ h => h) (Or.inl ⟨by rfl, ?ygf31f336⟩) (by assumption) ?rgf31f336
          case ygf31f336 => intro w hSw; (try dsimp only at hSw); go_simp; try with_reducible rfl
          try simp only [Act.put, List.setIfInBounds_toArray, List.set_cons_zero, List.set_cons_succ]
          refine wpAnyH_ready (rs := [7]) (by kernel_rfl) (by simp) ?_
          refine AllReadyH.cons (o := ⟨_, _, _, _, _, _⟩) rfl (fun KK hK => ?_) AllReadyH.nil
          go_simp
          refine hK.out _ _ (kx7 _) (fun hH17 => ?_)
          clear hK KK
          try simp only [Act.put, List.setIfInBounds_toArray, List.set_cons_zero, List.set_cons_succ]
          refine wpAnyH_done (by kernel_rfl) (NoPanic.normal ?_) _
          obtain ⟨u3, hu3⟩ : ∃ x, w6.setCell ⟨w.heap.size, 0, none⟩ (.slice (some ⟨gp, 0, none⟩) 1 cp) = x := ⟨_, rfl⟩
          have b4 : u3.cell? ⟨bb, 4, none⟩ = some (.slice (some ⟨g2, 0, none⟩) 1 c2) := by rw [← hu3]; exact (kx7 _).2.2.2.2
          have d0 : u3.cell? ⟨w.heap.size, 0, none⟩ = some (.slice (some ⟨gp, 0, none⟩) 1 cp) := by rw [← hu3]; simp [go_sem, x0]
          have d1 : u3.cell? ⟨w.heap.size, 1, none⟩ = some (.slice (some ⟨gl, 0, none⟩) 1 cl) := by rw [← hu3]; simp [go_sem, x1]
          have d2 : u3.cell? ⟨w.heap.size, 2, none⟩ = some (.int .i64 0) := by rw [← hu3]; simp [go_sem, x2]
          have q0' : u3.cell? ⟨w.heap.size + 1 + 1, 0, none⟩ = some (.slice none 0 0) := by rw [← hu3]; exact sc5 (by omega) q0
          have q1' : u3.cell? ⟨w.heap.size + 1 + 1, 1, none⟩ = some (.slice none 0 0) := by rw [← hu3]; exact sc5 (by omega) q1
          have q2' : u3.cell? ⟨w.heap.size + 1 + 1, 2, none⟩ = some (.int .i64 0) := by rw [← hu3]; exact sc5 (by omega) q2
          have fd : ∀ o, u3.frozen? ⟨w.heap.size, o, none⟩ = false := fun o => by rw [← hu3]; simp [go_sem, fx]
          have fe : ∀ o, u3.frozen? ⟨w.heap.size + 1 + 1, o, none⟩ = false := fun o => by rw [← hu3]; simp [go_sem, fq]
          have O1 : u3.ownsRow w.heap.size 84 4 (.slice (some ⟨gp, 0, none⟩) 1 cp) 1 [.int .i64 id, .int .i64 ep, .int .i64 1, .slice (some ⟨gw, 0, none⟩) 1 cw] := by rw [← hu3]; exact own5 (owns_mono o1 (by simp; omega)) (fun q hq => by have := o1.lt q hq; simp at this; omega)
          have O2 : u3.ownsRow w.heap.size 103 3 (.slice (some ⟨gw, 0, none⟩) 1 cw) 1 [.int .i64 0, .int .i64 1, .int .i64 0] := by rw [← hu3]; exact own5 (owns_mono o2 (by simp; omega)) (fun q hq => by have := o2.lt q hq; simp at this; omega)
          have O3 : u3.ownsRow w.heap.size 48 5 (.slice (some ⟨gl, 0, none⟩) 1 cl) 1 [.int .i64 0, .int .i64 ep, .int .i64 id, .int .i64 0, .slice (some ⟨g2, 0, none⟩) 1 c2] := by rw [← hu3]; exact own5 (owns_below oL HU6) (fun q hq => by simp [Value.ownBlock] at hq; omega)
          have cS7 : u3.cell? ⟨g2, 0, none⟩ = some (.string ⟨#[]⟩) := by rw [← hu3]; exact sc5 (by omega) (cel5 HU6 cS6)
          have hgp := (o1.lt gp rfl).1
          have hgw := (o2.lt gw rfl).1
          simp at hgp hgw
          have B7 : Below w.heap.size w u3 := by rw [← hu3]; exact (st5 B5 HU6).setCell (Nat.le_refl _) _
          rw [hu3]
          clear hu3 kx kxa kx6 kx7 n0 n1 n2 n0a m0 m1 m2 fn fm x0 x1 x2 q0 q1 q2 fx fq HU6 hB6 o1 o2 oL B5 cS6
          have d0a : ∀ x, (u3.setCell ⟨w.heap.size, 2, none⟩ x).cell? ⟨w.heap.size, 0, none⟩ = some (.slice (some ⟨gp, 0, none⟩) 1 cp) := fun x => by simp [go_sem, d0]
          have d1a : ∀ x, (u3.setCell ⟨w.heap.size, 2, none⟩ x).cell? ⟨w.heap.size, 1, none⟩ = some (.slice (some ⟨gl, 0, none⟩) 1 cl) := fun x => by simp [go_sem, d1]
          have d2a : ∀ x, (u3.setCell ⟨w.heap.size, 2, none⟩ x).cell? ⟨w.heap.size, 2, none⟩ = some x := fun x => by simp [go_sem, d2]
          have q0a : ∀ x, (u3.setCell ⟨w.heap.size, 2, none⟩ x).cell? ⟨w.heap.size + 1 + 1, 0, none⟩ = some (.slice none 0 0) := fun x => sc5 (by omega) q0'
          have q1a : ∀ x, (u3.setCell ⟨w.heap.size, 2, none⟩ x).cell? ⟨w.heap.size + 1 + 1, 1, none⟩ = some (.slice none 0 0) := fun x => sc5 (by omega) q1'
          have q2a : ∀ x, (u3.setCell ⟨w.heap.size, 2, none⟩ x).cell? ⟨w.heap.size + 1 + 1, 2, none⟩ = some (.int .i64 0) := fun x => sc5 (by omega) q2'
          have fea : ∀ x o, (u3.setCell ⟨w.heap.size, 2, none⟩ x).frozen? ⟨w.heap.size + 1 + 1, o, none⟩ = false := fun x o => by simp [go_sem, fe]
          go_wp2_with fail
          refine bodyPost_ret (v := .tuple #[.agg #[(.slice (some ⟨gp, 0, none⟩) 1 cp), .slice (some ⟨gl, 0, none⟩) 1 cl, .int .i64 1], .int .i64 0, .int .i64 0]) (by simp [results, Try.results48, go_sem, q0', q1', q2']) rfl ⟨gp, cp, gl, cl, rfl, ⟨gw, cw, g2, c2, ?_, ?_, ?_, ?_, by omega⟩, ?_⟩
          · exact (own5 (own5 (own5 (own5 O1 (fun q hq => by simp [Value.ownBlock] at hq; omega)) (fun q hq => by simp [Value.ownBlock] at hq; omega)) (fun q hq => by simp [Value.ownBlock] at hq; omega)) (fun q hq => by simp [Value.ownBlock] at hq; omega))
          · exact (own5 (own5 (own5 (own5 O2 (fun q hq => by simp [Value.ownBlock] at hq; omega)) (fun q hq => by simp [Value.ownBlock] at hq; omega)) (fun q hq => by simp [Value.ownBlock] at hq; omega)) (fun q hq => by simp [Value.ownBlock] at hq; omega))
          · exact (own5 (own5 (own5 (own5 O3 (fun q hq => by simp [Value.ownBlock] at hq; omega)) (fun q hq => by simp [Value.ownBlock] at hq; omega)) (fun q hq => by simp [Value.ownBlock] at hq; omega)) (fun q hq => by simp [Value.ownBlock] at hq; omega))
          · exact sc5 (by omega) (sc5 (by omega) (sc5 (by omega) (sc5 (by omega) cS7)))
          · exact (((B7.setCell (Nat.le_refl _) _).setCell (by show w.heap.size ≤ w.heap.size + 1 + 1; omega) _).setCell (by show w.heap.size ≤ w.heap.size + 1 + 1; omega) _).setCell (by show w.heap.size ≤ w.heap.size + 1 + 1; omega) _
        case gf31b =>
          go_simp
          refine hK.out _ _ kx (fun hHa => ?_)
          clear hK KK
          try simp only [Act.put, List.setIfInBounds_toArray, List.set_cons_zero, List.set_cons_succ]
          refine wpAnyH_ready (rs := [0]) (by kernel_rfl) (by simp) ?_
          refine AllReadyH.cons (o := ⟨_, _, _, _, _, _⟩) rfl (fun KK hK => ?_) AllReadyH.nil
          go_simp
          refine hK.out _ _ (kxa _) (fun hHb => ?_)
          clear hK KK
          try simp only [Act.put, List.setIfInBounds_toArray, List.set_cons_zero, List.set_cons_succ]
          refine wpAnyH_take (i := 3) (oi := ⟨_, _, _, _, _, _⟩) (v := ?vgf31n343) rfl (by kernel_rfl) (by kernel_rfl) (by kernel_rfl) (fun _ _ _ h => h) (Or.inl ⟨by rfl, ?ygf31n343⟩) (by assumption) ?rgf31n343
          case ygf31n343 => intro w hSw; (try dsimp only at hSw); go_simp; try with_reducible rfl
          try simp only [Act.put, List.setIfInBounds_toArray, List.set_cons_zero, List.set_cons_succ]
          refine wpAnyH_ready (rs := [5]) (by kernel_rfl) (by simp) ?_
          refine AllReadyH.cons (o := ⟨_, _, _, _, _, _⟩) rfl (fun KK hK => ?_) AllReadyH.nil
          go_simp
          go_at_call 65
          refine (l5Add_nil id ep 0 u2.heap.size g2 c2 _).mono ?_
          rintro r w6 ⟨gp, cp, gw, cw, rfl, o1, o2, hlt6, hB6⟩
          have HU6 : Below u2.heap.size u2 w6 := ((Below.refl u2.heap.size u2).alloc (Nat.le_refl _) _).drew.trans (hB6.mono (by simp))
          have l7 := HU6.size
          have kx6 : w6.cell? ⟨bb, 0, none⟩ = some (.int .i64 0) ∧ w6.cell? ⟨bb, 1, none⟩ = some (.int .i64 ep) ∧ w6.cell? ⟨bb, 2, none⟩ = some (.int .i64 id) ∧ w6.cell? ⟨bb, 3, none⟩ = some (.int .i64 0) ∧ w6.cell? ⟨bb, 4, none⟩ = some (.slice (some ⟨g2, 0, none⟩) 1 c2) := ⟨cel5 HU6 kx.1, cel5 HU6 kx.2.1, cel5 HU6 kx.2.2.1, cel5 HU6 kx.2.2.2.1, cel5 HU6 kx.2.2.2.2⟩
          have x0 : w6.cell? ⟨w.heap.size, 0, none⟩ = some (.slice none 0 0) := cel5 HU6 n0
          have x1 : w6.cell? ⟨w.heap.size, 1, none⟩ = some (.slice (some ⟨gl, 0, none⟩) 1 cl) := cel5 HU6 n1
          have x2 : w6.cell? ⟨w.heap.size, 2, none⟩ = some (.int .i64 0) := cel5 HU6 n2
          have q0 : w6.cell? ⟨w.heap.size + 1 + 1, 0, none⟩ = some (.slice none 0 0) := cel5 HU6 m0
          have q1 : w6.cell? ⟨w.heap.size + 1 + 1, 1, none⟩ = some (.slice none 0 0) := cel5 HU6 m1
          have q2 : w6.cell? ⟨w.heap.size + 1 + 1, 2, none⟩ = some (.int .i64 0) := cel5 HU6 m2
          have fx : ∀ o, w6.frozen? ⟨w.heap.size, o, none⟩ = false := fun o => fz5 HU6 (by omega) (fn o)
          have fq : ∀ o, w6.frozen? ⟨w.heap.size + 1 + 1, o, none⟩ = false := fun o => fz5 HU6 (by omega) (fm o)
          have kx7 : ∀ x, (w6.setCell ⟨w.heap.size, 0, none⟩ x).cell? ⟨bb, 0, none⟩ = some (.int .i64 0) ∧ (w6.setCell ⟨w.heap.size, 0, none⟩ x).cell? ⟨bb, 1, none⟩ = some (.int .i64 ep) ∧ (w6.setCell ⟨w.heap.size, 0, none⟩ x).cell? ⟨bb, 2, none⟩ = some (.int .i64 id) ∧ (w6.setCell ⟨w.heap.size, 0, none⟩ x).cell? ⟨bb, 3, none⟩ = some (.int .i64 0) ∧ (w6.setCell ⟨w.heap.size, 0, none⟩ x).cell? ⟨bb, 4, none⟩ = some (.slice (some ⟨g2, 0, none⟩) 1 c2) := fun x => ⟨sc5 (by omega) kx6.1, sc5 (by omega) kx6.2.1, sc5 (by omega) kx6.2.2.1, sc5 (by omega) kx6.2.2.2.1, sc5 (by omega) kx6.2.2.2.2⟩
          refine hK.out _ _ kx6 (fun hH16 => ?_)
          clear hK KK
          try simp only [Act.put, List.setIfInBounds_toArray, List.set_cons_zero, List.set_cons_succ]
          refine wpAnyH_take (i := 6) (oi := ⟨_, _, _, _, _, _⟩) (v := ?vgf31f346) rfl (by kernel_rfl) (by kernel_rfl) (by kernel_rfl) (fun _ _ _ h => h) (Or.inl ⟨by rfl, ?ygf31f346⟩) (by assumption) ?rgf31f346
          case ygf31f346 => intro w hSw; (try dsimp only at hSw); go_simp; try with_reducible rfl
          try simp only [Act.put, List.setIfInBounds_toArray, List.set_cons_zero, List.set_cons_succ]
          refine wpAnyH_ready (rs := [7]) (by kernel_rfl) (by simp) ?_
          refine AllReadyH.cons (o := ⟨_, _, _, _, _, _⟩) rfl (fun KK hK => ?_) AllReadyH.nil
          go_simp
          refine hK.out _ _ (kx7 _) (fun hH17 => ?_)
          clear hK KK
          try simp only [Act.put, List.setIfInBounds_toArray, List.set_cons_zero, List.set_cons_succ]
          refine wpAnyH_done (by kernel_rfl) (NoPanic.normal ?_) _
          obtain ⟨u3, hu3⟩ : ∃ x, w6.setCell ⟨w.heap.size, 0, none⟩ (.slice (some ⟨gp, 0, none⟩) 1 cp) = x := ⟨_, rfl⟩
          have b4 : u3.cell? ⟨bb, 4, none⟩ = some (.slice (some ⟨g2, 0, none⟩) 1 c2) := by rw [← hu3]; exact (kx7 _).2.2.2.2
          have d0 : u3.cell? ⟨w.heap.size, 0, none⟩ = some (.slice (some ⟨gp, 0, none⟩) 1 cp) := by rw [← hu3]; simp [go_sem, x0]
          have d1 : u3.cell? ⟨w.heap.size, 1, none⟩ = some (.slice (some ⟨gl, 0, none⟩) 1 cl) := by rw [← hu3]; simp [go_sem, x1]
          have d2 : u3.cell? ⟨w.heap.size, 2, none⟩ = some (.int .i64 0) := by rw [← hu3]; simp [go_sem, x2]
          have q0' : u3.cell? ⟨w.heap.size + 1 + 1, 0, none⟩ = some (.slice none 0 0) := by rw [← hu3]; exact sc5 (by omega) q0
          have q1' : u3.cell? ⟨w.heap.size + 1 + 1, 1, none⟩ = some (.slice none 0 0) := by rw [← hu3]; exact sc5 (by omega) q1
          have q2' : u3.cell? ⟨w.heap.size + 1 + 1, 2, none⟩ = some (.int .i64 0) := by rw [← hu3]; exact sc5 (by omega) q2
          have fd : ∀ o, u3.frozen? ⟨w.heap.size, o, none⟩ = false := fun o => by rw [← hu3]; simp [go_sem, fx]
          have fe : ∀ o, u3.frozen? ⟨w.heap.size + 1 + 1, o, none⟩ = false := fun o => by rw [← hu3]; simp [go_sem, fq]
          have O1 : u3.ownsRow w.heap.size 84 4 (.slice (some ⟨gp, 0, none⟩) 1 cp) 1 [.int .i64 id, .int .i64 ep, .int .i64 1, .slice (some ⟨gw, 0, none⟩) 1 cw] := by rw [← hu3]; exact own5 (owns_mono o1 (by simp; omega)) (fun q hq => by have := o1.lt q hq; simp at this; omega)
          have O2 : u3.ownsRow w.heap.size 103 3 (.slice (some ⟨gw, 0, none⟩) 1 cw) 1 [.int .i64 0, .int .i64 1, .int .i64 0] := by rw [← hu3]; exact own5 (owns_mono o2 (by simp; omega)) (fun q hq => by have := o2.lt q hq; simp at this; omega)
          have O3 : u3.ownsRow w.heap.size 48 5 (.slice (some ⟨gl, 0, none⟩) 1 cl) 1 [.int .i64 0, .int .i64 ep, .int .i64 id, .int .i64 0, .slice (some ⟨g2, 0, none⟩) 1 c2] := by rw [← hu3]; exact own5 (owns_below oL HU6) (fun q hq => by simp [Value.ownBlock] at hq; omega)
          have cS7 : u3.cell? ⟨g2, 0, none⟩ = some (.string ⟨#[]⟩) := by rw [← hu3]; exact sc5 (by omega) (cel5 HU6 cS6)
          have hgp := (o1.lt gp rfl).1
          have hgw := (o2.lt gw rfl).1
          simp at hgp hgw
          have B7 : Below w.heap.size w u3 := by rw [← hu3]; exact (st5 B5 HU6).setCell (Nat.le_refl _) _
          rw [hu3]
          clear hu3 kx kxa kx6 kx7 n0 n1 n2 n0a m0 m1 m2 fn fm x0 x1 x2 q0 q1 q2 fx fq HU6 hB6 o1 o2 oL B5 cS6
          have d0a : ∀ x, (u3.setCell ⟨w.heap.size, 2, none⟩ x).cell? ⟨w.heap.size, 0, none⟩ = some (.slice (some ⟨gp, 0, none⟩) 1 cp) := fun x => by simp [go_sem, d0]
          have d1a : ∀ x, (u3.setCell ⟨w.heap.size, 2, none⟩ x).cell? ⟨w.heap.size, 1, none⟩ = some (.slice (some ⟨gl, 0, none⟩) 1 cl) := fun x => by simp [go_sem, d1]
          have d2a : ∀ x, (u3.setCell ⟨w.heap.size, 2, none⟩ x).cell? ⟨w.heap.size, 2, none⟩ = some x := fun x => by simp [go_sem, d2]
          have q0a : ∀ x, (u3.setCell ⟨w.heap.size, 2, none⟩ x).cell? ⟨w.heap.size + 1 + 1, 0, none⟩ = some (.slice none 0 0) := fun x => sc5 (by omega) q0'
          have q1a : ∀ x, (u3.setCell ⟨w.heap.size, 2, none⟩ x).cell? ⟨w.heap.size + 1 + 1, 1, none⟩ = some (.slice none 0 0) := fun x => sc5 (by omega) q1'
          have q2a : ∀ x, (u3.setCell ⟨w.heap.size, 2, none⟩ x).cell? ⟨w.heap.size + 1 + 1, 2, none⟩ = some (.int .i64 0) := fun x => sc5 (by omega) q2'
          have fea : ∀ x o, (u3.setCell ⟨w.heap.size, 2, none⟩ x).frozen? ⟨w.heap.size + 1 + 1, o, none⟩ = false := fun x o => by simp [go_sem, fe]
          go_wp2_with fail
          refine bodyPost_ret (v := .tuple #[.agg #[(.slice (some ⟨gp, 0, none⟩) 1 cp), .slice (some ⟨gl, 0, none⟩) 1 cl, .int .i64 1], .int .i64 0, .int .i64 0]) (by simp [results, Try.results48, go_sem, q0', q1', q2']) rfl ⟨gp, cp, gl, cl, rfl, ⟨gw, cw, g2, c2, ?_, ?_, ?_, ?_, by omega⟩, ?_⟩
          · exact (own5 (own5 (own5 (own5 O1 (fun q hq => by simp [Value.ownBlock] at hq; omega)) (fun q hq => by simp [Value.ownBlock] at hq; omega)) (fun q hq => by simp [Value.ownBlock] at hq; omega)) (fun q hq => by simp [Value.ownBlock] at hq; omega))
          · exact (own5 (own5 (own5 (own5 O2 (fun q hq => by simp [Value.ownBlock] at hq; omega)) (fun q hq => by simp [Value.ownBlock] at hq; omega)) (fun q hq => by simp [Value.ownBlock] at hq; omega)) (fun q hq => by simp [Value.ownBlock] at hq; omega))
          · exact (own5 (own5 (own5 (own5 O3 (fun q hq => by simp [Value.ownBlock] at hq; omega)) (fun q hq => by simp [Value.ownBlock] at hq; omega)) (fun q hq => by simp [Value.ownBlock] at hq; omega)) (fun q hq => by simp [Value.ownBlock] at hq; omega))
          · exact sc5 (by omega) (sc5 (by omega) (sc5 (by omega) (sc5 (by omega) cS7)))
          · exact (((B7.setCell (Nat.le_refl _) _).setCell (by show w.heap.size ≤ w.heap.size + 1 + 1; omega) _).setCell (by show w.heap.size ≤ w.heap.size + 1 + 1; omega) _).setCell (by show w.heap.size ≤ w.heap.size + 1 + 1; omega) _

end Go.Proofs.Ythbhokpjedndaaa
