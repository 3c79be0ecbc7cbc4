/-
  Made by mkadd.py. A new part, the specification's side: spec.l5Add at an empty list.
-/
import Derived.Test.YthbhokpjedndaaaNewS2
import Derived.Deep.RegionHeld3
namespace Go.Proofs.Ythbhokpjedndaaa
open Go.RowKit

theorem owns_of_row {w : World} {B g : Nat} {t : TypeId} {cp : Nat} {f : Nat → Value} {v0 v1 v2 v3 : Value} (hR : w.rowIs g t (cp * 4) f) (hB : B ≤ g) (h1 : 1 ≤ cp) (hm : cp ≤ maxLen) (e0 : f 0 = v0) (e1 : f 1 = v1) (e2 : f 2 = v2) (e3 : f 3 = v3) :
    w.ownsRow B t 4 (.slice (some ⟨g, 0, none⟩) 1 cp) 1 [v0, v1, v2, v3] := by
  obtain ⟨cs, hh, hs, hc⟩ := hR
  refine ⟨rfl, .inr ⟨g, cp, cs, rfl, hB, hh, h1, hm, hs, ?_⟩⟩
  have c0 := hc 0 (by omega)
  have c1 := hc 1 (by omega)
  have c2 := hc 2 (by omega)
  have c3 := hc 3 (by omega)
  rw [e0] at c0
  rw [e1] at c1
  rw [e2] at c2
  rw [e3] at c3
  apply List.ext_getElem?
  intro i
  rw [List.getElem?_take]
  match i with
  | 0 => simpa using c0
  | 1 => simpa using c1
  | 2 => simpa using c2
  | 3 => simpa using c3
  | i + 4 => rw [if_neg (by omega)]; rfl

set_option maxRecDepth 100000 in
set_option maxHeartbeats 8000000 in
theorem l5Add_nil (id ep z : Int) (gE : Nat) (g c : Nat) (w : World) :
    Calls Try.prog 65 #[.slice (some ⟨gE, 0, none⟩) 0 0, .agg #[.int .i64 z, .int .i64 ep, .int .i64 id, .int .i64 0, .slice (some ⟨g, 0, none⟩) 1 c]] w fun r w' => ∃ gp cp gw cw, r = .returned (.slice (some ⟨gp, 0, none⟩) 1 cp) ∧
      w'.ownsRow w.heap.size 84 4 (.slice (some ⟨gp, 0, none⟩) 1 cp) 1 [.int .i64 id, .int .i64 ep, .int .i64 1, .slice (some ⟨gw, 0, none⟩) 1 cw] ∧
      w'.ownsRow w.heap.size 103 3 (.slice (some ⟨gw, 0, none⟩) 1 cw) 1 [.int .i64 0, .int .i64 1, .int .i64 z] ∧ gp < gw ∧ Below w.heap.size w w' := by
  obtain ⟨i1, hi1, hd0, hd1, hd2⟩ := info_parts Try.infoDone
  obtain ⟨i2, hi2, he0, he1, he2⟩ := info_parts Try.infoProducer
  go_enter Try.func65, Try.ntmps65
  go_wp2_with fail
  refine (l5At_nil _ _ _ _).mono ?_
  rintro r w1 ⟨rfl, hB1⟩
  have BB := st5 (al5 _ _) hB1
  have l1 := hB1.size
  simp only [World.size_alloc] at l1
  have q0 : w1.cell? ⟨w.heap.size, 0, none⟩ = some (.int .i64 z) := cel5 hB1 (by simp)
  have q1 : w1.cell? ⟨w.heap.size, 1, none⟩ = some (.int .i64 ep) := cel5 hB1 (by simp)
  have q2 : w1.cell? ⟨w.heap.size, 2, none⟩ = some (.int .i64 id) := cel5 hB1 (by simp)
  have q3 : w1.cell? ⟨w.heap.size, 3, none⟩ = some (.int .i64 0) := cel5 hB1 (by simp)
  have q4 : w1.cell? ⟨w.heap.size, 4, none⟩ = some (.slice (some ⟨g, 0, none⟩) 1 c) := cel5 hB1 (by simp)
  clear hB1
  go_wp2
  go_loopw [5] (fun i wr => i = .int .i64 0 ∧ Below w1.heap.size w1 wr) (fun _ _ => 0)
  case atStart => exact ⟨rfl, Below.refl _ _⟩
  case round =>
    obtain ⟨rfl, hBw⟩ := hrel
    replace BB := st5 BB hBw
    have l2 := hBw.size
    replace q0 : wr.cell? ⟨w.heap.size, 0, none⟩ = some (.int .i64 z) := cel5 hBw q0
    replace q1 : wr.cell? ⟨w.heap.size, 1, none⟩ = some (.int .i64 ep) := cel5 hBw q1
    replace q2 : wr.cell? ⟨w.heap.size, 2, none⟩ = some (.int .i64 id) := cel5 hBw q2
    replace q3 : wr.cell? ⟨w.heap.size, 3, none⟩ = some (.int .i64 0) := cel5 hBw q3
    replace q4 : wr.cell? ⟨w.heap.size, 4, none⟩ = some (.slice (some ⟨g, 0, none⟩) 1 c) := cel5 hBw q4
    clear hBw
    go_wp2
    go_quiet (fail)
    go_wp2_with (at_builtin; refine wpList_append_lies _ rfl _ _ 22 rfl w.heap.size 84 i2 _ 4 48 Try.underlying22 hi2 he0 he1 he2 rfl (by decide) (.slice none 0 0) 0 [] rfl (World.ownsRow_nil _ _ _ _) ⟨wr.heap.size, 0, none⟩ 1 1 [.int .i64 id, .int .i64 ep, .int .i64 0, .slice none 0 0] rfl rfl ?c1 ?c2 (by omega) ?c3 ?c4 ?c5 (wr.heap.size + 1) ?c6 ?_)
    case c1 => exact World.news_of_block (cs := #[.int .i64 id, .int .i64 ep, .int .i64 0, .slice none 0 0]) (t := 84) (fr := (0, 0)) (by first | exact (heap_alloc_new (wr.drewN _) _) | simpa using (heap_alloc_new wr _))
    case c2 => simp [Value.oneCell']
    case c3 => unfold maxLen; omega
    case c4 => omega
    case c5 => simp; omega
    case c6 => simp
    intro gp cp w4 hown4 hgrow hat4 _
    have hgp : gp = wr.heap.size + 1 := by simpa [Value.ownBlock] using hat4
    have hB4 := (Below.refl _ _).grown hgrow (Nat.le_refl _) (fun k hk => by simp [Value.ownBlock] at hk)
    have HW := st5 (st5 (below_drewN (Below.refl wr.heap.size wr) _) (al5 _ _)) hB4
    have l4 := hB4.size
    simp at l4
    subst hgp
    replace q0 : w4.cell? ⟨w.heap.size, 0, none⟩ = some (.int .i64 z) := cel5 HW q0
    replace q1 : w4.cell? ⟨w.heap.size, 1, none⟩ = some (.int .i64 ep) := cel5 HW q1
    replace q2 : w4.cell? ⟨w.heap.size, 2, none⟩ = some (.int .i64 id) := cel5 HW q2
    replace q3 : w4.cell? ⟨w.heap.size, 3, none⟩ = some (.int .i64 0) := cel5 HW q3
    replace q4 : w4.cell? ⟨w.heap.size, 4, none⟩ = some (.slice (some ⟨g, 0, none⟩) 1 c) := cel5 HW q4
    obtain ⟨gx, cx, fP, hv, hgx, hnc, hRP, hxs⟩ := row_of_ownsB hown4 (by omega)
    simp only [Value.slice.injEq, Option.some.injEq, Addr.mk.injEq] at hv
    obtain ⟨⟨rfl, -, -⟩, -, rfl⟩ := hv
    have hcp : cp ≤ maxLen := by
      obtain ⟨-, ⟨h, -⟩ | ⟨_, _, _, h, -, -, -, hc, -⟩⟩ := hown4
      · cases h
      · simp only [Value.slice.injEq] at h; obtain ⟨-, -, rfl⟩ := h; exact hc
    have hgl : wr.heap.size + 1 < w4.heap.size := hRP.lt
    have hP0 := hRP.cell (i := 0) (by omega)
    have hP1 := hRP.cell (i := 1) (by omega)
    have hP2 := hRP.cell (i := 2) (by omega)
    have hP3 := hRP.cell (i := 3) (by omega)
    have x0 := hxs 0 (by omega)
    have x1 := hxs 1 (by omega)
    have x2 := hxs 2 (by omega)
    have x3 := hxs 3 (by omega)
    simp only [List.getElem?_cons_zero, List.getElem?_cons_succ, Option.some.injEq] at x0 x1 x2 x3
    rw [← x0] at hP0
    rw [← x1] at hP1
    rw [← x2] at hP2
    rw [← x3] at hP3
    replace BB := st5 BB HW
    have HRP : Hid (w4.rowIs (wr.heap.size + 1) 84 (cp * 4) fP) := hRP
    clear hown4 hgrow hat4 hB4 HW hRP hxs x0 x1 x2 x3
    have q0a : ∀ o, (w4.alloc o).cell? ⟨w.heap.size, 0, none⟩ = some (.int .i64 z) := fun o => cel5 (al5 _ o) q0
    have q1a : ∀ o, (w4.alloc o).cell? ⟨w.heap.size, 1, none⟩ = some (.int .i64 ep) := fun o => cel5 (al5 _ o) q1
    have q2a : ∀ o, (w4.alloc o).cell? ⟨w.heap.size, 2, none⟩ = some (.int .i64 id) := fun o => cel5 (al5 _ o) q2
    have q3a : ∀ o, (w4.alloc o).cell? ⟨w.heap.size, 3, none⟩ = some (.int .i64 0) := fun o => cel5 (al5 _ o) q3
    have q4a : ∀ o, (w4.alloc o).cell? ⟨w.heap.size, 4, none⟩ = some (.slice (some ⟨g, 0, none⟩) 1 c) := fun o => cel5 (al5 _ o) q4
    go_wp2_with fail
    obtain ⟨u, hu⟩ : ∃ u, w4.alloc (.cells #[.int .i64 id, .int .i64 ep, .int .i64 0, .slice none 0 0] 84) = u := ⟨_, rfl⟩
    have y0 : u.cell? ⟨w4.heap.size, 0, none⟩ = some (.int .i64 id) := by rw [← hu]; simp [go_sem]
    have y1 : u.cell? ⟨w4.heap.size, 1, none⟩ = some (.int .i64 ep) := by rw [← hu]; simp [go_sem]
    have y2 : u.cell? ⟨w4.heap.size, 2, none⟩ = some (.int .i64 0) := by rw [← hu]; simp [go_sem]
    have y3 : u.cell? ⟨w4.heap.size, 3, none⟩ = some (.slice none 0 0) := by rw [← hu]; simp [go_sem]
    have fy : ∀ o, u.frozen? ⟨w4.heap.size, o, none⟩ = false := fun o => by rw [← hu]; simp [go_sem]
    have hU : Below w4.heap.size w4 u := by rw [← hu]; exact al5 _ _
    have lu : w4.heap.size < u.heap.size := by rw [← hu]; simp
    have q0u : u.cell? ⟨w.heap.size, 0, none⟩ = some (.int .i64 z) := by rw [← hu]; exact q0a _
    have q1u : u.cell? ⟨w.heap.size, 1, none⟩ = some (.int .i64 ep) := by rw [← hu]; exact q1a _
    have q2u : u.cell? ⟨w.heap.size, 2, none⟩ = some (.int .i64 id) := by rw [← hu]; exact q2a _
    have q3u : u.cell? ⟨w.heap.size, 3, none⟩ = some (.int .i64 0) := by rw [← hu]; exact q3a _
    have q4u : u.cell? ⟨w.heap.size, 4, none⟩ = some (.slice (some ⟨g, 0, none⟩) 1 c) := by rw [← hu]; exact q4a _
    rw [hu]
    clear hu q0a q1a q2a q3a q4a
    have kk : u.cell? ⟨w.heap.size, 0, none⟩ = some (.int .i64 z) ∧ u.cell? ⟨w.heap.size, 3, none⟩ = some (.int .i64 0) ∧ u.cell? ⟨w.heap.size, 4, none⟩ = some (.slice (some ⟨g, 0, none⟩) 1 c) := ⟨q0u, q3u, q4u⟩
    refine wp_region_noPanic ?_
    refine wp_region_held_drew (S := fun w' => w'.cell? ⟨w.heap.size, 0, none⟩ = some (.int .i64 z) ∧ w'.cell? ⟨w.heap.size, 3, none⟩ = some (.int .i64 0) ∧ w'.cell? ⟨w.heap.size, 4, none⟩ = some (.slice (some ⟨g, 0, none⟩) 1 c)) (by kernel_rfl) kk (fun hH => ?_)
    refine wpAnyH_take (i := 1) (oi := ⟨_, _, _, _, _, _⟩) (v := ?vt1) rfl (by kernel_rfl) (by kernel_rfl) (by kernel_rfl) (fun _ _ _ h => h) (Or.inl ⟨by rfl, ?yt1⟩) (by assumption) ?rt1
    case yt1 => intro w hSw; (try dsimp only at hSw); go_simp; try with_reducible rfl
    try simp only [Act.put, List.setIfInBounds_toArray, List.set_cons_zero, List.set_cons_succ]
    refine wpAnyH_take (i := 4) (oi := ⟨_, _, _, _, _, _⟩) (v := ?vt4) rfl (by kernel_rfl) (by kernel_rfl) (by kernel_rfl) (fun _ _ _ h => h) (Or.inl ⟨by rfl, ?yt4⟩) (by assumption) ?rt4
    case yt4 => intro w hSw; (try dsimp only at hSw); go_simp; try with_reducible rfl
    try simp only [Act.put, List.setIfInBounds_toArray, List.set_cons_zero, List.set_cons_succ]
    refine wpAnyH_take (i := 5) (oi := ⟨_, _, _, _, _, _⟩) (v := ?vt5) rfl (by kernel_rfl) (by kernel_rfl) (by kernel_rfl) (fun _ _ _ h => h) (Or.inl ⟨by rfl, ?yt5⟩) (by assumption) ?rt5
    case yt5 => intro w hSw; (try dsimp only at hSw); go_simp; try with_reducible rfl
    try simp only [Act.put, List.setIfInBounds_toArray, List.set_cons_zero, List.set_cons_succ]
    refine wpAnyH_take (i := 6) (oi := ⟨_, _, _, _, _, _⟩) (v := ?vt6) rfl (by kernel_rfl) (by kernel_rfl) (by kernel_rfl) (fun _ _ _ h => h) (Or.inl ⟨by rfl, ?yt6⟩) (by assumption) ?rt6
    case yt6 => intro w hSw; (try dsimp only at hSw); go_simp; try with_reducible rfl
    try simp only [Act.put, List.setIfInBounds_toArray, List.set_cons_zero, List.set_cons_succ]
    refine wpAnyH_take (i := 7) (oi := ⟨_, _, _, _, _, _⟩) (v := ?vt7) rfl (by kernel_rfl) (by kernel_rfl) (by kernel_rfl) (fun _ _ _ h => h) (Or.inl ⟨by rfl, ?yt7⟩) (by assumption) ?rt7
    case yt7 => intro w hSw; (try dsimp only at hSw); go_simp; try with_reducible rfl
    try simp only [Act.put, List.setIfInBounds_toArray, List.set_cons_zero, List.set_cons_succ]
    refine wpAnyH_take (i := 8) (oi := ⟨_, _, _, _, _, _⟩) (v := ?vt8) rfl (by kernel_rfl) (by kernel_rfl) (by kernel_rfl) (fun _ _ _ h => h) (Or.inl ⟨by rfl, ?yt8⟩) (by assumption) ?rt8
    case yt8 => intro w hSw; (try dsimp only at hSw); go_simp; try with_reducible rfl
    try simp only [Act.put, List.setIfInBounds_toArray, List.set_cons_zero, List.set_cons_succ]
    refine wpAnyH_take (i := 9) (oi := ⟨_, _, _, _, _, _⟩) (v := ?vt9) rfl (by kernel_rfl) (by kernel_rfl) (by kernel_rfl) (fun _ _ _ h => h) (Or.inl ⟨by rfl, ?yt9⟩) (by assumption) ?rt9
    case yt9 => intro w hSw; (try dsimp only at hSw); go_simp; try with_reducible rfl
    try simp only [Act.put, List.setIfInBounds_toArray, List.set_cons_zero, List.set_cons_succ]
    refine wpAnyH_take (i := 10) (oi := ⟨_, _, _, _, _, _⟩) (v := ?vt10) rfl (by kernel_rfl) (by kernel_rfl) (by kernel_rfl) (fun _ _ _ h => h) (Or.inl ⟨by rfl, ?yt10⟩) (by assumption) ?rt10
    case yt10 => intro w hSw; (try dsimp only at hSw); go_simp; try with_reducible rfl
    try simp only [Act.put, List.setIfInBounds_toArray, List.set_cons_zero, List.set_cons_succ]
    refine wpAnyH_take (i := 11) (oi := ⟨_, _, _, _, _, _⟩) (v := ?vt11) rfl (by kernel_rfl) (by kernel_rfl) (by kernel_rfl) (fun _ _ _ h => h) (Or.inl ⟨by rfl, ?yt11⟩) (by assumption) ?rt11
    case yt11 => intro w hSw; (try dsimp only at hSw); go_simp; try with_reducible rfl
    try simp only [Act.put, List.setIfInBounds_toArray, List.set_cons_zero, List.set_cons_succ]
    have kka : ∀ o, (u.alloc o).cell? ⟨w.heap.size, 0, none⟩ = some (.int .i64 z) ∧ (u.alloc o).cell? ⟨w.heap.size, 3, none⟩ = some (.int .i64 0) ∧ (u.alloc o).cell? ⟨w.heap.size, 4, none⟩ = some (.slice (some ⟨g, 0, none⟩) 1 c) := fun o => ⟨cel5 (al5 u o) kk.1, cel5 (al5 u o) kk.2.1, cel5 (al5 u o) kk.2.2⟩
    have kkb : ∀ o p, ((u.alloc o).alloc p).cell? ⟨w.heap.size, 0, none⟩ = some (.int .i64 z) ∧ ((u.alloc o).alloc p).cell? ⟨w.heap.size, 3, none⟩ = some (.int .i64 0) ∧ ((u.alloc o).alloc p).cell? ⟨w.heap.size, 4, none⟩ = some (.slice (some ⟨g, 0, none⟩) 1 c) := fun o p => ⟨cel5 (al5 (u.alloc o) p) (kka o).1, cel5 (al5 (u.alloc o) p) (kka o).2.1, cel5 (al5 (u.alloc o) p) (kka o).2.2⟩
    have y3a : ∀ o, (u.alloc o).cell? ⟨w4.heap.size, 3, none⟩ = some (.slice none 0 0) := fun o => cel5 (al5 _ o) y3
    have y3b : ∀ o p, ((u.alloc o).alloc p).cell? ⟨w4.heap.size, 3, none⟩ = some (.slice none 0 0) := fun o p => cel5 (al5 _ p) (y3a o)
    refine wpAnyH_ready (rs := [0, 2, 12]) (by kernel_rfl) (by simp) ?_
    refine (AllReadyH.cons (o := ⟨_, _, _, _, _, _⟩) rfl (fun KK hK => ?s1x0) (AllReadyH.cons (o := ⟨_, _, _, _, _, _⟩) rfl (fun KK hK => ?s1x2) (AllReadyH.cons (o := ⟨_, _, _, _, _, _⟩) rfl (fun KK hK => ?s1x12) AllReadyH.nil)))
    case s1x0 =>
      go_simp
      refine hK.out _ _ (kka _) (fun hH1 => ?_)
      clear hK KK
      try simp only [Act.put, List.setIfInBounds_toArray, List.set_cons_zero, List.set_cons_succ]
      refine wpAnyH_ready (rs := [2, 12]) (by kernel_rfl) (by simp) ?_
      refine (AllReadyH.cons (o := ⟨_, _, _, _, _, _⟩) rfl (fun KK hK => ?s2x2) (AllReadyH.cons (o := ⟨_, _, _, _, _, _⟩) rfl (fun KK hK => ?s2x12) AllReadyH.nil))
      case s2x2 =>
        go_simp
        refine hK.out _ _ (kka _) (fun hH2 => ?_)
        clear hK KK
        try simp only [Act.put, List.setIfInBounds_toArray, List.set_cons_zero, List.set_cons_succ]
        -- (0, 2)
        refine wpAnyH_take (i := 3) (oi := ⟨_, _, _, _, _, _⟩) (v := ?vn33) rfl (by kernel_rfl) (by kernel_rfl) (by kernel_rfl) (fun _ _ _ h => h) (Or.inl ⟨by rfl, ?yn33⟩) (by assumption) ?rn33
        case yn33 => intro w hSw; (try dsimp only at hSw); go_simp; try with_reducible rfl
        try simp only [Act.put, List.setIfInBounds_toArray, List.set_cons_zero, List.set_cons_succ]
        refine wpAnyH_ready (rs := [12]) (by kernel_rfl) (by simp) ?_
        refine (AllReadyH.cons (o := ⟨_, _, _, _, _, _⟩) rfl (fun KK hK => ?s3x12) AllReadyH.nil)
        case s3x12 =>
          go_simp
          refine hK.out _ _ (kkb _ _) (fun hH3 => ?_)
          clear hK KK
          try simp only [Act.put, List.setIfInBounds_toArray, List.set_cons_zero, List.set_cons_succ]
          -- (0, 2, 12)
          refine wpAnyH_ready (rs := [13]) (by kernel_rfl) (by simp) ?_
          refine AllReadyH.cons (o := ⟨_, _, _, _, _, _⟩) rfl (fun KK hK => ?_) AllReadyH.nil
          refine wp_append_lies _ _ _ 82 rfl w.heap.size 103 i1 _ 3 24 Try.underlying82 hi1 hd0 hd1 hd2 rfl (by decide) (.slice (some ⟨u.heap.size, 0, none⟩) 0 0) 0 [] rfl (owns_empty ?e0 (by omega)) ⟨u.heap.size + 1, 0, none⟩ 1 1 [.int .i64 0, .int .i64 1, .int .i64 z] rfl rfl ?e1 ?e2 (by omega) ?e3 ?e4 ?e5 (u.heap.size + 1 + 1) ?e6 ?_
          case e0 => exact ((al5 (u.alloc _) _).block u.heap.size (by simp)).trans (heap_alloc_new u _)
          case e1 => exact World.news_of_block (cs := #[.int .i64 0, .int .i64 1, .int .i64 z]) (t := 103) (fr := (0, 0)) (by have h := heap_alloc_new (u.alloc (.cells #[] 103)) (.cells #[.int .i64 0, .int .i64 1, .int .i64 z] 103); simp only [World.size_alloc] at h; exact h)
          case e2 => simp [Value.oneCell']
          case e3 => unfold maxLen; omega
          case e4 => omega
          case e5 => simp; omega
          case e6 => simp
          intro gw cw w5 hownW hgrow hat _
          have HU5 : Below u.heap.size u w5 := (((Below.refl u.heap.size u).alloc (Nat.le_refl _) _).alloc (by simp) _).drew.grown hgrow (by simp; omega) (fun k hk => by simp [Value.ownBlock] at hk; omega)
          have HOW : Hid (w5.ownsRow w.heap.size 103 3 (.slice (some ⟨gw, 0, none⟩) 1 cw) 1 [.int .i64 0, .int .i64 1, .int .i64 z]) := hownW
          have hgw : u.heap.size ≤ gw := by simp [Value.ownBlock] at hat; omega
          have kk5 : w5.cell? ⟨w.heap.size, 0, none⟩ = some (.int .i64 z) ∧ w5.cell? ⟨w.heap.size, 3, none⟩ = some (.int .i64 0) ∧ w5.cell? ⟨w.heap.size, 4, none⟩ = some (.slice (some ⟨g, 0, none⟩) 1 c) := ⟨cel5 HU5 kk.1, cel5 HU5 kk.2.1, cel5 HU5 kk.2.2⟩
          have z2 : w5.cell? ⟨w4.heap.size, 2, none⟩ = some (.int .i64 0) := cel5 HU5 y2
          have z3 : w5.cell? ⟨w4.heap.size, 3, none⟩ = some (.slice none 0 0) := cel5 HU5 y3
          have fz : ∀ o, w5.frozen? ⟨w4.heap.size, o, none⟩ = false := fun o => fz5 HU5 lu (fy o)
          have kk6 : ∀ x, (w5.setCell ⟨w4.heap.size, 3, none⟩ x).cell? ⟨w.heap.size, 0, none⟩ = some (.int .i64 z) ∧ (w5.setCell ⟨w4.heap.size, 3, none⟩ x).cell? ⟨w.heap.size, 3, none⟩ = some (.int .i64 0) ∧ (w5.setCell ⟨w4.heap.size, 3, none⟩ x).cell? ⟨w.heap.size, 4, none⟩ = some (.slice (some ⟨g, 0, none⟩) 1 c) := fun x => ⟨sc5 (by omega) kk5.1, sc5 (by omega) kk5.2.1, sc5 (by omega) kk5.2.2⟩
          clear hownW hgrow hat
          refine hK.out _ _ kk5 (fun hH13 => ?_)
          clear hK KK
          try simp only [Act.put, List.setIfInBounds_toArray, List.set_cons_zero, List.set_cons_succ]
          refine wpAnyH_take (i := 14) (oi := ⟨_, _, _, _, _, _⟩) (v := ?vf414) rfl (by kernel_rfl) (by kernel_rfl) (by kernel_rfl) (fun _ _ _ h => h) (Or.inl ⟨by rfl, ?yf414⟩) (by assumption) ?rf414
          case yf414 => intro w hSw; (try dsimp only at hSw); go_simp; try with_reducible rfl
          try simp only [Act.put, List.setIfInBounds_toArray, List.set_cons_zero, List.set_cons_succ]
          refine wpAnyH_ready (rs := [15]) (by kernel_rfl) (by simp) ?_
          refine AllReadyH.cons (o := ⟨_, _, _, _, _, _⟩) rfl (fun KK hK => ?_) AllReadyH.nil
          go_simp
          refine hK.out _ _ (kk6 _) (fun hH15 => ?_)
          clear hK KK
          try simp only [Act.put, List.setIfInBounds_toArray, List.set_cons_zero, List.set_cons_succ]
          refine wpAnyH_done (by kernel_rfl) (NoPanic.normal ?_) _
          have z0 : w5.cell? ⟨w4.heap.size, 0, none⟩ = some (.int .i64 id) := cel5 HU5 y0
          have z1 : w5.cell? ⟨w4.heap.size, 1, none⟩ = some (.int .i64 ep) := cel5 HU5 y1
          have hR5 : w5.rowIs (wr.heap.size + 1) 84 (cp * 4) fP := (HRP.out.of_block (hU.block _ hgl)).of_block (HU5.block _ (by omega))
          have g3 : ∀ x, (w5.setCell ⟨w4.heap.size, 3, none⟩ x).cell? ⟨w.heap.size, 3, none⟩ = some (.int .i64 0) := fun x => (kk6 x).2.1
          have g4 : ∀ x, (w5.setCell ⟨w4.heap.size, 3, none⟩ x).cell? ⟨w.heap.size, 4, none⟩ = some (.slice (some ⟨g, 0, none⟩) 1 c) := fun x => (kk6 x).2.2
          have s3 : ∀ x, (w5.setCell ⟨w4.heap.size, 3, none⟩ x).cell? ⟨w4.heap.size, 3, none⟩ = some x := fun x => by simp [go_sem, z3]
          have s2 : ∀ x, (w5.setCell ⟨w4.heap.size, 3, none⟩ x).cell? ⟨w4.heap.size, 2, none⟩ = some (.int .i64 0) := fun x => by simp [go_sem, z2]
          have sf : ∀ x o, (w5.setCell ⟨w4.heap.size, 3, none⟩ x).frozen? ⟨w4.heap.size, o, none⟩ = false := fun x o => by simp [go_sem, fz]
          have h0 : ∀ x y, ((w5.setCell ⟨w4.heap.size, 3, none⟩ x).setCell ⟨w4.heap.size, 2, none⟩ y).cell? ⟨w4.heap.size, 0, none⟩ = some (.int .i64 id) := fun x y => by simp [go_sem, z0]
          have h1 : ∀ x y, ((w5.setCell ⟨w4.heap.size, 3, none⟩ x).setCell ⟨w4.heap.size, 2, none⟩ y).cell? ⟨w4.heap.size, 1, none⟩ = some (.int .i64 ep) := fun x y => by simp [go_sem, z1]
          have h2 : ∀ x y, ((w5.setCell ⟨w4.heap.size, 3, none⟩ x).setCell ⟨w4.heap.size, 2, none⟩ y).cell? ⟨w4.heap.size, 2, none⟩ = some y := fun x y => by simp [go_sem, z2]
          have h3 : ∀ x y, ((w5.setCell ⟨w4.heap.size, 3, none⟩ x).setCell ⟨w4.heap.size, 2, none⟩ y).cell? ⟨w4.heap.size, 3, none⟩ = some x := fun x y => by simp [go_sem, z3]
          have rH : ∀ x y, ((w5.setCell ⟨w4.heap.size, 3, none⟩ x).setCell ⟨w4.heap.size, 2, none⟩ y).rowIs (wr.heap.size + 1) 84 (cp * 4) fP := fun x y => (hR5.of_block (Below.heap_setCell w5 ⟨w4.heap.size, 3, none⟩ x (wr.heap.size + 1) (by simp; omega))).of_block (Below.heap_setCell _ ⟨w4.heap.size, 2, none⟩ y (wr.heap.size + 1) (by simp; omega))
          have r0 : ∀ x y, ((w5.setCell ⟨w4.heap.size, 3, none⟩ x).setCell ⟨w4.heap.size, 2, none⟩ y).cell? ⟨wr.heap.size + 1, 0, none⟩ = some (fP 0) := fun x y => (rH x y).cell (by omega)
          have r1 : ∀ x y, ((w5.setCell ⟨w4.heap.size, 3, none⟩ x).setCell ⟨w4.heap.size, 2, none⟩ y).cell? ⟨wr.heap.size + 1, 1, none⟩ = some (fP 1) := fun x y => (rH x y).cell (by omega)
          have r2 : ∀ x y, ((w5.setCell ⟨w4.heap.size, 3, none⟩ x).setCell ⟨w4.heap.size, 2, none⟩ y).cell? ⟨wr.heap.size + 1, 2, none⟩ = some (fP 2) := fun x y => (rH x y).cell (by omega)
          have r3 : ∀ x y, ((w5.setCell ⟨w4.heap.size, 3, none⟩ x).setCell ⟨w4.heap.size, 2, none⟩ y).cell? ⟨wr.heap.size + 1, 3, none⟩ = some (fP 3) := fun x y => (rH x y).cell (by omega)
          have rf := fun x y => (rH x y).frozen
          have HRH : Hid (∀ x y, ((w5.setCell ⟨w4.heap.size, 3, none⟩ x).setCell ⟨w4.heap.size, 2, none⟩ y).rowIs (wr.heap.size + 1) 84 (cp * 4) fP) := rH
          have BBf : Below w.heap.size w w5 := st5 (st5 BB hU) HU5
          clear rH kk6 kk5 hR5 hU HU5 kka kkb y3a y3b z0 z1 z2 z3 HRP BB
          go_wp2_with fail
          go_ret
          refine ⟨wr.heap.size + 1, cp, gw, cw, rfl, ?_, ?_, by omega, ?_⟩
          · exact owns_of_row (((((HRH.out _ _).set _ _).set _ _).set _ _).set _ _) (by omega) hnc hcp (by simp) (by simp) (by simp) (by simp)
          · exact (own5 (own5 (own5 (own5 (own5 (own5 HOW.out (fun q hq => by simp [Value.ownBlock] at hq; omega)) (fun q hq => by simp [Value.ownBlock] at hq; omega)) (fun q hq => by simp [Value.ownBlock] at hq; omega)) (fun q hq => by simp [Value.ownBlock] at hq; omega)) (fun q hq => by simp [Value.ownBlock] at hq; omega)) (fun q hq => by simp [Value.ownBlock] at hq; omega))
          · have hs2 : ∀ (u : World) (b o : Nat) (v : Value), w.heap.size ≤ b → Below w.heap.size w u → Below w.heap.size w (u.setCell ⟨b, o, none⟩ v) := fun u b o v hb h => h.setCell hb _
            exact hs2 _ _ _ _ (by omega) (hs2 _ _ _ _ (by omega) (hs2 _ _ _ _ (by omega) (hs2 _ _ _ _ (by omega) (hs2 _ _ _ _ (by omega) (hs2 _ _ _ _ (by omega) BBf)))))
      case s2x12 =>
        go_simp
        refine hK.out _ _ (kkb _ _) (fun hH2 => ?_)
        clear hK KK
        try simp only [Act.put, List.setIfInBounds_toArray, List.set_cons_zero, List.set_cons_succ]
        refine wpAnyH_ready (rs := [2]) (by kernel_rfl) (by simp) ?_
        refine (AllReadyH.cons (o := ⟨_, _, _, _, _, _⟩) rfl (fun KK hK => ?s5x2) AllReadyH.nil)
        case s5x2 =>
          go_simp
          refine hK.out _ _ (kkb _ _) (fun hH5 => ?_)
          clear hK KK
          try simp only [Act.put, List.setIfInBounds_toArray, List.set_cons_zero, List.set_cons_succ]
          -- (0, 12, 2)
          refine wpAnyH_take (i := 3) (oi := ⟨_, _, _, _, _, _⟩) (v := ?vn63) rfl (by kernel_rfl) (by kernel_rfl) (by kernel_rfl) (fun _ _ _ h => h) (Or.inl ⟨by rfl, ?yn63⟩) (by assumption) ?rn63
          case yn63 => intro w hSw; (try dsimp only at hSw); go_simp; try with_reducible rfl
          try simp only [Act.put, List.setIfInBounds_toArray, List.set_cons_zero, List.set_cons_succ]
          refine wpAnyH_ready (rs := [13]) (by kernel_rfl) (by simp) ?_
          refine AllReadyH.cons (o := ⟨_, _, _, _, _, _⟩) rfl (fun KK hK => ?_) AllReadyH.nil
          refine wp_append_lies _ _ _ 82 rfl w.heap.size 103 i1 _ 3 24 Try.underlying82 hi1 hd0 hd1 hd2 rfl (by decide) (.slice (some ⟨u.heap.size, 0, none⟩) 0 0) 0 [] rfl (owns_empty ?e0 (by omega)) ⟨u.heap.size + 1, 0, none⟩ 1 1 [.int .i64 0, .int .i64 1, .int .i64 z] rfl rfl ?e1 ?e2 (by omega) ?e3 ?e4 ?e5 (u.heap.size + 1 + 1) ?e6 ?_
          case e0 => exact ((al5 (u.alloc _) _).block u.heap.size (by simp)).trans (heap_alloc_new u _)
          case e1 => exact World.news_of_block (cs := #[.int .i64 0, .int .i64 1, .int .i64 z]) (t := 103) (fr := (0, 0)) (by have h := heap_alloc_new (u.alloc (.cells #[] 103)) (.cells #[.int .i64 0, .int .i64 1, .int .i64 z] 103); simp only [World.size_alloc] at h; exact h)
          case e2 => simp [Value.oneCell']
          case e3 => unfold maxLen; omega
          case e4 => omega
          case e5 => simp; omega
          case e6 => simp
          intro gw cw w5 hownW hgrow hat _
          have HU5 : Below u.heap.size u w5 := (((Below.refl u.heap.size u).alloc (Nat.le_refl _) _).alloc (by simp) _).drew.grown hgrow (by simp; omega) (fun k hk => by simp [Value.ownBlock] at hk; omega)
          have HOW : Hid (w5.ownsRow w.heap.size 103 3 (.slice (some ⟨gw, 0, none⟩) 1 cw) 1 [.int .i64 0, .int .i64 1, .int .i64 z]) := hownW
          have hgw : u.heap.size ≤ gw := by simp [Value.ownBlock] at hat; omega
          have kk5 : w5.cell? ⟨w.heap.size, 0, none⟩ = some (.int .i64 z) ∧ w5.cell? ⟨w.heap.size, 3, none⟩ = some (.int .i64 0) ∧ w5.cell? ⟨w.heap.size, 4, none⟩ = some (.slice (some ⟨g, 0, none⟩) 1 c) := ⟨cel5 HU5 kk.1, cel5 HU5 kk.2.1, cel5 HU5 kk.2.2⟩
          have z2 : w5.cell? ⟨w4.heap.size, 2, none⟩ = some (.int .i64 0) := cel5 HU5 y2
          have z3 : w5.cell? ⟨w4.heap.size, 3, none⟩ = some (.slice none 0 0) := cel5 HU5 y3
          have fz : ∀ o, w5.frozen? ⟨w4.heap.size, o, none⟩ = false := fun o => fz5 HU5 lu (fy o)
          have kk6 : ∀ x, (w5.setCell ⟨w4.heap.size, 3, none⟩ x).cell? ⟨w.heap.size, 0, none⟩ = some (.int .i64 z) ∧ (w5.setCell ⟨w4.heap.size, 3, none⟩ x).cell? ⟨w.heap.size, 3, none⟩ = some (.int .i64 0) ∧ (w5.setCell ⟨w4.heap.size, 3, none⟩ x).cell? ⟨w.heap.size, 4, none⟩ = some (.slice (some ⟨g, 0, none⟩) 1 c) := fun x => ⟨sc5 (by omega) kk5.1, sc5 (by omega) kk5.2.1, sc5 (by omega) kk5.2.2⟩
          clear hownW hgrow hat
          refine hK.out _ _ kk5 (fun hH13 => ?_)
          clear hK KK
          try simp only [Act.put, List.setIfInBounds_toArray, List.set_cons_zero, List.set_cons_succ]
          refine wpAnyH_take (i := 14) (oi := ⟨_, _, _, _, _, _⟩) (v := ?vf614) rfl (by kernel_rfl) (by kernel_rfl) (by kernel_rfl) (fun _ _ _ h => h) (Or.inl ⟨by rfl, ?yf614⟩) (by assumption) ?rf614
          case yf614 => intro w hSw; (try dsimp only at hSw); go_simp; try with_reducible rfl
          try simp only [Act.put, List.setIfInBounds_toArray, List.set_cons_zero, List.set_cons_succ]
          refine wpAnyH_ready (rs := [15]) (by kernel_rfl) (by simp) ?_
          refine AllReadyH.cons (o := ⟨_, _, _, _, _, _⟩) rfl (fun KK hK => ?_) AllReadyH.nil
          go_simp
          refine hK.out _ _ (kk6 _) (fun hH15 => ?_)
          clear hK KK
          try simp only [Act.put, List.setIfInBounds_toArray, List.set_cons_zero, List.set_cons_succ]
          refine wpAnyH_done (by kernel_rfl) (NoPanic.normal ?_) _
          have z0 : w5.cell? ⟨w4.heap.size, 0, none⟩ = some (.int .i64 id) := cel5 HU5 y0
          have z1 : w5.cell? ⟨w4.heap.size, 1, none⟩ = some (.int .i64 ep) := cel5 HU5 y1
          have hR5 : w5.rowIs (wr.heap.size + 1) 84 (cp * 4) fP := (HRP.out.of_block (hU.block _ hgl)).of_block (HU5.block _ (by omega))
          have g3 : ∀ x, (w5.setCell ⟨w4.heap.size, 3, none⟩ x).cell? ⟨w.heap.size, 3, none⟩ = some (.int .i64 0) := fun x => (kk6 x).2.1
          have g4 : ∀ x, (w5.setCell ⟨w4.heap.size, 3, none⟩ x).cell? ⟨w.heap.size, 4, none⟩ = some (.slice (some ⟨g, 0, none⟩) 1 c) := fun x => (kk6 x).2.2
          have s3 : ∀ x, (w5.setCell ⟨w4.heap.size, 3, none⟩ x).cell? ⟨w4.heap.size, 3, none⟩ = some x := fun x => by simp [go_sem, z3]
          have s2 : ∀ x, (w5.setCell ⟨w4.heap.size, 3, none⟩ x).cell? ⟨w4.heap.size, 2, none⟩ = some (.int .i64 0) := fun x => by simp [go_sem, z2]
          have sf : ∀ x o, (w5.setCell ⟨w4.heap.size, 3, none⟩ x).frozen? ⟨w4.heap.size, o, none⟩ = false := fun x o => by simp [go_sem, fz]
          have h0 : ∀ x y, ((w5.setCell ⟨w4.heap.size, 3, none⟩ x).setCell ⟨w4.heap.size, 2, none⟩ y).cell? ⟨w4.heap.size, 0, none⟩ = some (.int .i64 id) := fun x y => by simp [go_sem, z0]
          have h1 : ∀ x y, ((w5.setCell ⟨w4.heap.size, 3, none⟩ x).setCell ⟨w4.heap.size, 2, none⟩ y).cell? ⟨w4.heap.size, 1, none⟩ = some (.int .i64 ep) := fun x y => by simp [go_sem, z1]
          have h2 : ∀ x y, ((w5.setCell ⟨w4.heap.size, 3, none⟩ x).setCell ⟨w4.heap.size, 2, none⟩ y).cell? ⟨w4.heap.size, 2, none⟩ = some y := fun x y => by simp [go_sem, z2]
          have h3 : ∀ x y, ((w5.setCell ⟨w4.heap.size, 3, none⟩ x).setCell ⟨w4.heap.size, 2, none⟩ y).cell? ⟨w4.heap.size, 3, none⟩ = some x := fun x y => by simp [go_sem, z3]
          have rH : ∀ x y, ((w5.setCell ⟨w4.heap.size, 3, none⟩ x).setCell ⟨w4.heap.size, 2, none⟩ y).rowIs (wr.heap.size + 1) 84 (cp * 4) fP := fun x y => (hR5.of_block (Below.heap_setCell w5 ⟨w4.heap.size, 3, none⟩ x (wr.heap.size + 1) (by simp; omega))).of_block (Below.heap_setCell _ ⟨w4.heap.size, 2, none⟩ y (wr.heap.size + 1) (by simp; omega))
          have r0 : ∀ x y, ((w5.setCell ⟨w4.heap.size, 3, none⟩ x).setCell ⟨w4.heap.size, 2, none⟩ y).cell? ⟨wr.heap.size + 1, 0, none⟩ = some (fP 0) := fun x y => (rH x y).cell (by omega)
          have r1 : ∀ x y, ((w5.setCell ⟨w4.heap.size, 3, none⟩ x).setCell ⟨w4.heap.size, 2, none⟩ y).cell? ⟨wr.heap.size + 1, 1, none⟩ = some (fP 1) := fun x y => (rH x y).cell (by omega)
          have r2 : ∀ x y, ((w5.setCell ⟨w4.heap.size, 3, none⟩ x).setCell ⟨w4.heap.size, 2, none⟩ y).cell? ⟨wr.heap.size + 1, 2, none⟩ = some (fP 2) := fun x y => (rH x y).cell (by omega)
          have r3 : ∀ x y, ((w5.setCell ⟨w4.heap.size, 3, none⟩ x).setCell ⟨w4.heap.size, 2, none⟩ y).cell? ⟨wr.heap.size + 1, 3, none⟩ = some (fP 3) := fun x y => (rH x y).cell (by omega)
          have rf := fun x y => (rH x y).frozen
          have HRH : Hid (∀ x y, ((w5.setCell ⟨w4.heap.size, 3, none⟩ x).setCell ⟨w4.heap.size, 2, none⟩ y).rowIs (wr.heap.size + 1) 84 (cp * 4) fP) := rH
          have BBf : Below w.heap.size w w5 := st5 (st5 BB hU) HU5
          clear rH kk6 kk5 hR5 hU HU5 kka kkb y3a y3b z0 z1 z2 z3 HRP BB
          go_wp2_with fail
          go_ret
          refine ⟨wr.heap.size + 1, cp, gw, cw, rfl, ?_, ?_, by omega, ?_⟩
          · exact owns_of_row (((((HRH.out _ _).set _ _).set _ _).set _ _).set _ _) (by omega) hnc hcp (by simp) (by simp) (by simp) (by simp)
          · exact (own5 (own5 (own5 (own5 (own5 (own5 HOW.out (fun q hq => by simp [Value.ownBlock] at hq; omega)) (fun q hq => by simp [Value.ownBlock] at hq; omega)) (fun q hq => by simp [Value.ownBlock] at hq; omega)) (fun q hq => by simp [Value.ownBlock] at hq; omega)) (fun q hq => by simp [Value.ownBlock] at hq; omega)) (fun q hq => by simp [Value.ownBlock] at hq; omega))
          · have hs2 : ∀ (u : World) (b o : Nat) (v : Value), w.heap.size ≤ b → Below w.heap.size w u → Below w.heap.size w (u.setCell ⟨b, o, none⟩ v) := fun u b o v hb h => h.setCell hb _
            exact hs2 _ _ _ _ (by omega) (hs2 _ _ _ _ (by omega) (hs2 _ _ _ _ (by omega) (hs2 _ _ _ _ (by omega) (hs2 _ _ _ _ (by omega) (hs2 _ _ _ _ (by omega) BBf)))))
    case s1x2 =>
      go_simp
      refine hK.out _ _ kk (fun hH1 => ?_)
      clear hK KK
      try simp only [Act.put, List.setIfInBounds_toArray, List.set_cons_zero, List.set_cons_succ]
      refine wpAnyH_ready (rs := [0, 12]) (by kernel_rfl) (by simp) ?_
      refine (AllReadyH.cons (o := ⟨_, _, _, _, _, _⟩) rfl (fun KK hK => ?s7x0) (AllReadyH.cons (o := ⟨_, _, _, _, _, _⟩) rfl (fun KK hK => ?s7x12) AllReadyH.nil))
      case s7x0 =>
        go_simp
        refine hK.out _ _ (kka _) (fun hH7 => ?_)
        clear hK KK
        try simp only [Act.put, List.setIfInBounds_toArray, List.set_cons_zero, List.set_cons_succ]
        -- (2, 0)
        refine wpAnyH_take (i := 3) (oi := ⟨_, _, _, _, _, _⟩) (v := ?vn83) rfl (by kernel_rfl) (by kernel_rfl) (by kernel_rfl) (fun _ _ _ h => h) (Or.inl ⟨by rfl, ?yn83⟩) (by assumption) ?rn83
        case yn83 => intro w hSw; (try dsimp only at hSw); go_simp; try with_reducible rfl
        try simp only [Act.put, List.setIfInBounds_toArray, List.set_cons_zero, List.set_cons_succ]
        refine wpAnyH_ready (rs := [12]) (by kernel_rfl) (by simp) ?_
        refine (AllReadyH.cons (o := ⟨_, _, _, _, _, _⟩) rfl (fun KK hK => ?s8x12) AllReadyH.nil)
        case s8x12 =>
          go_simp
          refine hK.out _ _ (kkb _ _) (fun hH8 => ?_)
          clear hK KK
          try simp only [Act.put, List.setIfInBounds_toArray, List.set_cons_zero, List.set_cons_succ]
          -- (2, 0, 12)
          refine wpAnyH_ready (rs := [13]) (by kernel_rfl) (by simp) ?_
          refine AllReadyH.cons (o := ⟨_, _, _, _, _, _⟩) rfl (fun KK hK => ?_) AllReadyH.nil
          refine wp_append_lies _ _ _ 82 rfl w.heap.size 103 i1 _ 3 24 Try.underlying82 hi1 hd0 hd1 hd2 rfl (by decide) (.slice (some ⟨u.heap.size, 0, none⟩) 0 0) 0 [] rfl (owns_empty ?e0 (by omega)) ⟨u.heap.size + 1, 0, none⟩ 1 1 [.int .i64 0, .int .i64 1, .int .i64 z] rfl rfl ?e1 ?e2 (by omega) ?e3 ?e4 ?e5 (u.heap.size + 1 + 1) ?e6 ?_
          case e0 => exact ((al5 (u.alloc _) _).block u.heap.size (by simp)).trans (heap_alloc_new u _)
          case e1 => exact World.news_of_block (cs := #[.int .i64 0, .int .i64 1, .int .i64 z]) (t := 103) (fr := (0, 0)) (by have h := heap_alloc_new (u.alloc (.cells #[] 103)) (.cells #[.int .i64 0, .int .i64 1, .int .i64 z] 103); simp only [World.size_alloc] at h; exact h)
          case e2 => simp [Value.oneCell']
          case e3 => unfold maxLen; omega
          case e4 => omega
          case e5 => simp; omega
          case e6 => simp
          intro gw cw w5 hownW hgrow hat _
          have HU5 : Below u.heap.size u w5 := (((Below.refl u.heap.size u).alloc (Nat.le_refl _) _).alloc (by simp) _).drew.grown hgrow (by simp; omega) (fun k hk => by simp [Value.ownBlock] at hk; omega)
          have HOW : Hid (w5.ownsRow w.heap.size 103 3 (.slice (some ⟨gw, 0, none⟩) 1 cw) 1 [.int .i64 0, .int .i64 1, .int .i64 z]) := hownW
          have hgw : u.heap.size ≤ gw := by simp [Value.ownBlock] at hat; omega
          have kk5 : w5.cell? ⟨w.heap.size, 0, none⟩ = some (.int .i64 z) ∧ w5.cell? ⟨w.heap.size, 3, none⟩ = some (.int .i64 0) ∧ w5.cell? ⟨w.heap.size, 4, none⟩ = some (.slice (some ⟨g, 0, none⟩) 1 c) := ⟨cel5 HU5 kk.1, cel5 HU5 kk.2.1, cel5 HU5 kk.2.2⟩
          have z2 : w5.cell? ⟨w4.heap.size, 2, none⟩ = some (.int .i64 0) := cel5 HU5 y2
          have z3 : w5.cell? ⟨w4.heap.size, 3, none⟩ = some (.slice none 0 0) := cel5 HU5 y3
          have fz : ∀ o, w5.frozen? ⟨w4.heap.size, o, none⟩ = false := fun o => fz5 HU5 lu (fy o)
          have kk6 : ∀ x, (w5.setCell ⟨w4.heap.size, 3, none⟩ x).cell? ⟨w.heap.size, 0, none⟩ = some (.int .i64 z) ∧ (w5.setCell ⟨w4.heap.size, 3, none⟩ x).cell? ⟨w.heap.size, 3, none⟩ = some (.int .i64 0) ∧ (w5.setCell ⟨w4.heap.size, 3, none⟩ x).cell? ⟨w.heap.size, 4, none⟩ = some (.slice (some ⟨g, 0, none⟩) 1 c) := fun x => ⟨sc5 (by omega) kk5.1, sc5 (by omega) kk5.2.1, sc5 (by omega) kk5.2.2⟩
          clear hownW hgrow hat
          refine hK.out _ _ kk5 (fun hH13 => ?_)
          clear hK KK
          try simp only [Act.put, List.setIfInBounds_toArray, List.set_cons_zero, List.set_cons_succ]
          refine wpAnyH_take (i := 14) (oi := ⟨_, _, _, _, _, _⟩) (v := ?vf914) rfl (by kernel_rfl) (by kernel_rfl) (by kernel_rfl) (fun _ _ _ h => h) (Or.inl ⟨by rfl, ?yf914⟩) (by assumption) ?rf914
          case yf914 => intro w hSw; (try dsimp only at hSw); go_simp; try with_reducible rfl
          try simp only [Act.put, List.setIfInBounds_toArray, List.set_cons_zero, List.set_cons_succ]
          refine wpAnyH_ready (rs := [15]) (by kernel_rfl) (by simp) ?_
          refine AllReadyH.cons (o := ⟨_, _, _, _, _, _⟩) rfl (fun KK hK => ?_) AllReadyH.nil
          go_simp
          refine hK.out _ _ (kk6 _) (fun hH15 => ?_)
          clear hK KK
          try simp only [Act.put, List.setIfInBounds_toArray, List.set_cons_zero, List.set_cons_succ]
          refine wpAnyH_done (by kernel_rfl) (NoPanic.normal ?_) _
          have z0 : w5.cell? ⟨w4.heap.size, 0, none⟩ = some (.int .i64 id) := cel5 HU5 y0
          have z1 : w5.cell? ⟨w4.heap.size, 1, none⟩ = some (.int .i64 ep) := cel5 HU5 y1
          have hR5 : w5.rowIs (wr.heap.size + 1) 84 (cp * 4) fP := (HRP.out.of_block (hU.block _ hgl)).of_block (HU5.block _ (by omega))
          have g3 : ∀ x, (w5.setCell ⟨w4.heap.size, 3, none⟩ x).cell? ⟨w.heap.size, 3, none⟩ = some (.int .i64 0) := fun x => (kk6 x).2.1
          have g4 : ∀ x, (w5.setCell ⟨w4.heap.size, 3, none⟩ x).cell? ⟨w.heap.size, 4, none⟩ = some (.slice (some ⟨g, 0, none⟩) 1 c) := fun x => (kk6 x).2.2
          have s3 : ∀ x, (w5.setCell ⟨w4.heap.size, 3, none⟩ x).cell? ⟨w4.heap.size, 3, none⟩ = some x := fun x => by simp [go_sem, z3]
          have s2 : ∀ x, (w5.setCell ⟨w4.heap.size, 3, none⟩ x).cell? ⟨w4.heap.size, 2, none⟩ = some (.int .i64 0) := fun x => by simp [go_sem, z2]
          have sf : ∀ x o, (w5.setCell ⟨w4.heap.size, 3, none⟩ x).frozen? ⟨w4.heap.size, o, none⟩ = false := fun x o => by simp [go_sem, fz]
          have h0 : ∀ x y, ((w5.setCell ⟨w4.heap.size, 3, none⟩ x).setCell ⟨w4.heap.size, 2, none⟩ y).cell? ⟨w4.heap.size, 0, none⟩ = some (.int .i64 id) := fun x y => by simp [go_sem, z0]
          have h1 : ∀ x y, ((w5.setCell ⟨w4.heap.size, 3, none⟩ x).setCell ⟨w4.heap.size, 2, none⟩ y).cell? ⟨w4.heap.size, 1, none⟩ = some (.int .i64 ep) := fun x y => by simp [go_sem, z1]
          have h2 : ∀ x y, ((w5.setCell ⟨w4.heap.size, 3, none⟩ x).setCell ⟨w4.heap.size, 2, none⟩ y).cell? ⟨w4.heap.size, 2, none⟩ = some y := fun x y => by simp [go_sem, z2]
          have h3 : ∀ x y, ((w5.setCell ⟨w4.heap.size, 3, none⟩ x).setCell ⟨w4.heap.size, 2, none⟩ y).cell? ⟨w4.heap.size, 3, none⟩ = some x := fun x y => by simp [go_sem, z3]
          have rH : ∀ x y, ((w5.setCell ⟨w4.heap.size, 3, none⟩ x).setCell ⟨w4.heap.size, 2, none⟩ y).rowIs (wr.heap.size + 1) 84 (cp * 4) fP := fun x y => (hR5.of_block (Below.heap_setCell w5 ⟨w4.heap.size, 3, none⟩ x (wr.heap.size + 1) (by simp; omega))).of_block (Below.heap_setCell _ ⟨w4.heap.size, 2, none⟩ y (wr.heap.size + 1) (by simp; omega))
          have r0 : ∀ x y, ((w5.setCell ⟨w4.heap.size, 3, none⟩ x).setCell ⟨w4.heap.size, 2, none⟩ y).cell? ⟨wr.heap.size + 1, 0, none⟩ = some (fP 0) := fun x y => (rH x y).cell (by omega)
          have r1 : ∀ x y, ((w5.setCell ⟨w4.heap.size, 3, none⟩ x).setCell ⟨w4.heap.size, 2, none⟩ y).cell? ⟨wr.heap.size + 1, 1, none⟩ = some (fP 1) := fun x y => (rH x y).cell (by omega)
          have r2 : ∀ x y, ((w5.setCell ⟨w4.heap.size, 3, none⟩ x).setCell ⟨w4.heap.size, 2, none⟩ y).cell? ⟨wr.heap.size + 1, 2, none⟩ = some (fP 2) := fun x y => (rH x y).cell (by omega)
          have r3 : ∀ x y, ((w5.setCell ⟨w4.heap.size, 3, none⟩ x).setCell ⟨w4.heap.size, 2, none⟩ y).cell? ⟨wr.heap.size + 1, 3, none⟩ = some (fP 3) := fun x y => (rH x y).cell (by omega)
          have rf := fun x y => (rH x y).frozen
          have HRH : Hid (∀ x y, ((w5.setCell ⟨w4.heap.size, 3, none⟩ x).setCell ⟨w4.heap.size, 2, none⟩ y).rowIs (wr.heap.size + 1) 84 (cp * 4) fP) := rH
          have BBf : Below w.heap.size w w5 := st5 (st5 BB hU) HU5
          clear rH kk6 kk5 hR5 hU HU5 kka kkb y3a y3b z0 z1 z2 z3 HRP BB
          go_wp2_with fail
          go_ret
          refine ⟨wr.heap.size + 1, cp, gw, cw, rfl, ?_, ?_, by omega, ?_⟩
          · exact owns_of_row (((((HRH.out _ _).set _ _).set _ _).set _ _).set _ _) (by omega) hnc hcp (by simp) (by simp) (by simp) (by simp)
          · exact (own5 (own5 (own5 (own5 (own5 (own5 HOW.out (fun q hq => by simp [Value.ownBlock] at hq; omega)) (fun q hq => by simp [Value.ownBlock] at hq; omega)) (fun q hq => by simp [Value.ownBlock] at hq; omega)) (fun q hq => by simp [Value.ownBlock] at hq; omega)) (fun q hq => by simp [Value.ownBlock] at hq; omega)) (fun q hq => by simp [Value.ownBlock] at hq; omega))
          · have hs2 : ∀ (u : World) (b o : Nat) (v : Value), w.heap.size ≤ b → Below w.heap.size w u → Below w.heap.size w (u.setCell ⟨b, o, none⟩ v) := fun u b o v hb h => h.setCell hb _
            exact hs2 _ _ _ _ (by omega) (hs2 _ _ _ _ (by omega) (hs2 _ _ _ _ (by omega) (hs2 _ _ _ _ (by omega) (hs2 _ _ _ _ (by omega) (hs2 _ _ _ _ (by omega) BBf)))))
      case s7x12 =>
        go_simp
        refine hK.out _ _ (kka _) (fun hH7 => ?_)
        clear hK KK
        try simp only [Act.put, List.setIfInBounds_toArray, List.set_cons_zero, List.set_cons_succ]
        refine wpAnyH_ready (rs := [0]) (by kernel_rfl) (by simp) ?_
        refine (AllReadyH.cons (o := ⟨_, _, _, _, _, _⟩) rfl (fun KK hK => ?s10x0) AllReadyH.nil)
        case s10x0 =>
          go_simp
          refine hK.out _ _ (kkb _ _) (fun hH10 => ?_)
          clear hK KK
          try simp only [Act.put, List.setIfInBounds_toArray, List.set_cons_zero, List.set_cons_succ]
          -- (2, 12, 0)
          refine wpAnyH_take (i := 3) (oi := ⟨_, _, _, _, _, _⟩) (v := ?vn113) rfl (by kernel_rfl) (by kernel_rfl) (by kernel_rfl) (fun _ _ _ h => h) (Or.inl ⟨by rfl, ?yn113⟩) (by assumption) ?rn113
          case yn113 => intro w hSw; (try dsimp only at hSw); go_simp; try with_reducible rfl
          try simp only [Act.put, List.setIfInBounds_toArray, List.set_cons_zero, List.set_cons_succ]
          refine wpAnyH_ready (rs := [13]) (by kernel_rfl) (by simp) ?_
          refine AllReadyH.cons (o := ⟨_, _, _, _, _, _⟩) rfl (fun KK hK => ?_) AllReadyH.nil
          refine wp_append_lies _ _ _ 82 rfl w.heap.size 103 i1 _ 3 24 Try.underlying82 hi1 hd0 hd1 hd2 rfl (by decide) (.slice (some ⟨u.heap.size + 1, 0, none⟩) 0 0) 0 [] rfl (owns_empty ?e0 (by omega)) ⟨u.heap.size, 0, none⟩ 1 1 [.int .i64 0, .int .i64 1, .int .i64 z] rfl rfl ?e1 ?e2 (by omega) ?e3 ?e4 ?e5 (u.heap.size + 1 + 1) ?e6 ?_
          case e0 => (have h := heap_alloc_new (u.alloc (.cells #[.int .i64 0, .int .i64 1, .int .i64 z] 103)) (.cells #[] 103); simp only [World.size_alloc] at h; exact h)
          case e1 => exact World.news_of_block (cs := #[.int .i64 0, .int .i64 1, .int .i64 z]) (t := 103) (fr := (0, 0)) (by exact ((al5 (u.alloc _) _).block u.heap.size (by simp)).trans (heap_alloc_new u _))
          case e2 => simp [Value.oneCell']
          case e3 => unfold maxLen; omega
          case e4 => omega
          case e5 => simp; omega
          case e6 => simp
          intro gw cw w5 hownW hgrow hat _
          have HU5 : Below u.heap.size u w5 := (((Below.refl u.heap.size u).alloc (Nat.le_refl _) _).alloc (by simp) _).drew.grown hgrow (by simp; omega) (fun k hk => by simp [Value.ownBlock] at hk; omega)
          have HOW : Hid (w5.ownsRow w.heap.size 103 3 (.slice (some ⟨gw, 0, none⟩) 1 cw) 1 [.int .i64 0, .int .i64 1, .int .i64 z]) := hownW
          have hgw : u.heap.size ≤ gw := by simp [Value.ownBlock] at hat; omega
          have kk5 : w5.cell? ⟨w.heap.size, 0, none⟩ = some (.int .i64 z) ∧ w5.cell? ⟨w.heap.size, 3, none⟩ = some (.int .i64 0) ∧ w5.cell? ⟨w.heap.size, 4, none⟩ = some (.slice (some ⟨g, 0, none⟩) 1 c) := ⟨cel5 HU5 kk.1, cel5 HU5 kk.2.1, cel5 HU5 kk.2.2⟩
          have z2 : w5.cell? ⟨w4.heap.size, 2, none⟩ = some (.int .i64 0) := cel5 HU5 y2
          have z3 : w5.cell? ⟨w4.heap.size, 3, none⟩ = some (.slice none 0 0) := cel5 HU5 y3
          have fz : ∀ o, w5.frozen? ⟨w4.heap.size, o, none⟩ = false := fun o => fz5 HU5 lu (fy o)
          have kk6 : ∀ x, (w5.setCell ⟨w4.heap.size, 3, none⟩ x).cell? ⟨w.heap.size, 0, none⟩ = some (.int .i64 z) ∧ (w5.setCell ⟨w4.heap.size, 3, none⟩ x).cell? ⟨w.heap.size, 3, none⟩ = some (.int .i64 0) ∧ (w5.setCell ⟨w4.heap.size, 3, none⟩ x).cell? ⟨w.heap.size, 4, none⟩ = some (.slice (some ⟨g, 0, none⟩) 1 c) := fun x => ⟨sc5 (by omega) kk5.1, sc5 (by omega) kk5.2.1, sc5 (by omega) kk5.2.2⟩
          clear hownW hgrow hat
          refine hK.out _ _ kk5 (fun hH13 => ?_)
          clear hK KK
          try simp only [Act.put, List.setIfInBounds_toArray, List.set_cons_zero, List.set_cons_succ]
          refine wpAnyH_take (i := 14) (oi := ⟨_, _, _, _, _, _⟩) (v := ?vf1114) rfl (by kernel_rfl) (by kernel_rfl) (by kernel_rfl) (fun _ _ _ h => h) (Or.inl ⟨by rfl, ?yf1114⟩) (by assumption) ?rf1114
          case yf1114 => intro w hSw; (try dsimp only at hSw); go_simp; try with_reducible rfl
          try simp only [Act.put, List.setIfInBounds_toArray, List.set_cons_zero, List.set_cons_succ]
          refine wpAnyH_ready (rs := [15]) (by kernel_rfl) (by simp) ?_
          refine AllReadyH.cons (o := ⟨_, _, _, _, _, _⟩) rfl (fun KK hK => ?_) AllReadyH.nil
          go_simp
          refine hK.out _ _ (kk6 _) (fun hH15 => ?_)
          clear hK KK
          try simp only [Act.put, List.setIfInBounds_toArray, List.set_cons_zero, List.set_cons_succ]
          refine wpAnyH_done (by kernel_rfl) (NoPanic.normal ?_) _
          have z0 : w5.cell? ⟨w4.heap.size, 0, none⟩ = some (.int .i64 id) := cel5 HU5 y0
          have z1 : w5.cell? ⟨w4.heap.size, 1, none⟩ = some (.int .i64 ep) := cel5 HU5 y1
          have hR5 : w5.rowIs (wr.heap.size + 1) 84 (cp * 4) fP := (HRP.out.of_block (hU.block _ hgl)).of_block (HU5.block _ (by omega))
          have g3 : ∀ x, (w5.setCell ⟨w4.heap.size, 3, none⟩ x).cell? ⟨w.heap.size, 3, none⟩ = some (.int .i64 0) := fun x => (kk6 x).2.1
          have g4 : ∀ x, (w5.setCell ⟨w4.heap.size, 3, none⟩ x).cell? ⟨w.heap.size, 4, none⟩ = some (.slice (some ⟨g, 0, none⟩) 1 c) := fun x => (kk6 x).2.2
          have s3 : ∀ x, (w5.setCell ⟨w4.heap.size, 3, none⟩ x).cell? ⟨w4.heap.size, 3, none⟩ = some x := fun x => by simp [go_sem, z3]
          have s2 : ∀ x, (w5.setCell ⟨w4.heap.size, 3, none⟩ x).cell? ⟨w4.heap.size, 2, none⟩ = some (.int .i64 0) := fun x => by simp [go_sem, z2]
          have sf : ∀ x o, (w5.setCell ⟨w4.heap.size, 3, none⟩ x).frozen? ⟨w4.heap.size, o, none⟩ = false := fun x o => by simp [go_sem, fz]
          have h0 : ∀ x y, ((w5.setCell ⟨w4.heap.size, 3, none⟩ x).setCell ⟨w4.heap.size, 2, none⟩ y).cell? ⟨w4.heap.size, 0, none⟩ = some (.int .i64 id) := fun x y => by simp [go_sem, z0]
          have h1 : ∀ x y, ((w5.setCell ⟨w4.heap.size, 3, none⟩ x).setCell ⟨w4.heap.size, 2, none⟩ y).cell? ⟨w4.heap.size, 1, none⟩ = some (.int .i64 ep) := fun x y => by simp [go_sem, z1]
          have h2 : ∀ x y, ((w5.setCell ⟨w4.heap.size, 3, none⟩ x).setCell ⟨w4.heap.size, 2, none⟩ y).cell? ⟨w4.heap.size, 2, none⟩ = some y := fun x y => by simp [go_sem, z2]
          have h3 : ∀ x y, ((w5.setCell ⟨w4.heap.size, 3, none⟩ x).setCell ⟨w4.heap.size, 2, none⟩ y).cell? ⟨w4.heap.size, 3, none⟩ = some x := fun x y => by simp [go_sem, z3]
          have rH : ∀ x y, ((w5.setCell ⟨w4.heap.size, 3, none⟩ x).setCell ⟨w4.heap.size, 2, none⟩ y).rowIs (wr.heap.size + 1) 84 (cp * 4) fP := fun x y => (hR5.of_block (Below.heap_setCell w5 ⟨w4.heap.size, 3, none⟩ x (wr.heap.size + 1) (by simp; omega))).of_block (Below.heap_setCell _ ⟨w4.heap.size, 2, none⟩ y (wr.heap.size + 1) (by simp; omega))
          have r0 : ∀ x y, ((w5.setCell ⟨w4.heap.size, 3, none⟩ x).setCell ⟨w4.heap.size, 2, none⟩ y).cell? ⟨wr.heap.size + 1, 0, none⟩ = some (fP 0) := fun x y => (rH x y).cell (by omega)
          have r1 : ∀ x y, ((w5.setCell ⟨w4.heap.size, 3, none⟩ x).setCell ⟨w4.heap.size, 2, none⟩ y).cell? ⟨wr.heap.size + 1, 1, none⟩ = some (fP 1) := fun x y => (rH x y).cell (by omega)
          have r2 : ∀ x y, ((w5.setCell ⟨w4.heap.size, 3, none⟩ x).setCell ⟨w4.heap.size, 2, none⟩ y).cell? ⟨wr.heap.size + 1, 2, none⟩ = some (fP 2) := fun x y => (rH x y).cell (by omega)
          have r3 : ∀ x y, ((w5.setCell ⟨w4.heap.size, 3, none⟩ x).setCell ⟨w4.heap.size, 2, none⟩ y).cell? ⟨wr.heap.size + 1, 3, none⟩ = some (fP 3) := fun x y => (rH x y).cell (by omega)
          have rf := fun x y => (rH x y).frozen
          have HRH : Hid (∀ x y, ((w5.setCell ⟨w4.heap.size, 3, none⟩ x).setCell ⟨w4.heap.size, 2, none⟩ y).rowIs (wr.heap.size + 1) 84 (cp * 4) fP) := rH
          have BBf : Below w.heap.size w w5 := st5 (st5 BB hU) HU5
          clear rH kk6 kk5 hR5 hU HU5 kka kkb y3a y3b z0 z1 z2 z3 HRP BB
          go_wp2_with fail
          go_ret
          refine ⟨wr.heap.size + 1, cp, gw, cw, rfl, ?_, ?_, by omega, ?_⟩
          · exact owns_of_row (((((HRH.out _ _).set _ _).set _ _).set _ _).set _ _) (by omega) hnc hcp (by simp) (by simp) (by simp) (by simp)
          · exact (own5 (own5 (own5 (own5 (own5 (own5 HOW.out (fun q hq => by simp [Value.ownBlock] at hq; omega)) (fun q hq => by simp [Value.ownBlock] at hq; omega)) (fun q hq => by simp [Value.ownBlock] at hq; omega)) (fun q hq => by simp [Value.ownBlock] at hq; omega)) (fun q hq => by simp [Value.ownBlock] at hq; omega)) (fun q hq => by simp [Value.ownBlock] at hq; omega))
          · have hs2 : ∀ (u : World) (b o : Nat) (v : Value), w.heap.size ≤ b → Below w.heap.size w u → Below w.heap.size w (u.setCell ⟨b, o, none⟩ v) := fun u b o v hb h => h.setCell hb _
            exact hs2 _ _ _ _ (by omega) (hs2 _ _ _ _ (by omega) (hs2 _ _ _ _ (by omega) (hs2 _ _ _ _ (by omega) (hs2 _ _ _ _ (by omega) (hs2 _ _ _ _ (by omega) BBf)))))
    case s1x12 =>
      go_simp
      refine hK.out _ _ (kka _) (fun hH1 => ?_)
      clear hK KK
      try simp only [Act.put, List.setIfInBounds_toArray, List.set_cons_zero, List.set_cons_succ]
      refine wpAnyH_ready (rs := [0, 2]) (by kernel_rfl) (by simp) ?_
      refine (AllReadyH.cons (o := ⟨_, _, _, _, _, _⟩) rfl (fun KK hK => ?s12x0) (AllReadyH.cons (o := ⟨_, _, _, _, _, _⟩) rfl (fun KK hK => ?s12x2) AllReadyH.nil))
      case s12x0 =>
        go_simp
        refine hK.out _ _ (kkb _ _) (fun hH12 => ?_)
        clear hK KK
        try simp only [Act.put, List.setIfInBounds_toArray, List.set_cons_zero, List.set_cons_succ]
        refine wpAnyH_ready (rs := [2]) (by kernel_rfl) (by simp) ?_
        refine (AllReadyH.cons (o := ⟨_, _, _, _, _, _⟩) rfl (fun KK hK => ?s13x2) AllReadyH.nil)
        case s13x2 =>
          go_simp
          refine hK.out _ _ (kkb _ _) (fun hH13 => ?_)
          clear hK KK
          try simp only [Act.put, List.setIfInBounds_toArray, List.set_cons_zero, List.set_cons_succ]
          -- (12, 0, 2)
          refine wpAnyH_take (i := 3) (oi := ⟨_, _, _, _, _, _⟩) (v := ?vn143) rfl (by kernel_rfl) (by kernel_rfl) (by kernel_rfl) (fun _ _ _ h => h) (Or.inl ⟨by rfl, ?yn143⟩) (by assumption) ?rn143
          case yn143 => intro w hSw; (try dsimp only at hSw); go_simp; try with_reducible rfl
          try simp only [Act.put, List.setIfInBounds_toArray, List.set_cons_zero, List.set_cons_succ]
          refine wpAnyH_ready (rs := [13]) (by kernel_rfl) (by simp) ?_
          refine AllReadyH.cons (o := ⟨_, _, _, _, _, _⟩) rfl (fun KK hK => ?_) AllReadyH.nil
          refine wp_append_lies _ _ _ 82 rfl w.heap.size 103 i1 _ 3 24 Try.underlying82 hi1 hd0 hd1 hd2 rfl (by decide) (.slice (some ⟨u.heap.size + 1, 0, none⟩) 0 0) 0 [] rfl (owns_empty ?e0 (by omega)) ⟨u.heap.size, 0, none⟩ 1 1 [.int .i64 0, .int .i64 1, .int .i64 z] rfl rfl ?e1 ?e2 (by omega) ?e3 ?e4 ?e5 (u.heap.size + 1 + 1) ?e6 ?_
          case e0 => (have h := heap_alloc_new (u.alloc (.cells #[.int .i64 0, .int .i64 1, .int .i64 z] 103)) (.cells #[] 103); simp only [World.size_alloc] at h; exact h)
          case e1 => exact World.news_of_block (cs := #[.int .i64 0, .int .i64 1, .int .i64 z]) (t := 103) (fr := (0, 0)) (by exact ((al5 (u.alloc _) _).block u.heap.size (by simp)).trans (heap_alloc_new u _))
          case e2 => simp [Value.oneCell']
          case e3 => unfold maxLen; omega
          case e4 => omega
          case e5 => simp; omega
          case e6 => simp
          intro gw cw w5 hownW hgrow hat _
          have HU5 : Below u.heap.size u w5 := (((Below.refl u.heap.size u).alloc (Nat.le_refl _) _).alloc (by simp) _).drew.grown hgrow (by simp; omega) (fun k hk => by simp [Value.ownBlock] at hk; omega)
          have HOW : Hid (w5.ownsRow w.heap.size 103 3 (.slice (some ⟨gw, 0, none⟩) 1 cw) 1 [.int .i64 0, .int .i64 1, .int .i64 z]) := hownW
          have hgw : u.heap.size ≤ gw := by simp [Value.ownBlock] at hat; omega
          have kk5 : w5.cell? ⟨w.heap.size, 0, none⟩ = some (.int .i64 z) ∧ w5.cell? ⟨w.heap.size, 3, none⟩ = some (.int .i64 0) ∧ w5.cell? ⟨w.heap.size, 4, none⟩ = some (.slice (some ⟨g, 0, none⟩) 1 c) := ⟨cel5 HU5 kk.1, cel5 HU5 kk.2.1, cel5 HU5 kk.2.2⟩
          have z2 : w5.cell? ⟨w4.heap.size, 2, none⟩ = some (.int .i64 0) := cel5 HU5 y2
          have z3 : w5.cell? ⟨w4.heap.size, 3, none⟩ = some (.slice none 0 0) := cel5 HU5 y3
          have fz : ∀ o, w5.frozen? ⟨w4.heap.size, o, none⟩ = false := fun o => fz5 HU5 lu (fy o)
          have kk6 : ∀ x, (w5.setCell ⟨w4.heap.size, 3, none⟩ x).cell? ⟨w.heap.size, 0, none⟩ = some (.int .i64 z) ∧ (w5.setCell ⟨w4.heap.size, 3, none⟩ x).cell? ⟨w.heap.size, 3, none⟩ = some (.int .i64 0) ∧ (w5.setCell ⟨w4.heap.size, 3, none⟩ x).cell? ⟨w.heap.size, 4, none⟩ = some (.slice (some ⟨g, 0, none⟩) 1 c) := fun x => ⟨sc5 (by omega) kk5.1, sc5 (by omega) kk5.2.1, sc5 (by omega) kk5.2.2⟩
          clear hownW hgrow hat
          refine hK.out _ _ kk5 (fun hH13 => ?_)
          clear hK KK
          try simp only [Act.put, List.setIfInBounds_toArray, List.set_cons_zero, List.set_cons_succ]
          refine wpAnyH_take (i := 14) (oi := ⟨_, _, _, _, _, _⟩) (v := ?vf1414) rfl (by kernel_rfl) (by kernel_rfl) (by kernel_rfl) (fun _ _ _ h => h) (Or.inl ⟨by rfl, ?yf1414⟩) (by assumption) ?rf1414
          case yf1414 => intro w hSw; (try dsimp only at hSw); go_simp; try with_reducible rfl
          try simp only [Act.put, List.setIfInBounds_toArray, List.set_cons_zero, List.set_cons_succ]
          refine wpAnyH_ready (rs := [15]) (by kernel_rfl) (by simp) ?_
          refine AllReadyH.cons (o := ⟨_, _, _, _, _, _⟩) rfl (fun KK hK => ?_) AllReadyH.nil
          go_simp
          refine hK.out _ _ (kk6 _) (fun hH15 => ?_)
          clear hK KK
          try simp only [Act.put, List.setIfInBounds_toArray, List.set_cons_zero, List.set_cons_succ]
          refine wpAnyH_done (by kernel_rfl) (NoPanic.normal ?_) _
          have z0 : w5.cell? ⟨w4.heap.size, 0, none⟩ = some (.int .i64 id) := cel5 HU5 y0
          have z1 : w5.cell? ⟨w4.heap.size, 1, none⟩ = some (.int .i64 ep) := cel5 HU5 y1
          have hR5 : w5.rowIs (wr.heap.size + 1) 84 (cp * 4) fP := (HRP.out.of_block (hU.block _ hgl)).of_block (HU5.block _ (by omega))
          have g3 : ∀ x, (w5.setCell ⟨w4.heap.size, 3, none⟩ x).cell? ⟨w.heap.size, 3, none⟩ = some (.int .i64 0) := fun x => (kk6 x).2.1
          have g4 : ∀ x, (w5.setCell ⟨w4.heap.size, 3, none⟩ x).cell? ⟨w.heap.size, 4, none⟩ = some (.slice (some ⟨g, 0, none⟩) 1 c) := fun x => (kk6 x).2.2
          have s3 : ∀ x, (w5.setCell ⟨w4.heap.size, 3, none⟩ x).cell? ⟨w4.heap.size, 3, none⟩ = some x := fun x => by simp [go_sem, z3]
          have s2 : ∀ x, (w5.setCell ⟨w4.heap.size, 3, none⟩ x).cell? ⟨w4.heap.size, 2, none⟩ = some (.int .i64 0) := fun x => by simp [go_sem, z2]
          have sf : ∀ x o, (w5.setCell ⟨w4.heap.size, 3, none⟩ x).frozen? ⟨w4.heap.size, o, none⟩ = false := fun x o => by simp [go_sem, fz]
          have h0 : ∀ x y, ((w5.setCell ⟨w4.heap.size, 3, none⟩ x).setCell ⟨w4.heap.size, 2, none⟩ y).cell? ⟨w4.heap.size, 0, none⟩ = some (.int .i64 id) := fun x y => by simp [go_sem, z0]
          have h1 : ∀ x y, ((w5.setCell ⟨w4.heap.size, 3, none⟩ x).setCell ⟨w4.heap.size, 2, none⟩ y).cell? ⟨w4.heap.size, 1, none⟩ = some (.int .i64 ep) := fun x y => by simp [go_sem, z1]
          have h2 : ∀ x y, ((w5.setCell ⟨w4.heap.size, 3, none⟩ x).setCell ⟨w4.heap.size, 2, none⟩ y).cell? ⟨w4.heap.size, 2, none⟩ = some y := fun x y => by simp [go_sem, z2]
          have h3 : ∀ x y, ((w5.setCell ⟨w4.heap.size, 3, none⟩ x).setCell ⟨w4.heap.size, 2, none⟩ y).cell? ⟨w4.heap.size, 3, none⟩ = some x := fun x y => by simp [go_sem, z3]
          have rH : ∀ x y, ((w5.setCell ⟨w4.heap.size, 3, none⟩ x).setCell ⟨w4.heap.size, 2, none⟩ y).rowIs (wr.heap.size + 1) 84 (cp * 4) fP := fun x y => (hR5.of_block (Below.heap_setCell w5 ⟨w4.heap.size, 3, none⟩ x (wr.heap.size + 1) (by simp; omega))).of_block (Below.heap_setCell _ ⟨w4.heap.size, 2, none⟩ y (wr.heap.size + 1) (by simp; omega))
          have r0 : ∀ x y, ((w5.setCell ⟨w4.heap.size, 3, none⟩ x).setCell ⟨w4.heap.size, 2, none⟩ y).cell? ⟨wr.heap.size + 1, 0, none⟩ = some (fP 0) := fun x y => (rH x y).cell (by omega)
          have r1 : ∀ x y, ((w5.setCell ⟨w4.heap.size, 3, none⟩ x).setCell ⟨w4.heap.size, 2, none⟩ y).cell? ⟨wr.heap.size + 1, 1, none⟩ = some (fP 1) := fun x y => (rH x y).cell (by omega)
          have r2 : ∀ x y, ((w5.setCell ⟨w4.heap.size, 3, none⟩ x).setCell ⟨w4.heap.size, 2, none⟩ y).cell? ⟨wr.heap.size + 1, 2, none⟩ = some (fP 2) := fun x y => (rH x y).cell (by omega)
          have r3 : ∀ x y, ((w5.setCell ⟨w4.heap.size, 3, none⟩ x).setCell ⟨w4.heap.size, 2, none⟩ y).cell? ⟨wr.heap.size + 1, 3, none⟩ = some (fP 3) := fun x y => (rH x y).cell (by omega)
          have rf := fun x y => (rH x y).frozen
          have HRH : Hid (∀ x y, ((w5.setCell ⟨w4.heap.size, 3, none⟩ x).setCell ⟨w4.heap.size, 2, none⟩ y).rowIs (wr.heap.size + 1) 84 (cp * 4) fP) := rH
          have BBf : Below w.heap.size w w5 := st5 (st5 BB hU) HU5
          clear rH kk6 kk5 hR5 hU HU5 kka kkb y3a y3b z0 z1 z2 z3 HRP BB
          go_wp2_with fail
          go_ret
          refine ⟨wr.heap.size + 1, cp, gw, cw, rfl, ?_, ?_, by omega, ?_⟩
          · exact owns_of_row (((((HRH.out _ _).set _ _).set _ _).set _ _).set _ _) (by omega) hnc hcp (by simp) (by simp) (by simp) (by simp)
          · exact (own5 (own5 (own5 (own5 (own5 (own5 HOW.out (fun q hq => by simp [Value.ownBlock] at hq; omega)) (fun q hq => by simp [Value.ownBlock] at hq; omega)) (fun q hq => by simp [Value.ownBlock] at hq; omega)) (fun q hq => by simp [Value.ownBlock] at hq; omega)) (fun q hq => by simp [Value.ownBlock] at hq; omega)) (fun q hq => by simp [Value.ownBlock] at hq; omega))
          · have hs2 : ∀ (u : World) (b o : Nat) (v : Value), w.heap.size ≤ b → Below w.heap.size w u → Below w.heap.size w (u.setCell ⟨b, o, none⟩ v) := fun u b o v hb h => h.setCell hb _
            exact hs2 _ _ _ _ (by omega) (hs2 _ _ _ _ (by omega) (hs2 _ _ _ _ (by omega) (hs2 _ _ _ _ (by omega) (hs2 _ _ _ _ (by omega) (hs2 _ _ _ _ (by omega) BBf)))))
      case s12x2 =>
        go_simp
        refine hK.out _ _ (kka _) (fun hH12 => ?_)
        clear hK KK
        try simp only [Act.put, List.setIfInBounds_toArray, List.set_cons_zero, List.set_cons_succ]
        refine wpAnyH_ready (rs := [0]) (by kernel_rfl) (by simp) ?_
        refine (AllReadyH.cons (o := ⟨_, _, _, _, _, _⟩) rfl (fun KK hK => ?s15x0) AllReadyH.nil)
        case s15x0 =>
          go_simp
          refine hK.out _ _ (kkb _ _) (fun hH15 => ?_)
          clear hK KK
          try simp only [Act.put, List.setIfInBounds_toArray, List.set_cons_zero, List.set_cons_succ]
          -- (12, 2, 0)
          refine wpAnyH_take (i := 3) (oi := ⟨_, _, _, _, _, _⟩) (v := ?vn163) rfl (by kernel_rfl) (by kernel_rfl) (by kernel_rfl) (fun _ _ _ h => h) (Or.inl ⟨by rfl, ?yn163⟩) (by assumption) ?rn163
          case yn163 => intro w hSw; (try dsimp only at hSw); go_simp; try with_reducible rfl
          try simp only [Act.put, List.setIfInBounds_toArray, List.set_cons_zero, List.set_cons_succ]
          refine wpAnyH_ready (rs := [13]) (by kernel_rfl) (by simp) ?_
          refine AllReadyH.cons (o := ⟨_, _, _, _, _, _⟩) rfl (fun KK hK => ?_) AllReadyH.nil
          refine wp_append_lies _ _ _ 82 rfl w.heap.size 103 i1 _ 3 24 Try.underlying82 hi1 hd0 hd1 hd2 rfl (by decide) (.slice (some ⟨u.heap.size + 1, 0, none⟩) 0 0) 0 [] rfl (owns_empty ?e0 (by omega)) ⟨u.heap.size, 0, none⟩ 1 1 [.int .i64 0, .int .i64 1, .int .i64 z] rfl rfl ?e1 ?e2 (by omega) ?e3 ?e4 ?e5 (u.heap.size + 1 + 1) ?e6 ?_
          case e0 => (have h := heap_alloc_new (u.alloc (.cells #[.int .i64 0, .int .i64 1, .int .i64 z] 103)) (.cells #[] 103); simp only [World.size_alloc] at h; exact h)
          case e1 => exact World.news_of_block (cs := #[.int .i64 0, .int .i64 1, .int .i64 z]) (t := 103) (fr := (0, 0)) (by exact ((al5 (u.alloc _) _).block u.heap.size (by simp)).trans (heap_alloc_new u _))
          case e2 => simp [Value.oneCell']
          case e3 => unfold maxLen; omega
          case e4 => omega
          case e5 => simp; omega
          case e6 => simp
          intro gw cw w5 hownW hgrow hat _
          have HU5 : Below u.heap.size u w5 := (((Below.refl u.heap.size u).alloc (Nat.le_refl _) _).alloc (by simp) _).drew.grown hgrow (by simp; omega) (fun k hk => by simp [Value.ownBlock] at hk; omega)
          have HOW : Hid (w5.ownsRow w.heap.size 103 3 (.slice (some ⟨gw, 0, none⟩) 1 cw) 1 [.int .i64 0, .int .i64 1, .int .i64 z]) := hownW
          have hgw : u.heap.size ≤ gw := by simp [Value.ownBlock] at hat; omega
          have kk5 : w5.cell? ⟨w.heap.size, 0, none⟩ = some (.int .i64 z) ∧ w5.cell? ⟨w.heap.size, 3, none⟩ = some (.int .i64 0) ∧ w5.cell? ⟨w.heap.size, 4, none⟩ = some (.slice (some ⟨g, 0, none⟩) 1 c) := ⟨cel5 HU5 kk.1, cel5 HU5 kk.2.1, cel5 HU5 kk.2.2⟩
          have z2 : w5.cell? ⟨w4.heap.size, 2, none⟩ = some (.int .i64 0) := cel5 HU5 y2
          have z3 : w5.cell? ⟨w4.heap.size, 3, none⟩ = some (.slice none 0 0) := cel5 HU5 y3
          have fz : ∀ o, w5.frozen? ⟨w4.heap.size, o, none⟩ = false := fun o => fz5 HU5 lu (fy o)
          have kk6 : ∀ x, (w5.setCell ⟨w4.heap.size, 3, none⟩ x).cell? ⟨w.heap.size, 0, none⟩ = some (.int .i64 z) ∧ (w5.setCell ⟨w4.heap.size, 3, none⟩ x).cell? ⟨w.heap.size, 3, none⟩ = some (.int .i64 0) ∧ (w5.setCell ⟨w4.heap.size, 3, none⟩ x).cell? ⟨w.heap.size, 4, none⟩ = some (.slice (some ⟨g, 0, none⟩) 1 c) := fun x => ⟨sc5 (by omega) kk5.1, sc5 (by omega) kk5.2.1, sc5 (by omega) kk5.2.2⟩
          clear hownW hgrow hat
          refine hK.out _ _ kk5 (fun hH13 => ?_)
          clear hK KK
          try simp only [Act.put, List.setIfInBounds_toArray, List.set_cons_zero, List.set_cons_succ]
          refine wpAnyH_take (i := 14) (oi := ⟨_, _, _, _, _, _⟩) (v := ?vf1614) rfl (by kernel_rfl) (by kernel_rfl) (by kernel_rfl) (fun _ _ _ h => h) (Or.inl ⟨by rfl, ?yf1614⟩) (by assumption) ?rf1614
          case yf1614 => intro w hSw; (try dsimp only at hSw); go_simp; try with_reducible rfl
          try simp only [Act.put, List.setIfInBounds_toArray, List.set_cons_zero, List.set_cons_succ]
          refine wpAnyH_ready (rs := [15]) (by kernel_rfl) (by simp) ?_
          refine AllReadyH.cons (o := ⟨_, _, _, _, _, _⟩) rfl (fun KK hK => ?_) AllReadyH.nil
          go_simp
          refine hK.out _ _ (kk6 _) (fun hH15 => ?_)
          clear hK KK
          try simp only [Act.put, List.setIfInBounds_toArray, List.set_cons_zero, List.set_cons_succ]
          refine wpAnyH_done (by kernel_rfl) (NoPanic.normal ?_) _
          have z0 : w5.cell? ⟨w4.heap.size, 0, none⟩ = some (.int .i64 id) := cel5 HU5 y0
          have z1 : w5.cell? ⟨w4.heap.size, 1, none⟩ = some (.int .i64 ep) := cel5 HU5 y1
          have hR5 : w5.rowIs (wr.heap.size + 1) 84 (cp * 4) fP := (HRP.out.of_block (hU.block _ hgl)).of_block (HU5.block _ (by omega))
          have g3 : ∀ x, (w5.setCell ⟨w4.heap.size, 3, none⟩ x).cell? ⟨w.heap.size, 3, none⟩ = some (.int .i64 0) := fun x => (kk6 x).2.1
          have g4 : ∀ x, (w5.setCell ⟨w4.heap.size, 3, none⟩ x).cell? ⟨w.heap.size, 4, none⟩ = some (.slice (some ⟨g, 0, none⟩) 1 c) := fun x => (kk6 x).2.2
          have s3 : ∀ x, (w5.setCell ⟨w4.heap.size, 3, none⟩ x).cell? ⟨w4.heap.size, 3, none⟩ = some x := fun x => by simp [go_sem, z3]
          have s2 : ∀ x, (w5.setCell ⟨w4.heap.size, 3, none⟩ x).cell? ⟨w4.heap.size, 2, none⟩ = some (.int .i64 0) := fun x => by simp [go_sem, z2]
          have sf : ∀ x o, (w5.setCell ⟨w4.heap.size, 3, none⟩ x).frozen? ⟨w4.heap.size, o, none⟩ = false := fun x o => by simp [go_sem, fz]
          have h0 : ∀ x y, ((w5.setCell ⟨w4.heap.size, 3, none⟩ x).setCell ⟨w4.heap.size, 2, none⟩ y).cell? ⟨w4.heap.size, 0, none⟩ = some (.int .i64 id) := fun x y => by simp [go_sem, z0]
          have h1 : ∀ x y, ((w5.setCell ⟨w4.heap.size, 3, none⟩ x).setCell ⟨w4.heap.size, 2, none⟩ y).cell? ⟨w4.heap.size, 1, none⟩ = some (.int .i64 ep) := fun x y => by simp [go_sem, z1]
          have h2 : ∀ x y, ((w5.setCell ⟨w4.heap.size, 3, none⟩ x).setCell ⟨w4.heap.size, 2, none⟩ y).cell? ⟨w4.heap.size, 2, none⟩ = some y := fun x y => by simp [go_sem, z2]
          have h3 : ∀ x y, ((w5.setCell ⟨w4.heap.size, 3, none⟩ x).setCell ⟨w4.heap.size, 2, none⟩ y).cell? ⟨w4.heap.size, 3, none⟩ = some x := fun x y => by simp [go_sem, z3]
          have rH : ∀ x y, ((w5.setCell ⟨w4.heap.size, 3, none⟩ x).setCell ⟨w4.heap.size, 2, none⟩ y).rowIs (wr.heap.size + 1) 84 (cp * 4) fP := fun x y => (hR5.of_block (Below.heap_setCell w5 ⟨w4.heap.size, 3, none⟩ x (wr.heap.size + 1) (by simp; omega))).of_block (Below.heap_setCell _ ⟨w4.heap.size, 2, none⟩ y (wr.heap.size + 1) (by simp; omega))
          have r0 : ∀ x y, ((w5.setCell ⟨w4.heap.size, 3, none⟩ x).setCell ⟨w4.heap.size, 2, none⟩ y).cell? ⟨wr.heap.size + 1, 0, none⟩ = some (fP 0) := fun x y => (rH x y).cell (by omega)
          have r1 : ∀ x y, ((w5.setCell ⟨w4.heap.size, 3, none⟩ x).setCell ⟨w4.heap.size, 2, none⟩ y).cell? ⟨wr.heap.size + 1, 1, none⟩ = some (fP 1) := fun x y => (rH x y).cell (by omega)
          have r2 : ∀ x y, ((w5.setCell ⟨w4.heap.size, 3, none⟩ x).setCell ⟨w4.heap.size, 2, none⟩ y).cell? ⟨wr.heap.size + 1, 2, none⟩ = some (fP 2) := fun x y => (rH x y).cell (by omega)
          have r3 : ∀ x y, ((w5.setCell ⟨w4.heap.size, 3, none⟩ x).setCell ⟨w4.heap.size, 2, none⟩ y).cell? ⟨wr.heap.size + 1, 3, none⟩ = some (fP 3) := fun x y => (rH x y).cell (by omega)
          have rf := fun x y => (rH x y).frozen
          have HRH : Hid (∀ x y, ((w5.setCell ⟨w4.heap.size, 3, none⟩ x).setCell ⟨w4.heap.size, 2, none⟩ y).rowIs (wr.heap.size + 1) 84 (cp * 4) fP) := rH
          have BBf : Below w.heap.size w w5 := st5 (st5 BB hU) HU5
          clear rH kk6 kk5 hR5 hU HU5 kka kkb y3a y3b z0 z1 z2 z3 HRP BB
          go_wp2_with fail
          go_ret
          refine ⟨wr.heap.size + 1, cp, gw, cw, rfl, ?_, ?_, by omega, ?_⟩
          · exact owns_of_row (((((HRH.out _ _).set _ _).set _ _).set _ _).set _ _) (by omega) hnc hcp (by simp) (by simp) (by simp) (by simp)
          · exact (own5 (own5 (own5 (own5 (own5 (own5 HOW.out (fun q hq => by simp [Value.ownBlock] at hq; omega)) (fun q hq => by simp [Value.ownBlock] at hq; omega)) (fun q hq => by simp [Value.ownBlock] at hq; omega)) (fun q hq => by simp [Value.ownBlock] at hq; omega)) (fun q hq => by simp [Value.ownBlock] at hq; omega)) (fun q hq => by simp [Value.ownBlock] at hq; omega))
          · have hs2 : ∀ (u : World) (b o : Nat) (v : Value), w.heap.size ≤ b → Below w.heap.size w u → Below w.heap.size w (u.setCell ⟨b, o, none⟩ v) := fun u b o v hb h => h.setCell hb _
            exact hs2 _ _ _ _ (by omega) (hs2 _ _ _ _ (by omega) (hs2 _ _ _ _ (by omega) (hs2 _ _ _ _ (by omega) (hs2 _ _ _ _ (by omega) (hs2 _ _ _ _ (by omega) BBf)))))

end Go.Proofs.Ythbhokpjedndaaa
