/-
  The least order, the program's side: impl.leastOrder, OrderFor, IsLinear, IsSequential. Made by mkhii6.py.
-/
import Derived.Test.YtmbfdonefpegeaaDoorHiGf
import Derived.Test.YtmbfdonefpegeaaDoorQSt
import Derived.Test.YtmbfdonefpegeaaDoorHiF2J
namespace Go.Proofs.YtmbfdonefpegeaaDoor
open Go.RowKit

open Go.Instr in
theorem run_store_funcH (P : Program) (w : World) (a : Addr) (f : Fn) (ts bs : Array Value) (m : Mode) : (store a (.func f ts bs) m).run P w = stored P w a (.func f ts bs) m := run_store P w a _ m rfl
attribute [local go_sem] run_store_funcH

theorem stTo_all : ∀ n, n < 8 → mem7 (stTo 0 1 n) = List.range n ∧ stTo 0 1 n < 128 := by decide +kernel
theorem gone_start (l : List Cl) (h : l.length ≤ 7) : gone l [] (stTo 0 1 l.length) l.length := by
  obtain ⟨h1, h2⟩ := stTo_all l.length (by omega)
  exact ⟨h2, by rw [h1, List.length_range], fun k => by rw [h1, List.mem_range]; simp⟩

set_option maxRecDepth 100000 in
set_option maxHeartbeats 8000000 in
theorem leastf_any (a : Option Addr) (c : Nat) (l : List Cl) (w : World) (hs : Cls w a l) (hT : TabQ w) (hg : goodCl l = true) (b : Bool) (hb : decide ((fndL l false).length = l.length) = b) :
    Calls Tryd.prog 27 #[.slice a l.length c, (.func (.func 25) #[] #[])] w fun e w' => ∃ a' c', e = .returned (.tuple #[.slice a' (if b = true then fndL l false else []).length c', .bool b]) ∧ Ints w' a' (if b = true then fndL l false else []) ∧ RowI w' w.heap.size a' (if b = true then fndL l false else []).length ∧ Below w.heap.size w w' := by
  have h7 := (goodCl_t hg).2
  obtain ⟨u, hu⟩ : ∃ u, ((((w.alloc (.cells #[.slice a l.length c] 23)).alloc (.cells #[(.func (.func 25) #[] #[])] 58)).alloc (.cells #[.slice none 0 0] 24)).alloc (.cells #[goV w.heap.size] 75)) = u := ⟨_, rfl⟩
  have bU : Below w.heap.size w u := by rw [← hu]; exact stHi (stHi (stHi (alHi _ _) (alHi _ _)) (alHi _ _)) (alHi _ _)
  have hst : GoSt u w.heap.size (.func (.func 25) #[] #[]) a c l [] (.slice none 0 0) := by
    refine ⟨by rw [← hu]; simp [go_sem], by rw [← hu]; simp [go_sem], by rw [← hu]; simp [go_sem], by rw [← hu]; simpa using (Boxed.new ((w.alloc _).alloc _) 24 (.slice none 0 0)).alloc _, World.ownsRow_nil _ _ _ _, fun w' h' => hs.below (bU.trans h'), hT.bel bU, hT.lt, by rw [← hu]; simp⟩
  have BD : Below u.heap.size u u.drew := (Below.refl _ _).drew
  have kk : u.drew.cell? ⟨w.heap.size + 3, 0, none⟩ = some (goV w.heap.size) ∧ u.drew.cell? ⟨w.heap.size, 0, none⟩ = some (.slice a l.length c) := ⟨celB BD hst.cg, celB BD hst.cl⟩
  have hcg := hst.cg
  have hcl := hst.cl
  have HC := gof_any l a c w.heap.size hg l.length
  have hgo := gone_start l h7
  have hls : lgTo l [] ([] : List Int).length = some [0, 0, 0] := rfl
  by_cases hRR : (fndL l false).length = l.length
  · have hR : Hid ((findL l false l.length []).length = l.length) := hRR
    rw [decide_eq_true hRR] at hb
    subst hb
    clear hRR
    go_enter Tryd.func27, Tryd.ntmps27
    go_wp2_with fail
    try rw [hu]
    refine wp_region_noPanic ?_
    refine wp_region_held_drew (S := fun w' => w'.cell? ⟨w.heap.size + 3, 0, none⟩ = some (goV w.heap.size) ∧ w'.cell? ⟨w.heap.size, 0, none⟩ = some (.slice a l.length c)) (by kernel_rfl) kk (fun hH => ?_)
    refine wpAnyH_take (i := 0) (oi := ⟨_, _, _, _, _, _⟩) (v := ?vy0) rfl (by kernel_rfl) (by kernel_rfl) (by kernel_rfl) (fun _ _ _ h => h) (Or.inl ⟨by rfl, ?yy0⟩) (by assumption) ?ry0
    case yy0 => intro w hSw; (try dsimp only at hSw); go_simp; try with_reducible rfl
    try simp only [Act.put, List.setIfInBounds_toArray, List.set_cons_zero, List.set_cons_succ]
    refine wpAnyH_take (i := 1) (oi := ⟨_, _, _, _, _, _⟩) (v := ?vy1) rfl (by kernel_rfl) (by kernel_rfl) (by kernel_rfl) (fun _ _ _ h => h) (Or.inl ⟨by rfl, ?yy1⟩) (by assumption) ?ry1
    case yy1 => intro w hSw; (try dsimp only at hSw); go_simp; try with_reducible rfl
    try simp only [Act.put, List.setIfInBounds_toArray, List.set_cons_zero, List.set_cons_succ]
    refine wpAnyH_take (i := 2) (oi := ⟨_, _, _, _, _, _⟩) (v := ?vy2) rfl (by kernel_rfl) (by kernel_rfl) (by kernel_rfl) (fun _ _ _ h => h) (Or.inl ⟨by rfl, ?yy2⟩) (by assumption) ?ry2
    case yy2 => intro w hSw; (try dsimp only at hSw); go_simp; try with_reducible rfl
    try simp only [Act.put, List.setIfInBounds_toArray, List.set_cons_zero, List.set_cons_succ]
    refine wpAnyH_take (i := 4) (oi := ⟨_, _, _, _, _, _⟩) (v := ?vy4) rfl (by kernel_rfl) (by kernel_rfl) (by kernel_rfl) (fun _ _ _ h => h) (Or.inl ⟨by rfl, ?yy4⟩) (by assumption) ?ry4
    case yy4 => intro w hSw; (try dsimp only at hSw); go_simp; try with_reducible rfl
    try simp only [Act.put, List.setIfInBounds_toArray, List.set_cons_zero, List.set_cons_succ]
    refine wpAnyH_ready (rs := [3]) (by kernel_rfl) (by simp) ?_
    refine AllReadyH.cons (o := ⟨_, _, _, _, _, _⟩) rfl (fun KK hK => ?_) AllReadyH.nil
    go_simp
    refine (inSteps_any 0 1 l.length h7 (by omega) (by omega) (fun k hk => by omega) _).mono ?_
    rintro e9 W1 ⟨rfl, hBk⟩
    have kk1 : W1.cell? ⟨w.heap.size + 3, 0, none⟩ = some (goV w.heap.size) ∧ W1.cell? ⟨w.heap.size, 0, none⟩ = some (.slice a l.length c) := (by obtain ⟨t0, t1⟩ := kk; exact ⟨celB hBk t0, celB hBk t1⟩)
    have BE := stHi BD hBk
    clear hBk
    go_wp2_with fail
    refine hK.out _ _ kk1 (fun hH3 => ?_)
    clear hK KK hH
    try simp only [Act.put, List.setIfInBounds_toArray, List.set_cons_zero, List.set_cons_succ]
    refine wpAnyH_ready (rs := [5]) (by kernel_rfl) (by simp) ?_
    refine AllReadyH.cons (o := ⟨_, _, _, _, _, _⟩) rfl (fun KK hK => ?_) AllReadyH.nil
    go_simp
    have H5 := hst.bel BE
    refine (HC (stTo 0 1 l.length) [] 0 0 0 _ W1 H5 hgo hls (by simp)).mono ?_
    rintro e9 W3 hA
    obtain ⟨v6, rfl, H6, B6, K6, O6⟩ := hA.yes_of hR.out
    have kk3 : W3.cell? ⟨w.heap.size + 3, 0, none⟩ = some (goV w.heap.size) ∧ W3.cell? ⟨w.heap.size, 0, none⟩ = some (.slice a l.length c) := ⟨H6.cg, H6.cl⟩
    go_wp2_with fail
    refine hK.out _ _ kk3 (fun hH5 => ?_)
    clear hK KK hH3
    try simp only [Act.put, List.setIfInBounds_toArray, List.set_cons_zero, List.set_cons_succ]
    refine wpAnyH_take (i := 6) (oi := ⟨_, _, _, _, _, _⟩) (v := ?vy6) rfl (by kernel_rfl) (by kernel_rfl) (by kernel_rfl) (fun _ _ _ h => h) (Or.inl ⟨by rfl, ?yy6⟩) (by assumption) ?ry6
    case yy6 => intro w hSw; (try dsimp only at hSw); go_simp; try with_reducible rfl
    try simp only [Act.put, List.setIfInBounds_toArray, List.set_cons_zero, List.set_cons_succ]
    refine wpAnyH_done (by kernel_rfl) (NoPanic.normal ?_) _
    have B7 : Below w.heap.size w W3 := (bU.trans ((BE.mono (by have := hst.sz; omega)))).trans B6
    obtain ⟨a6, c6, rfl⟩ := ownsZ_form H6.own
    have hI := ints_of_owns H6.own
    have hco := H6.co.cell
    clear hu H6 B6 K6 O6 kk kk1 kk3 BE
    go_wp2
    refine bodyPost_ret (v := .tuple #[.slice a6 (fndL l false).length c6, .bool true]) (by simp [results, Tryd.results27, go_sem]; first | done | rfl) rfl ?_
    first | exact ⟨a6, c6, rfl, hI.1, hI.2.mono (by omega), B7⟩ | exact ⟨a6, ⟨c6, rfl⟩, hI.1, hI.2.mono (by omega), B7⟩
  · have hR : Hid (¬ (findL l false l.length []).length = l.length) := hRR
    rw [decide_eq_false hRR] at hb
    subst hb
    clear hRR
    go_enter Tryd.func27, Tryd.ntmps27
    go_wp2_with fail
    try rw [hu]
    refine wp_region_noPanic ?_
    refine wp_region_held_drew (S := fun w' => w'.cell? ⟨w.heap.size + 3, 0, none⟩ = some (goV w.heap.size) ∧ w'.cell? ⟨w.heap.size, 0, none⟩ = some (.slice a l.length c)) (by kernel_rfl) kk (fun hH => ?_)
    refine wpAnyH_take (i := 0) (oi := ⟨_, _, _, _, _, _⟩) (v := ?vn0) rfl (by kernel_rfl) (by kernel_rfl) (by kernel_rfl) (fun _ _ _ h => h) (Or.inl ⟨by rfl, ?yn0⟩) (by assumption) ?rn0
    case yn0 => intro w hSw; (try dsimp only at hSw); go_simp; try with_reducible rfl
    try simp only [Act.put, List.setIfInBounds_toArray, List.set_cons_zero, List.set_cons_succ]
    refine wpAnyH_take (i := 1) (oi := ⟨_, _, _, _, _, _⟩) (v := ?vn1) rfl (by kernel_rfl) (by kernel_rfl) (by kernel_rfl) (fun _ _ _ h => h) (Or.inl ⟨by rfl, ?yn1⟩) (by assumption) ?rn1
    case yn1 => intro w hSw; (try dsimp only at hSw); go_simp; try with_reducible rfl
    try simp only [Act.put, List.setIfInBounds_toArray, List.set_cons_zero, List.set_cons_succ]
    refine wpAnyH_take (i := 2) (oi := ⟨_, _, _, _, _, _⟩) (v := ?vn2) rfl (by kernel_rfl) (by kernel_rfl) (by kernel_rfl) (fun _ _ _ h => h) (Or.inl ⟨by rfl, ?yn2⟩) (by assumption) ?rn2
    case yn2 => intro w hSw; (try dsimp only at hSw); go_simp; try with_reducible rfl
    try simp only [Act.put, List.setIfInBounds_toArray, List.set_cons_zero, List.set_cons_succ]
    refine wpAnyH_take (i := 4) (oi := ⟨_, _, _, _, _, _⟩) (v := ?vn4) rfl (by kernel_rfl) (by kernel_rfl) (by kernel_rfl) (fun _ _ _ h => h) (Or.inl ⟨by rfl, ?yn4⟩) (by assumption) ?rn4
    case yn4 => intro w hSw; (try dsimp only at hSw); go_simp; try with_reducible rfl
    try simp only [Act.put, List.setIfInBounds_toArray, List.set_cons_zero, List.set_cons_succ]
    refine wpAnyH_ready (rs := [3]) (by kernel_rfl) (by simp) ?_
    refine AllReadyH.cons (o := ⟨_, _, _, _, _, _⟩) rfl (fun KK hK => ?_) AllReadyH.nil
    go_simp
    refine (inSteps_any 0 1 l.length h7 (by omega) (by omega) (fun k hk => by omega) _).mono ?_
    rintro e9 W1 ⟨rfl, hBk⟩
    have kk1 : W1.cell? ⟨w.heap.size + 3, 0, none⟩ = some (goV w.heap.size) ∧ W1.cell? ⟨w.heap.size, 0, none⟩ = some (.slice a l.length c) := (by obtain ⟨t0, t1⟩ := kk; exact ⟨celB hBk t0, celB hBk t1⟩)
    have BE := stHi BD hBk
    clear hBk
    go_wp2_with fail
    refine hK.out _ _ kk1 (fun hH3 => ?_)
    clear hK KK hH
    try simp only [Act.put, List.setIfInBounds_toArray, List.set_cons_zero, List.set_cons_succ]
    refine wpAnyH_ready (rs := [5]) (by kernel_rfl) (by simp) ?_
    refine AllReadyH.cons (o := ⟨_, _, _, _, _, _⟩) rfl (fun KK hK => ?_) AllReadyH.nil
    go_simp
    have H5 := hst.bel BE
    refine (HC (stTo 0 1 l.length) [] 0 0 0 _ W1 H5 hgo hls (by simp)).mono ?_
    rintro e9 W3 hA
    obtain ⟨v6, he, H6, B6, K6, O6⟩ := hA
    rw [decide_eq_false hR.out] at he
    subst he
    rw [if_neg hR.out] at H6
    have kk3 : W3.cell? ⟨w.heap.size + 3, 0, none⟩ = some (goV w.heap.size) ∧ W3.cell? ⟨w.heap.size, 0, none⟩ = some (.slice a l.length c) := ⟨H6.cg, H6.cl⟩
    go_wp2_with fail
    refine hK.out _ _ kk3 (fun hH5 => ?_)
    clear hK KK hH3
    try simp only [Act.put, List.setIfInBounds_toArray, List.set_cons_zero, List.set_cons_succ]
    refine wpAnyH_take (i := 6) (oi := ⟨_, _, _, _, _, _⟩) (v := ?vn6) rfl (by kernel_rfl) (by kernel_rfl) (by kernel_rfl) (fun _ _ _ h => h) (Or.inl ⟨by rfl, ?yn6⟩) (by assumption) ?rn6
    case yn6 => intro w hSw; (try dsimp only at hSw); go_simp; try with_reducible rfl
    try simp only [Act.put, List.setIfInBounds_toArray, List.set_cons_zero, List.set_cons_succ]
    refine wpAnyH_done (by kernel_rfl) (NoPanic.normal ?_) _
    have B7 : Below w.heap.size w W3 := (bU.trans ((BE.mono (by have := hst.sz; omega)))).trans B6
    clear hu H6 B6 K6 O6 kk kk1 kk3 BE
    go_wp2
    refine bodyPost_ret (v := .tuple #[.slice none 0 0, .bool false]) (by simp [results, Tryd.results27, go_sem]) rfl ?_
    first | exact ⟨none, 0, rfl, Ints.nil _ _, .inl rfl, B7⟩ | exact ⟨none, ⟨0, rfl⟩, Ints.nil _ _, .inl rfl, B7⟩

theorem ordFor_good {l : List Cl} {b : Bool} (hg : goodCl l = true) (hb : decide ((fndL l false).length = l.length) = b) : ordForB l = b ∧ ordForL l = (if b = true then fndL l false else []) := by
  have h1 : ordForB l = b := by unfold ordForB linA; rw [hg, hb]; rfl
  exact ⟨h1, by unfold ordForL; rw [h1]⟩
theorem ordFor_bad {l : List Cl} (hg : goodCl l = false) : ordForB l = false ∧ ordForL l = [] := by
  have h1 : ordForB l = false := by unfold ordForB linA; rw [hg]; rfl
  exact ⟨h1, by unfold ordForL; rw [h1]; rfl⟩

set_option maxRecDepth 100000 in
set_option maxHeartbeats 4000000 in
theorem implOrderFor_any (a : Option Addr) (c : Nat) (l : List Cl) (w : World) (hs : Cls w a l) (hl : l.length ≤ maxLen) (hc : l.length ≤ c) (hT : TabQ w) :
    Calls Tryd.prog 9 #[.slice a l.length c] w fun r w' => ∃ a' c', r = .returned (.tuple #[.slice a' (ordForL l).length c', .bool (ordForB l)]) ∧ Ints w' a' (ordForL l) ∧ RowI w' w.heap.size a' (ordForL l).length ∧ Below w.heap.size w w' := by
  cases hg : goodCl l with
  | false =>
    obtain ⟨h1, h2⟩ := ordFor_bad hg
    rw [h1, h2]
    clear h1 h2
    go_enter Tryd.func9, Tryd.ntmps9
    go_wp2_with fail
    refine (implGoodCl_c _ _ _ _ hs hl hc _ hg).mono ?_
    rintro r w1 ⟨rfl, BB⟩
    go_wp2
    refine bodyPost_ret (v := .tuple #[.slice none 0 0, .bool false]) (by simp [results, Tryd.results9, go_sem]) rfl ?_
    first | exact ⟨none, 0, rfl, Ints.nil _ _, .inl rfl, BB⟩ | exact ⟨none, ⟨0, rfl⟩, Ints.nil _ _, .inl rfl, BB⟩
  | true =>
    obtain ⟨b, hb⟩ : ∃ b, decide ((fndL l false).length = l.length) = b := ⟨_, rfl⟩
    obtain ⟨h1, h2⟩ := ordFor_good hg hb
    obtain ⟨L, hL⟩ : ∃ L, (if b = true then fndL l false else []) = L := ⟨_, rfl⟩
    have HC : ∀ w1, Cls w1 a l → TabQ w1 → Calls Tryd.prog 27 #[.slice a l.length c, .func (.func 25) #[] #[]] w1 fun e w' => ∃ a' c', e = .returned (.tuple #[.slice a' L.length c', .bool b]) ∧ Ints w' a' L ∧ RowI w' w1.heap.size a' L.length ∧ Below w1.heap.size w1 w' := fun w1 g1 g2 => by
      have := leastf_any a c l w1 g1 g2 hg b hb
      rw [hL] at this
      exact this
    rw [h1, h2, hL]
    clear h1 h2
    go_enter Tryd.func9, Tryd.ntmps9
    go_wp2_with fail
    refine (implGoodCl_c _ _ _ _ hs hl hc _ hg).mono ?_
    rintro r w1 ⟨rfl, BB⟩
    go_wp2_with fail
    refine (HC _ (hs.below BB) (hT.bel BB)).mono ?_
    rintro r w2 ⟨a', c', rfl, hI, hR, hB2⟩
    have B2 := stHi BB hB2
    have hR' := hR.mono BB.size
    clear hB2 hR hb hL HC
    go_wp2
    refine bodyPost_ret (v := .tuple #[.slice a' L.length c', .bool b]) (by simp [results, Tryd.results9, go_sem]) rfl ?_
    first | exact ⟨a', c', rfl, hI, hR', B2⟩ | exact ⟨a', ⟨c', rfl⟩, hI, hR', B2⟩

end Go.Proofs.YtmbfdonefpegeaaDoor
