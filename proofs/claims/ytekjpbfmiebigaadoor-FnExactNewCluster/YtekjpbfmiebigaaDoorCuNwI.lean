/-
  New clusters, the program's side: copyView, NewCluster. Made by mkcunw.py.
-/
import Derived.Test.YtekjpbfmiebigaaDoorCuNwS
import Derived.Test.YtekjpbfmiebigaaDoorQSt
import Derived.Test.YtekjpbfmiebigaaDoorQList
namespace Go.Proofs.YtekjpbfmiebigaaDoor
open Go.RowKit

theorem miStN {n : Nat} (h : n ≤ 4) : mi (stTo 0 1 n) = iotaZ n := by
  rcases (by omega : n = 0 ∨ n = 1 ∨ n = 2 ∨ n = 3 ∨ n = 4) with rfl | rfl | rfl | rfl | rfl <;> decide +kernel

theorem goodNodesN_c (n : Int) (b : Bool) (w : World) (h : inB n 2 4 = b) : Calls Tryd.prog 19 #[.int .i64 n] w fun e w' => e = .returned (.bool b) ∧ w' = w := by
  subst h
  by_cases h1 : 2 ≤ n
  · by_cases h2 : n ≤ 4
    · have HE : Hid (inB n 2 4 = true) := inB_t.2 ⟨h1, h2⟩
      go_enter Tryd.func19, Tryd.ntmps19
      go_wp2
      go_ret
      exact ⟨ret_bool HE.out.symm, rfl⟩
    · have HE : Hid (inB n 2 4 = false) := by show _ = _; rw [Bool.eq_false_iff]; intro g; have := inB_t.1 g; omega
      go_enter Tryd.func19, Tryd.ntmps19
      go_wp2
      go_ret
      exact ⟨ret_bool HE.out.symm, rfl⟩
  · have HE : Hid (inB n 2 4 = false) := by show _ = _; rw [Bool.eq_false_iff]; intro g; have := inB_t.1 g; omega
    go_enter Tryd.func19, Tryd.ntmps19
    go_wp2
    go_ret
    exact ⟨ret_bool HE.out.symm, rfl⟩

set_option maxRecDepth 100000 in
set_option maxHeartbeats 4000000 in
theorem ownListC_any (a : Option Addr) (c n : Nat) (l : List Int) (hln : l.length = n) (w : World) (hs : Ints w a l) (hl : n ≤ 1000) :
    Calls Tryd.prog 47 #[.slice a n c] w fun e w' => ∃ a' c', e = .returned (.slice a' n c') ∧ w'.ownsRow w.heap.size 3 1 (.slice a' n c') n (zCells l) ∧ Below w.heap.size w w' := by
  subst hln
  obtain ⟨i1, hi1, hy0, hy1, hy2⟩ := infoZ Tryd.infoInt
  go_enter Tryd.func47, Tryd.ntmps47
  go_wp2_with (at_builtin; refine wpList_appZ _ rfl _ _ 22 rfl w.heap.size 3 i1 _ 1 8 Tryd.underlying22 hi1 hy0 hy1 hy2 rfl (by decide) (.slice none 0 0) 0 [] rfl (World.ownsRow_nil _ _ _ _) (.slice a l.length c) l.length (zCells l) rfl (srcZ_ints _ hs) ?c3 ?c4 ?c5 ?_)
  case c3 => unfold maxLen; omega
  case c4 => omega
  case c5 => omega
  intro v w4 hown hgrow hat
  try simp only [Nat.zero_add, List.nil_append] at hown
  obtain ⟨av, cv, rfl⟩ := ownsZ_form hown
  have B4 : Below w.heap.size w w4 := (Below.refl _ _).grown hgrow (Nat.le_refl _) (fun b hb => by simp [Value.ownBlock] at hb)
  clear hgrow hat
  go_wp2
  refine bodyPost_ret (v := .slice av l.length cv) (by simp [results, Tryd.results47, go_sem]) rfl ⟨av, cv, rfl, hown, B4⟩

set_option maxRecDepth 100000 in
set_option maxHeartbeats 4000000 in
theorem copyView_any (e l : Int) (a : Option Addr) (c n : Nat) (zs : List Int) (hln : zs.length = n) (w : World) (hs : Ints w a zs) (hl : n ≤ 1000) :
    Calls Tryd.prog 22 #[.agg #[.int .i64 e, .int .i64 l, .slice a n c]] w fun r w' => ∃ a' c', r = .returned (.agg #[.int .i64 e, .int .i64 l, .slice a' n c']) ∧ Ints w' a' zs ∧ RowI w' w.heap.size a' n ∧ Below w.heap.size w w' := by
  obtain ⟨u1, hu1⟩ : ∃ u, (w.alloc (.cells #[.int .i64 e, .int .i64 l, .slice a n c] 24)) = u := ⟨_, rfl⟩
  have hS1 : w.heap.size < u1.heap.size := by rw [← hu1]; simp
  have B1 : Below w.heap.size w u1 := by rw [← hu1]; exact alCu _ _
  have p0 : u1.cell? ⟨w.heap.size, 0, none⟩ = some (.int .i64 e) := by rw [← hu1]; simp [go_sem]
  have p1 : u1.cell? ⟨w.heap.size, 1, none⟩ = some (.int .i64 l) := by rw [← hu1]; simp [go_sem]
  have p2 : u1.cell? ⟨w.heap.size, 2, none⟩ = some (.slice a n c) := by rw [← hu1]; simp [go_sem]
  have pf : ∀ o, u1.frozen? ⟨w.heap.size, o, none⟩ = false := fun o => by rw [← hu1]; simp [go_sem]
  obtain ⟨u2, hu2⟩ : ∃ u, (u1.alloc (.cells #[.int .i64 0, .int .i64 0, .slice none 0 0] 24)) = u := ⟨_, rfl⟩
  have hS2 : u1.heap.size < u2.heap.size := by rw [← hu2]; simp
  have B2 : Below u1.heap.size u1 u2 := by rw [← hu2]; exact alCu _ _
  have q0 : u2.cell? ⟨u1.heap.size, 0, none⟩ = some (.int .i64 0) := by rw [← hu2]; simp [go_sem]
  have q1 : u2.cell? ⟨u1.heap.size, 1, none⟩ = some (.int .i64 0) := by rw [← hu2]; simp [go_sem]
  have q2 : u2.cell? ⟨u1.heap.size, 2, none⟩ = some (.slice none 0 0) := by rw [← hu2]; simp [go_sem]
  have qf : ∀ o, u2.frozen? ⟨u1.heap.size, o, none⟩ = false := fun o => by rw [← hu2]; simp [go_sem]
  replace p0 := celB B2 p0
  replace p1 := celB B2 p1
  replace p2 := celB B2 p2
  replace pf : ∀ o, u2.frozen? ⟨w.heap.size, o, none⟩ = false := fun o => frzB B2 (by omega) (pf o)
  have BB := stCu B1 B2
  go_enter Tryd.func22, Tryd.ntmps22
  go_wp2_with fail
  try rw [hu1]
  try rw [hu2]
  refine (ownListC_any a c n zs hln _ (hs.below BB) hl).mono ?_
  rintro r w1 ⟨a', c', rfl, hown, hB1⟩
  rw [← hln] at hown
  obtain ⟨HI, HR⟩ := ints_of_owns hown
  rw [hln] at HR
  have HRl := HR
  replace HR := HR.mono (show w.heap.size ≤ u2.heap.size by omega)
  have s0 := celB hB1 p0
  have s1 := celB hB1 p1
  have s2 := celB hB1 p2
  have sf : ∀ o, w1.frozen? ⟨w.heap.size, o, none⟩ = false := fun o => frzB hB1 (lt_of_cell p0) (pf o)
  have t0 := celB hB1 q0
  have t1 := celB hB1 q1
  have t2 := celB hB1 q2
  have tf : ∀ o, w1.frozen? ⟨u1.heap.size, o, none⟩ = false := fun o => frzB hB1 (lt_of_cell q0) (qf o)
  have BW := stCu BB hB1
  have hne : w.heap.size ≠ u1.heap.size := by omega
  clear hu1 hu2 hown hB1 p0 p1 p2 q0 q1 q2 pf qf
  obtain ⟨g, hg⟩ : ∃ g, u1.heap.size = g := ⟨_, rfl⟩
  have hgl : w.heap.size < g := by omega
  have HRo : ∀ b, InI a' n b → g < b := fun b hb => by have := (HRl.lt hb).1; omega
  simp only [hg] at t0 t1 t2 tf hne ⊢
  go_wp2
  have EK : ∀ b, InI a' n b → (((((w1.setCell ⟨w.heap.size, 2, none⟩ (.slice a' n c')).setCell ⟨g, 0, none⟩ (.int .i64 e)).setCell ⟨g, 1, none⟩ (.int .i64 l)).setCell ⟨g, 2, none⟩ (.slice a' n c')).heap[b]? = w1.heap[b]?) := fun b hb => by
    have := HRo b hb
    rw [Below.heap_setCell _ ⟨g, _, none⟩ _ b (by simp; omega), Below.heap_setCell _ ⟨g, _, none⟩ _ b (by simp; omega), Below.heap_setCell _ ⟨g, _, none⟩ _ b (by simp; omega), Below.heap_setCell _ ⟨w.heap.size, _, none⟩ _ b (by simp; omega)]
  have E3 := ((((BW.setCell (Nat.le_refl _) (.slice a' n c') (p := ⟨w.heap.size, 2, none⟩)).setCell (Nat.le_of_lt hgl) (.int .i64 e) (p := ⟨g, 0, none⟩)).setCell (Nat.le_of_lt hgl) (.int .i64 l) (p := ⟨g, 1, none⟩)).setCell (Nat.le_of_lt hgl) (.slice a' n c') (p := ⟨g, 2, none⟩))
  refine bodyPost_ret (v := .agg #[.int .i64 e, .int .i64 l, .slice a' n c']) (by simp [results, Tryd.results22, go_sem, t0, t1, t2]) rfl ⟨a', c', rfl, HI.of_block (fun b hb => EK b (by rw [hln] at hb; exact hb)), HR.of_block EK, E3⟩

set_option maxRecDepth 100000 in
set_option maxHeartbeats 16000000 in
theorem implNewCu_any (z : Int) (w : World) (HT : TabQ w) :
    Calls Tryd.prog 6 #[.int .i64 z] w fun e w' => ∃ a0 a1 a2 c0 c1 c2 r12 r13 r14 k12 k13 k14, e = .returned (.tuple #[cuV (newCu z) a0 c0 a1 c1 a2 c2, .bool (inB z 2 4)]) ∧ CuO w' w.heap.size (newCu z) a0 a1 a2 r12 r13 r14 k12 k13 k14 ∧ Below w.heap.size w w' := by
  obtain ⟨u1, hu1⟩ : ∃ u, (w.alloc (.cells #[.int .i64 0, .int .i64 0, .slice none 0 0, .slice none 0 0, .slice none 0 0] 28)) = u := ⟨_, rfl⟩
  have bB : Below w.heap.size w u1 := by rw [← hu1]; exact alCu _ _
  have hS1 : u1.heap.size = w.heap.size + 1 := by rw [← hu1]; simp
  have q0 : u1.cell? ⟨w.heap.size, 0, none⟩ = some (.int .i64 0) := by rw [← hu1]; simp [go_sem]
  have q1 : u1.cell? ⟨w.heap.size, 1, none⟩ = some (.int .i64 0) := by rw [← hu1]; simp [go_sem]
  have q2 : u1.cell? ⟨w.heap.size, 2, none⟩ = some (.slice none 0 0) := by rw [← hu1]; simp [go_sem]
  have q3 : u1.cell? ⟨w.heap.size, 3, none⟩ = some (.slice none 0 0) := by rw [← hu1]; simp [go_sem]
  have q4 : u1.cell? ⟨w.heap.size, 4, none⟩ = some (.slice none 0 0) := by rw [← hu1]; simp [go_sem]
  have qf : ∀ o, u1.frozen? ⟨w.heap.size, o, none⟩ = false := fun o => by rw [← hu1]; simp [go_sem]
  obtain ⟨i1, hi1, hy0, hy1, hy2⟩ := infoZ Tryd.infoNd
  cases hg : inB z 2 4 with
  | false =>
    have HE : Hid (newCu z = ⟨0, 0, [], [], []⟩) := newCu_f hg
    go_enter Tryd.func6, Tryd.ntmps6
    go_wp2_with (go_at_call 19; refine (goodNodesN_c _ _ _ hg).mono ?_; rintro e w' ⟨rfl, hw⟩; rw [hw]; clear hw w')
    try rw [hu1]
    have BZ : Below w.heap.size w (((((u1.setCell ⟨w.heap.size, 0, none⟩ (.int .i64 0)).setCell ⟨w.heap.size, 1, none⟩ (.int .i64 0)).setCell ⟨w.heap.size, 2, none⟩ (.slice none 0 0)).setCell ⟨w.heap.size, 3, none⟩ (.slice none 0 0)).setCell ⟨w.heap.size, 4, none⟩ (.slice none 0 0)) := ((((bB.setCell (Nat.le_refl _) _).setCell (Nat.le_refl _) _).setCell (Nat.le_refl _) _).setCell (Nat.le_refl _) _).setCell (Nat.le_refl _) _
    refine bodyPost_ret (v := .tuple #[.agg #[.int .i64 0, .int .i64 0, .slice none 0 0, .slice none 0 0, .slice none 0 0], .bool false]) (by simp [results, Tryd.results6, go_sem, q0, q1, q2, q3, q4]) rfl ⟨none, none, none, 0, 0, 0, fun _ => none, fun _ => none, fun _ => none, fun _ => 0, fun _ => 0, fun _ => 0, by rw [HE.out]; rfl, ?_, BZ⟩
    rw [HE.out]; exact newCu_zero _ _
  | true =>
    have hz := inB_t.1 hg
    obtain ⟨n, rfl⟩ : ∃ n : Nat, z = n := ⟨z.toNat, by omega⟩
    have hn4 : n ≤ 4 := by omega
    have HE : Hid (newCu (n : Int) = ⟨0, 0, iotaZ n, List.replicate n (ndZ n), []⟩) := newCu_t hg
    clear hz
    have hmk := run_make_row' (P := Tryd.prog) 22 3 (.int .i64 0) 8 Tryd.underlying22 Tryd.infoInt rfl .i64 .i64 n (by omega) (by omega)
    go_enter Tryd.func6, Tryd.ntmps6
    go_wp2_with (go_at_call 19; refine (goodNodesN_c _ _ _ hg).mono ?_; rintro e w' ⟨rfl, hw⟩; rw [hw]; clear hw w')
    have hst7 : stTo 0 1 n < 128 := stTo_lt (many := n) (fun k hk => by omega) n (Nat.le_refl _)
    have HMI : Hid (mi (stTo 0 1 n) = iotaZ n) := miStN hn4
    refine (inSteps_any 0 1 n (by omega) (by omega) (by omega) (fun k hk => by omega) _).mono ?_
    rintro r x1 ⟨rfl, hB1⟩
    try rw [hu1] at hB1
    have X1 : Below u1.heap.size u1 x1 := hB1
    go_wp2_with fail
    refine (list_any (stTo 0 1 n) hst7 _ ((HT.bel bB).bel X1)).mono ?_
    intro r u2 hAns
    obtain ⟨av, cv, hr, -, -, HI0, HRI0, hBk⟩ := hAns.ints
    rw [HMI.out, iotaZ_len] at hr
    rw [HMI.out] at HI0 HRI0
    rw [iotaZ_len] at HRI0
    subst hr
    have B2 : Below u1.heap.size u1 u2 := stCu X1 hBk
    replace HRI0 := HRI0.mono (B' := u1.heap.size) X1.size
    clear hBk hAns hB1 X1 hu1 HMI hst7
    go_wp2
    obtain ⟨x, hx⟩ : ∃ x, (u2.alloc (.cells #[.int .i64 0, .int .i64 0, .slice av n cv, .slice none 0 0, .slice none 0 0] 28)) = x := ⟨_, rfl⟩
    have bX : Below u2.heap.size u2 x := by rw [← hx]; exact alCu _ _
    have hsx : x.heap.size = u2.heap.size + 1 := by rw [← hx]; simp
    have hst0 : CxSt x.heap.size u2.heap.size u1 x (.slice none 0 0) (.slice av n cv) [] := ⟨World.ownsRow_nil _ _ _ _, QIn.nil _ _, by rw [← hx]; simp [go_sem], by rw [← hx]; simp [go_sem], by rw [← hx]; simp [go_sem], by rw [← hx]; simp [go_sem], by rw [← hx]; simp [go_sem], fun o => by rw [← hx]; simp [go_sem], stCu B2 bX, by omega, B2.size, Nat.le_refl _⟩
    have HI := HI0.below bX
    have HRI := HRI0.below bX
    have HLB : Hid (∀ b, InI av n b → b < u2.heap.size) := fun b hb => (HRI0.lt hb).2
    have gS0 : u1.heap.size ≤ u2.heap.size := B2.size
    skip
    skip
    obtain ⟨gS, hgS⟩ : ∃ g, u2.heap.size = g := ⟨_, rfl⟩
    rw [hgS] at hst0 HLB gS0 hsx
    skip
    rw [hx]
    try rw [hgS]
    clear hx
    go_loopw [15] (fun i wr => ∃ (k : Nat) (v : Value) (ps : List (QI × QI)), k ≤ n ∧ i = .int .i64 k ∧ Hid (ps.length = k) ∧ Hid (∀ p ∈ ps, p.1.zs = iotaZ n ∧ p.2.zs = List.replicate n 0) ∧ Hid (∀ b, b < x.heap.size → b ≠ gS → wr.heap[b]? = x.heap[b]?) ∧ CxSt x.heap.size gS u1 wr v (.slice av n cv) ps) (fun i _ => n - (intOf i).toNat)
    case atStart => exact ⟨0, _, [], Nat.zero_le _, rfl, rfl, fun p hp => by simp at hp, fun _ _ _ => rfl, hst0⟩
    case round =>
      clear hst0
      obtain ⟨k, v, ps, hk', rfl, HQL, HQ, HKB, hst⟩ := hrel
      have hB := hst.bel
      have hlw := hst.Bw
      have hpl : ps.length ≤ 4 := by have := HQL.out; omega
      have p0 := celB hB q0
      have p1 := celB hB q1
      have p2 := celB hB q2
      have p3 := celB hB q3
      have p4 := celB hB q4
      have pf : ∀ o, wr.frozen? ⟨w.heap.size, o, none⟩ = false := fun o => frzB hB (lt_of_cell q0) (qf o)
      by_cases hlt2 : k < n
      · have hki : (k : Int) < (n : Int) := by omega
        clear p0 p1 p2 p3 p4 pf
        go_wp2_with fail
        have HIw : Ints wr av (iotaZ n) := HI.of_block (fun b hb => HKB.out b (by rw [iotaZ_len] at hb; have := HLB.out b hb; omega) (fun e => by rw [iotaZ_len] at hb; have := HLB.out b hb; omega))
        obtain ⟨y0, hy0'⟩ : ∃ y, wr.drew = y := ⟨_, rfl⟩
        have HC0 : Below wr.heap.size wr y0 := by rw [← hy0']; exact (Below.refl _ _).drew
        refine wp_region_noPanic ?_
        refine wp_region_held_drew (S := fun _ => True) (by kernel_rfl) trivial (fun hHn => ?_)
        clear hHn
        rw [hy0']
        clear hy0'
        refine wpAnyH_take (i := 0) (oi := ⟨_, _, _, _, _, _⟩) (v := ?vt57x0) rfl (by kernel_rfl) (by kernel_rfl) (by kernel_rfl) (fun _ _ _ h => h) (Or.inl ⟨by rfl, ?yt57x0⟩) trivial ?rt57x0
        case yt57x0 => intro w hSw; clear hSw; go_simp; try with_reducible rfl
        try simp only [Act.put, List.setIfInBounds_toArray, List.set_cons_zero, List.set_cons_succ]
        refine wpAnyH_take (i := 2) (oi := ⟨_, _, _, _, _, _⟩) (v := ?vt58x2) rfl (by kernel_rfl) (by kernel_rfl) (by kernel_rfl) (fun _ _ _ h => h) (Or.inl ⟨by rfl, ?yt58x2⟩) trivial ?rt58x2
        case yt58x2 => intro w hSw; clear hSw; go_simp; try with_reducible rfl
        try simp only [Act.put, List.setIfInBounds_toArray, List.set_cons_zero, List.set_cons_succ]
        refine wpAnyH_take (i := 5) (oi := ⟨_, _, _, _, _, _⟩) (v := ?vt59x5) rfl (by kernel_rfl) (by kernel_rfl) (by kernel_rfl) (fun _ _ _ h => h) (Or.inl ⟨by rfl, ?yt59x5⟩) trivial ?rt59x5
        case yt59x5 => intro w hSw; clear hSw; go_simp; try with_reducible rfl
        try simp only [Act.put, List.setIfInBounds_toArray, List.set_cons_zero, List.set_cons_succ]
        refine wpAnyH_ready (rs := [1, 3, 6]) (by kernel_rfl) (by simp) ?_
        refine AllReadyH.cons (o := ⟨_, _, _, _, _, _⟩) rfl (fun KK hK => ?b60n0) (AllReadyH.cons (o := ⟨_, _, _, _, _, _⟩) rfl (fun KK hK => ?b60n1) (AllReadyH.cons (o := ⟨_, _, _, _, _, _⟩) rfl (fun KK hK => ?b60n2) AllReadyH.nil))
        case b60n0 =>
          have cL : y0.cell? ⟨gS, 3, none⟩ = some v := celB HC0 hst.c0
          go_simp
          refine hK.out _ _ trivial (fun hHn => ?_)
          clear hK KK hHn
          try simp only [Act.put, List.setIfInBounds_toArray, List.set_cons_zero, List.set_cons_succ]
          clear cL
          refine wpAnyH_ready (rs := [3, 6]) (by kernel_rfl) (by simp) ?_
          refine AllReadyH.cons (o := ⟨_, _, _, _, _, _⟩) rfl (fun KK hK => ?b61n0) (AllReadyH.cons (o := ⟨_, _, _, _, _, _⟩) rfl (fun KK hK => ?b61n1) AllReadyH.nil)
          case b61n0 =>
            have cV0 : y0.cell? ⟨gS, 0, none⟩ = some (.int .i64 0) := celB HC0 hst.e0
            have cV1 : y0.cell? ⟨gS, 1, none⟩ = some (.int .i64 0) := celB HC0 hst.e1
            have cV2 : y0.cell? ⟨gS, 2, none⟩ = some (.slice av n cv) := celB HC0 hst.e2
            go_simp
            refine hK.out _ _ trivial (fun hHn => ?_)
            clear hK KK hHn
            try simp only [Act.put, List.setIfInBounds_toArray, List.set_cons_zero, List.set_cons_succ]
            clear cV0 cV1 cV2
            refine wpAnyH_ready (rs := [4, 6]) (by kernel_rfl) (by simp) ?_
            refine AllReadyH.cons (o := ⟨_, _, _, _, _, _⟩) rfl (fun KK hK => ?b62n0) (AllReadyH.cons (o := ⟨_, _, _, _, _, _⟩) rfl (fun KK hK => ?b62n1) AllReadyH.nil)
            case b62n0 =>
              go_simp
              refine (copyView_any 0 0 av cv n (iotaZ n) (iotaZ_len n) _ (HIw.below HC0) (by omega)).mono ?_
              rintro r y1 ⟨a2, c2, rfl, HI2, HRI2, hBk⟩
              replace HRI2 := HRI2.mono (B' := wr.heap.size) HC0.size
              have HC1 : Below wr.heap.size wr y1 := stCu HC0 hBk
              clear hBk
              go_wp2_with fail
              refine hK.out _ _ trivial (fun hHn => ?_)
              clear hK KK hHn
              try simp only [Act.put, List.setIfInBounds_toArray, List.set_cons_zero, List.set_cons_succ]
              refine wpAnyH_ready (rs := [6]) (by kernel_rfl) (by simp) ?_
              refine AllReadyH.cons (o := ⟨_, _, _, _, _, _⟩) rfl (fun KK hK => ?b63n0) AllReadyH.nil
              case b63n0 =>
                obtain ⟨y2, hy2⟩ : ∃ u, y1.alloc (.cells (madeCells #[Value.int .i64 0] n) 3) = u := ⟨_, rfl⟩
                have HR2 : y2.rowIs y1.heap.size 3 n (fun _ => .int .i64 0) := by rw [← hy2]; exact World.rowIs_made _ _ _ _
                have lE2 : wr.heap.size ≤ y1.heap.size := HC1.size
                have hne : ∀ b, InI a2 n b → b ≠ y1.heap.size := fun b hb e => by have := (HRI2.lt hb).2; omega
                have BE : Below y1.heap.size y1 y2 := by rw [← hy2]; exact alCu _ _
                have HC2 : Below wr.heap.size wr y2 := stCu HC1 BE
                replace HI2 := HI2.below BE
                replace HRI2 := HRI2.below BE
                go_simp
                refine hK.out _ _ trivial (fun hHn => ?_)
                clear hK KK hHn
                try simp only [Act.put, List.setIfInBounds_toArray, List.set_cons_zero, List.set_cons_succ]
                clear hy2 BE
                refine wpAnyH_take (i := 7) (oi := ⟨_, _, _, _, _, _⟩) (v := ?vt64x7) rfl (by kernel_rfl) (by kernel_rfl) (by kernel_rfl) (fun _ _ _ h => h) (Or.inl ⟨by rfl, ?yt64x7⟩) trivial ?rt64x7
                case yt64x7 => intro w hSw; clear hSw; go_simp; try with_reducible rfl
                try simp only [Act.put, List.setIfInBounds_toArray, List.set_cons_zero, List.set_cons_succ]
                refine wpAnyH_ready (rs := [8]) (by kernel_rfl) (by simp) ?_
                refine AllReadyH.cons (o := ⟨_, _, _, _, _, _⟩) rfl (fun KK hK => ?b65n0) AllReadyH.nil
                case b65n0 =>
                  obtain ⟨y3, hy3⟩ : ∃ u, y2.alloc (.cells #[.int .i64 0, .int .i64 0, .slice a2 n c2, .slice none 0 0, .slice (some ⟨y1.heap.size, 0, none⟩) n n, .int .i64 0] 49) = u := ⟨_, rfl⟩
                  have HD2 : y3.heap[y2.heap.size]? = some (.cells #[.int .i64 0, .int .i64 0, .slice a2 n c2, .slice none 0 0, .slice (some ⟨y1.heap.size, 0, none⟩) n n, .int .i64 0] 49 (0, 0)) := by rw [← hy3]; exact heap_alloc_new _ _
                  have BE : Below y2.heap.size y2 y3 := by rw [← hy3]; exact alCu _ _
                  have HC3 : Below wr.heap.size wr y3 := stCu HC2 BE
                  replace HR2 := HR2.of_block (BE.block _ HR2.lt)
                  replace HI2 := HI2.below BE
                  replace HRI2 := HRI2.below BE
                  go_simp
                  refine hK.out _ _ trivial (fun hHn => ?_)
                  clear hK KK hHn
                  try simp only [Act.put, List.setIfInBounds_toArray, List.set_cons_zero, List.set_cons_succ]
                  clear hy3 BE
                  refine wpAnyH_ready (rs := [9]) (by kernel_rfl) (by simp) ?_
                  refine AllReadyH.cons (o := ⟨_, _, _, _, _, _⟩) rfl (fun KK hK => ?b66n0) AllReadyH.nil
                  case b66n0 =>
                    have hin := ints_rep HR2
                    have hir : RowI y3 wr.heap.size (some ⟨y1.heap.size, 0, none⟩) (List.replicate n (0 : Int)).length := rowI_rep HR2 lE2
                    have hstx := hst.below HC3
                    have HC : Hid (cxC ((⟨iotaZ n, a2, c2⟩, ⟨List.replicate n 0, some ⟨y1.heap.size, 0, none⟩, n⟩) : QI × QI) = [.int .i64 0, .int .i64 0, .slice a2 n c2, .slice none 0 0, .slice (some ⟨y1.heap.size, 0, none⟩) n n, .int .i64 0]) := by show _ = _; simp [cxC, iotaZ_len]
                    have HC1' : Hid (∀ u ∈ ([.int .i64 0, .int .i64 0, .slice a2 n c2, .slice none 0 0, .slice (some ⟨y1.heap.size, 0, none⟩) n n, .int .i64 0] : List Value), u.oneCell' = true) := by show ∀ u ∈ _, _; rw [← HC.out]; exact cxC_one _
                    have hdj : ∀ b, InI a2 (iotaZ n).length b → ¬ InI (some ⟨y1.heap.size, 0, none⟩) (List.replicate n (0 : Int)).length b := fun b h1 h2 => by rw [iotaZ_len] at h1; obtain ⟨-, o, s, e3⟩ := h2; simp only [Option.some.injEq, Addr.mk.injEq] at e3; exact hne b h1 e3.1.symm
                    have hri : RowI y3 wr.heap.size a2 (iotaZ n).length := by rw [iotaZ_len]; exact HRI2
                    refine step_append_lies _ (by rfl) _ _ 25 (by rfl) x.heap.size 49 i1 _ 6 96 Tryd.underlying25 hi1 hy0 hy1 hy2 rfl (by omega) v ps.length (ps.flatMap cxC) (by rfl) hstx.own ⟨y2.heap.size, 0, none⟩ 1 1 [.int .i64 0, .int .i64 0, .slice a2 n c2, .slice none 0 0, .slice (some ⟨y1.heap.size, 0, none⟩) n n, .int .i64 0] (by rfl) (by rfl) (World.news_of_block (cs := #[.int .i64 0, .int .i64 0, .slice a2 n c2, .slice none 0 0, .slice (some ⟨y1.heap.size, 0, none⟩) n n, .int .i64 0]) (t := 49) (fr := (0, 0)) HD2) HC1'.out (by omega) (by unfold maxLen; omega) (by omega) (by have := HC3.size; have := hst.Bw; omega) (y3.heap.size) rfl ?_
                    intro g2 cap2 w5 HO2 hgrow2 hat2 hlt2
                    rw [← HC.out] at HO2
                    have HN : Hid (CxSt x.heap.size gS u1 (w5.setCell ⟨gS, 3, none⟩ (.slice (some ⟨g2, 0, none⟩) (ps.length + 1) cap2)) (.slice (some ⟨g2, 0, none⟩) (ps.length + 1) cap2) (.slice av n cv) (ps ++ [((⟨iotaZ n, a2, c2⟩, ⟨List.replicate n 0, some ⟨y1.heap.size, 0, none⟩, n⟩) : QI × QI)])) := hst.step HC3 HI2 hri hin hir hdj hgrow2 HO2 hat2
                    have HM : Hid (∀ p ∈ ps ++ [((⟨iotaZ n, a2, c2⟩, ⟨List.replicate n 0, some ⟨y1.heap.size, 0, none⟩, n⟩) : QI × QI)], p.1.zs = iotaZ n ∧ p.2.zs = List.replicate n 0) := fun p hp => by
                      rcases List.mem_append.1 hp with h1 | h1
                      · exact HQ.out p h1
                      · simp at h1; subst h1; exact ⟨rfl, rfl⟩
                    have HL : Hid ((ps ++ [((⟨iotaZ n, a2, c2⟩, ⟨List.replicate n 0, some ⟨y1.heap.size, 0, none⟩, n⟩) : QI × QI)]).length = k + 1) := by show _ = _; rw [List.length_append, HQL.out]; rfl
                    have hvb : ∀ b, v.ownBlock = some b → x.heap.size ≤ b := fun b hb => (hst.own.lt b hb).1
                    have HKN : Hid (∀ b, b < x.heap.size → b ≠ gS → (w5.setCell ⟨gS, 3, none⟩ (.slice (some ⟨g2, 0, none⟩) (ps.length + 1) cap2)).heap[b]? = x.heap[b]?) := fun b hb hne => by
                      rw [Below.heap_setCell _ ⟨gS, _, none⟩ _ b (by simpa using hne), hgrow2.block b (by have := HC3.size; have := hst.Bw; omega) (fun e => by have := hvb b e.symm; omega), HC3.block b (by have := hst.Bw; omega)]
                      exact HKB.out b hb hne
                    have hvS : some gS ≠ v.ownBlock := fun e => by have := (hstx.own.lt gS e.symm).1; have := hst.SB; omega
                    have zc : w5.cell? ⟨gS, 3, none⟩ = some v := (World.cell?_of_block (a := ⟨gS, 3, none⟩) (hgrow2.block gS (lt_of_cell hstx.c0) hvS)).trans hstx.c0
                    have zf : ∀ o, w5.frozen? ⟨gS, o, none⟩ = false := fun o => (World.frozen?_of_block (a := ⟨gS, o, none⟩) (hgrow2.block gS (lt_of_cell hstx.c0) hvS)).trans (hstx.fr o)
                    refine hK.out _ _ trivial (fun hHn => ?_)
                    clear hK KK hHn
                    try simp only [Act.put, List.setIfInBounds_toArray, List.set_cons_zero, List.set_cons_succ]
                    clear hgrow2 hat2 HR2 HD2 hin hir hri hdj hstx HO2 hvS hlt2 HC HC1' hvb HI2 HRI2 hne
                    refine wpAnyH_take (i := 10) (oi := ⟨_, _, _, _, _, _⟩) (v := ?vt67x10) rfl (by kernel_rfl) (by kernel_rfl) (by kernel_rfl) (fun _ _ _ h => h) (Or.inl ⟨by rfl, ?yt67x10⟩) trivial ?rt67x10
                    case yt67x10 => intro w hSw; clear hSw; go_simp; try with_reducible rfl
                    try simp only [Act.put, List.setIfInBounds_toArray, List.set_cons_zero, List.set_cons_succ]
                    refine wpAnyH_ready (rs := [11]) (by kernel_rfl) (by simp) ?_
                    refine AllReadyH.cons (o := ⟨_, _, _, _, _, _⟩) rfl (fun KK hK => ?b68n0) AllReadyH.nil
                    case b68n0 =>
                      go_simp
                      refine hK.out _ _ trivial (fun hHn => ?_)
                      clear hK KK hHn
                      try simp only [Act.put, List.setIfInBounds_toArray, List.set_cons_zero, List.set_cons_succ]
                      refine wpAnyH_done (by kernel_rfl) (NoPanic.normal ?_) _
                      clear zc zf hst
                      go_wp2
                      go_roundw
                      case rel => exact ⟨k + 1, _, _, by omega, by go_num, HL.out, HM.out, HKN.out, HN.out⟩
                      case measure => simp [intOf]; omega
            case b62n1 =>
              obtain ⟨y1, hy1⟩ : ∃ u, y0.alloc (.cells (madeCells #[Value.int .i64 0] n) 3) = u := ⟨_, rfl⟩
              have HR2 : y1.rowIs y0.heap.size 3 n (fun _ => .int .i64 0) := by rw [← hy1]; exact World.rowIs_made _ _ _ _
              have lE2 : wr.heap.size ≤ y0.heap.size := HC0.size
              have BE : Below y0.heap.size y0 y1 := by rw [← hy1]; exact alCu _ _
              have HC1 : Below wr.heap.size wr y1 := stCu HC0 BE
              go_simp
              refine hK.out _ _ trivial (fun hHn => ?_)
              clear hK KK hHn
              try simp only [Act.put, List.setIfInBounds_toArray, List.set_cons_zero, List.set_cons_succ]
              clear hy1 BE
              refine wpAnyH_ready (rs := [4]) (by kernel_rfl) (by simp) ?_
              refine AllReadyH.cons (o := ⟨_, _, _, _, _, _⟩) rfl (fun KK hK => ?b69n0) AllReadyH.nil
              case b69n0 =>
                go_simp
                refine (copyView_any 0 0 av cv n (iotaZ n) (iotaZ_len n) _ (HIw.below HC1) (by omega)).mono ?_
                rintro r y2 ⟨a2, c2, rfl, HI2, HRI2, hBk⟩
                have hne : ∀ b, InI a2 n b → b ≠ y0.heap.size := fun b hb e => by have := (HRI2.lt hb).1; have := HR2.lt; omega
                replace HR2 := HR2.of_block (hBk.block _ HR2.lt)
                replace HRI2 := HRI2.mono (B' := wr.heap.size) HC1.size
                have HC2 : Below wr.heap.size wr y2 := stCu HC1 hBk
                clear hBk
                go_wp2_with fail
                refine hK.out _ _ trivial (fun hHn => ?_)
                clear hK KK hHn
                try simp only [Act.put, List.setIfInBounds_toArray, List.set_cons_zero, List.set_cons_succ]
                refine wpAnyH_take (i := 7) (oi := ⟨_, _, _, _, _, _⟩) (v := ?vt70x7) rfl (by kernel_rfl) (by kernel_rfl) (by kernel_rfl) (fun _ _ _ h => h) (Or.inl ⟨by rfl, ?yt70x7⟩) trivial ?rt70x7
                case yt70x7 => intro w hSw; clear hSw; go_simp; try with_reducible rfl
                try simp only [Act.put, List.setIfInBounds_toArray, List.set_cons_zero, List.set_cons_succ]
                refine wpAnyH_ready (rs := [8]) (by kernel_rfl) (by simp) ?_
                refine AllReadyH.cons (o := ⟨_, _, _, _, _, _⟩) rfl (fun KK hK => ?b71n0) AllReadyH.nil
                case b71n0 =>
                  obtain ⟨y3, hy3⟩ : ∃ u, y2.alloc (.cells #[.int .i64 0, .int .i64 0, .slice a2 n c2, .slice none 0 0, .slice (some ⟨y0.heap.size, 0, none⟩) n n, .int .i64 0] 49) = u := ⟨_, rfl⟩
                  have HD2 : y3.heap[y2.heap.size]? = some (.cells #[.int .i64 0, .int .i64 0, .slice a2 n c2, .slice none 0 0, .slice (some ⟨y0.heap.size, 0, none⟩) n n, .int .i64 0] 49 (0, 0)) := by rw [← hy3]; exact heap_alloc_new _ _
                  have BE : Below y2.heap.size y2 y3 := by rw [← hy3]; exact alCu _ _
                  have HC3 : Below wr.heap.size wr y3 := stCu HC2 BE
                  replace HR2 := HR2.of_block (BE.block _ HR2.lt)
                  replace HI2 := HI2.below BE
                  replace HRI2 := HRI2.below BE
                  go_simp
                  refine hK.out _ _ trivial (fun hHn => ?_)
                  clear hK KK hHn
                  try simp only [Act.put, List.setIfInBounds_toArray, List.set_cons_zero, List.set_cons_succ]
                  clear hy3 BE
                  refine wpAnyH_ready (rs := [9]) (by kernel_rfl) (by simp) ?_
                  refine AllReadyH.cons (o := ⟨_, _, _, _, _, _⟩) rfl (fun KK hK => ?b72n0) AllReadyH.nil
                  case b72n0 =>
                    have hin := ints_rep HR2
                    have hir : RowI y3 wr.heap.size (some ⟨y0.heap.size, 0, none⟩) (List.replicate n (0 : Int)).length := rowI_rep HR2 lE2
                    have hstx := hst.below HC3
                    have HC : Hid (cxC ((⟨iotaZ n, a2, c2⟩, ⟨List.replicate n 0, some ⟨y0.heap.size, 0, none⟩, n⟩) : QI × QI) = [.int .i64 0, .int .i64 0, .slice a2 n c2, .slice none 0 0, .slice (some ⟨y0.heap.size, 0, none⟩) n n, .int .i64 0]) := by show _ = _; simp [cxC, iotaZ_len]
                    have HC1' : Hid (∀ u ∈ ([.int .i64 0, .int .i64 0, .slice a2 n c2, .slice none 0 0, .slice (some ⟨y0.heap.size, 0, none⟩) n n, .int .i64 0] : List Value), u.oneCell' = true) := by show ∀ u ∈ _, _; rw [← HC.out]; exact cxC_one _
                    have hdj : ∀ b, InI a2 (iotaZ n).length b → ¬ InI (some ⟨y0.heap.size, 0, none⟩) (List.replicate n (0 : Int)).length b := fun b h1 h2 => by rw [iotaZ_len] at h1; obtain ⟨-, o, s, e3⟩ := h2; simp only [Option.some.injEq, Addr.mk.injEq] at e3; exact hne b h1 e3.1.symm
                    have hri : RowI y3 wr.heap.size a2 (iotaZ n).length := by rw [iotaZ_len]; exact HRI2
                    refine step_append_lies _ (by rfl) _ _ 25 (by rfl) x.heap.size 49 i1 _ 6 96 Tryd.underlying25 hi1 hy0 hy1 hy2 rfl (by omega) v ps.length (ps.flatMap cxC) (by rfl) hstx.own ⟨y2.heap.size, 0, none⟩ 1 1 [.int .i64 0, .int .i64 0, .slice a2 n c2, .slice none 0 0, .slice (some ⟨y0.heap.size, 0, none⟩) n n, .int .i64 0] (by rfl) (by rfl) (World.news_of_block (cs := #[.int .i64 0, .int .i64 0, .slice a2 n c2, .slice none 0 0, .slice (some ⟨y0.heap.size, 0, none⟩) n n, .int .i64 0]) (t := 49) (fr := (0, 0)) HD2) HC1'.out (by omega) (by unfold maxLen; omega) (by omega) (by have := HC3.size; have := hst.Bw; omega) (y3.heap.size) rfl ?_
                    intro g2 cap2 w5 HO2 hgrow2 hat2 hlt2
                    rw [← HC.out] at HO2
                    have HN : Hid (CxSt x.heap.size gS u1 (w5.setCell ⟨gS, 3, none⟩ (.slice (some ⟨g2, 0, none⟩) (ps.length + 1) cap2)) (.slice (some ⟨g2, 0, none⟩) (ps.length + 1) cap2) (.slice av n cv) (ps ++ [((⟨iotaZ n, a2, c2⟩, ⟨List.replicate n 0, some ⟨y0.heap.size, 0, none⟩, n⟩) : QI × QI)])) := hst.step HC3 HI2 hri hin hir hdj hgrow2 HO2 hat2
                    have HM : Hid (∀ p ∈ ps ++ [((⟨iotaZ n, a2, c2⟩, ⟨List.replicate n 0, some ⟨y0.heap.size, 0, none⟩, n⟩) : QI × QI)], p.1.zs = iotaZ n ∧ p.2.zs = List.replicate n 0) := fun p hp => by
                      rcases List.mem_append.1 hp with h1 | h1
                      · exact HQ.out p h1
                      · simp at h1; subst h1; exact ⟨rfl, rfl⟩
                    have HL : Hid ((ps ++ [((⟨iotaZ n, a2, c2⟩, ⟨List.replicate n 0, some ⟨y0.heap.size, 0, none⟩, n⟩) : QI × QI)]).length = k + 1) := by show _ = _; rw [List.length_append, HQL.out]; rfl
                    have hvb : ∀ b, v.ownBlock = some b → x.heap.size ≤ b := fun b hb => (hst.own.lt b hb).1
                    have HKN : Hid (∀ b, b < x.heap.size → b ≠ gS → (w5.setCell ⟨gS, 3, none⟩ (.slice (some ⟨g2, 0, none⟩) (ps.length + 1) cap2)).heap[b]? = x.heap[b]?) := fun b hb hne => by
                      rw [Below.heap_setCell _ ⟨gS, _, none⟩ _ b (by simpa using hne), hgrow2.block b (by have := HC3.size; have := hst.Bw; omega) (fun e => by have := hvb b e.symm; omega), HC3.block b (by have := hst.Bw; omega)]
                      exact HKB.out b hb hne
                    have hvS : some gS ≠ v.ownBlock := fun e => by have := (hstx.own.lt gS e.symm).1; have := hst.SB; omega
                    have zc : w5.cell? ⟨gS, 3, none⟩ = some v := (World.cell?_of_block (a := ⟨gS, 3, none⟩) (hgrow2.block gS (lt_of_cell hstx.c0) hvS)).trans hstx.c0
                    have zf : ∀ o, w5.frozen? ⟨gS, o, none⟩ = false := fun o => (World.frozen?_of_block (a := ⟨gS, o, none⟩) (hgrow2.block gS (lt_of_cell hstx.c0) hvS)).trans (hstx.fr o)
                    refine hK.out _ _ trivial (fun hHn => ?_)
                    clear hK KK hHn
                    try simp only [Act.put, List.setIfInBounds_toArray, List.set_cons_zero, List.set_cons_succ]
                    clear hgrow2 hat2 HR2 HD2 hin hir hri hdj hstx HO2 hvS hlt2 HC HC1' hvb HI2 HRI2 hne
                    refine wpAnyH_take (i := 10) (oi := ⟨_, _, _, _, _, _⟩) (v := ?vt73x10) rfl (by kernel_rfl) (by kernel_rfl) (by kernel_rfl) (fun _ _ _ h => h) (Or.inl ⟨by rfl, ?yt73x10⟩) trivial ?rt73x10
                    case yt73x10 => intro w hSw; clear hSw; go_simp; try with_reducible rfl
                    try simp only [Act.put, List.setIfInBounds_toArray, List.set_cons_zero, List.set_cons_succ]
                    refine wpAnyH_ready (rs := [11]) (by kernel_rfl) (by simp) ?_
                    refine AllReadyH.cons (o := ⟨_, _, _, _, _, _⟩) rfl (fun KK hK => ?b74n0) AllReadyH.nil
                    case b74n0 =>
                      go_simp
                      refine hK.out _ _ trivial (fun hHn => ?_)
                      clear hK KK hHn
                      try simp only [Act.put, List.setIfInBounds_toArray, List.set_cons_zero, List.set_cons_succ]
                      refine wpAnyH_done (by kernel_rfl) (NoPanic.normal ?_) _
                      clear zc zf hst
                      go_wp2
                      go_roundw
                      case rel => exact ⟨k + 1, _, _, by omega, by go_num, HL.out, HM.out, HKN.out, HN.out⟩
                      case measure => simp [intOf]; omega
          case b61n1 =>
            obtain ⟨y1, hy1⟩ : ∃ u, y0.alloc (.cells (madeCells #[Value.int .i64 0] n) 3) = u := ⟨_, rfl⟩
            have HR2 : y1.rowIs y0.heap.size 3 n (fun _ => .int .i64 0) := by rw [← hy1]; exact World.rowIs_made _ _ _ _
            have lE2 : wr.heap.size ≤ y0.heap.size := HC0.size
            have BE : Below y0.heap.size y0 y1 := by rw [← hy1]; exact alCu _ _
            have HC1 : Below wr.heap.size wr y1 := stCu HC0 BE
            go_simp
            refine hK.out _ _ trivial (fun hHn => ?_)
            clear hK KK hHn
            try simp only [Act.put, List.setIfInBounds_toArray, List.set_cons_zero, List.set_cons_succ]
            clear hy1 BE
            refine wpAnyH_ready (rs := [3]) (by kernel_rfl) (by simp) ?_
            refine AllReadyH.cons (o := ⟨_, _, _, _, _, _⟩) rfl (fun KK hK => ?b75n0) AllReadyH.nil
            case b75n0 =>
              have cV0 : y1.cell? ⟨gS, 0, none⟩ = some (.int .i64 0) := celB HC1 hst.e0
              have cV1 : y1.cell? ⟨gS, 1, none⟩ = some (.int .i64 0) := celB HC1 hst.e1
              have cV2 : y1.cell? ⟨gS, 2, none⟩ = some (.slice av n cv) := celB HC1 hst.e2
              go_simp
              refine hK.out _ _ trivial (fun hHn => ?_)
              clear hK KK hHn
              try simp only [Act.put, List.setIfInBounds_toArray, List.set_cons_zero, List.set_cons_succ]
              clear cV0 cV1 cV2
              refine wpAnyH_ready (rs := [4]) (by kernel_rfl) (by simp) ?_
              refine AllReadyH.cons (o := ⟨_, _, _, _, _, _⟩) rfl (fun KK hK => ?b76n0) AllReadyH.nil
              case b76n0 =>
                go_simp
                refine (copyView_any 0 0 av cv n (iotaZ n) (iotaZ_len n) _ (HIw.below HC1) (by omega)).mono ?_
                rintro r y2 ⟨a2, c2, rfl, HI2, HRI2, hBk⟩
                have hne : ∀ b, InI a2 n b → b ≠ y0.heap.size := fun b hb e => by have := (HRI2.lt hb).1; have := HR2.lt; omega
                replace HR2 := HR2.of_block (hBk.block _ HR2.lt)
                replace HRI2 := HRI2.mono (B' := wr.heap.size) HC1.size
                have HC2 : Below wr.heap.size wr y2 := stCu HC1 hBk
                clear hBk
                go_wp2_with fail
                refine hK.out _ _ trivial (fun hHn => ?_)
                clear hK KK hHn
                try simp only [Act.put, List.setIfInBounds_toArray, List.set_cons_zero, List.set_cons_succ]
                refine wpAnyH_take (i := 7) (oi := ⟨_, _, _, _, _, _⟩) (v := ?vt77x7) rfl (by kernel_rfl) (by kernel_rfl) (by kernel_rfl) (fun _ _ _ h => h) (Or.inl ⟨by rfl, ?yt77x7⟩) trivial ?rt77x7
                case yt77x7 => intro w hSw; clear hSw; go_simp; try with_reducible rfl
                try simp only [Act.put, List.setIfInBounds_toArray, List.set_cons_zero, List.set_cons_succ]
                refine wpAnyH_ready (rs := [8]) (by kernel_rfl) (by simp) ?_
                refine AllReadyH.cons (o := ⟨_, _, _, _, _, _⟩) rfl (fun KK hK => ?b78n0) AllReadyH.nil
                case b78n0 =>
                  obtain ⟨y3, hy3⟩ : ∃ u, y2.alloc (.cells #[.int .i64 0, .int .i64 0, .slice a2 n c2, .slice none 0 0, .slice (some ⟨y0.heap.size, 0, none⟩) n n, .int .i64 0] 49) = u := ⟨_, rfl⟩
                  have HD2 : y3.heap[y2.heap.size]? = some (.cells #[.int .i64 0, .int .i64 0, .slice a2 n c2, .slice none 0 0, .slice (some ⟨y0.heap.size, 0, none⟩) n n, .int .i64 0] 49 (0, 0)) := by rw [← hy3]; exact heap_alloc_new _ _
                  have BE : Below y2.heap.size y2 y3 := by rw [← hy3]; exact alCu _ _
                  have HC3 : Below wr.heap.size wr y3 := stCu HC2 BE
                  replace HR2 := HR2.of_block (BE.block _ HR2.lt)
                  replace HI2 := HI2.below BE
                  replace HRI2 := HRI2.below BE
                  go_simp
                  refine hK.out _ _ trivial (fun hHn => ?_)
                  clear hK KK hHn
                  try simp only [Act.put, List.setIfInBounds_toArray, List.set_cons_zero, List.set_cons_succ]
                  clear hy3 BE
                  refine wpAnyH_ready (rs := [9]) (by kernel_rfl) (by simp) ?_
                  refine AllReadyH.cons (o := ⟨_, _, _, _, _, _⟩) rfl (fun KK hK => ?b79n0) AllReadyH.nil
                  case b79n0 =>
                    have hin := ints_rep HR2
                    have hir : RowI y3 wr.heap.size (some ⟨y0.heap.size, 0, none⟩) (List.replicate n (0 : Int)).length := rowI_rep HR2 lE2
                    have hstx := hst.below HC3
                    have HC : Hid (cxC ((⟨iotaZ n, a2, c2⟩, ⟨List.replicate n 0, some ⟨y0.heap.size, 0, none⟩, n⟩) : QI × QI) = [.int .i64 0, .int .i64 0, .slice a2 n c2, .slice none 0 0, .slice (some ⟨y0.heap.size, 0, none⟩) n n, .int .i64 0]) := by show _ = _; simp [cxC, iotaZ_len]
                    have HC1' : Hid (∀ u ∈ ([.int .i64 0, .int .i64 0, .slice a2 n c2, .slice none 0 0, .slice (some ⟨y0.heap.size, 0, none⟩) n n, .int .i64 0] : List Value), u.oneCell' = true) := by show ∀ u ∈ _, _; rw [← HC.out]; exact cxC_one _
                    have hdj : ∀ b, InI a2 (iotaZ n).length b → ¬ InI (some ⟨y0.heap.size, 0, none⟩) (List.replicate n (0 : Int)).length b := fun b h1 h2 => by rw [iotaZ_len] at h1; obtain ⟨-, o, s, e3⟩ := h2; simp only [Option.some.injEq, Addr.mk.injEq] at e3; exact hne b h1 e3.1.symm
                    have hri : RowI y3 wr.heap.size a2 (iotaZ n).length := by rw [iotaZ_len]; exact HRI2
                    refine step_append_lies _ (by rfl) _ _ 25 (by rfl) x.heap.size 49 i1 _ 6 96 Tryd.underlying25 hi1 hy0 hy1 hy2 rfl (by omega) v ps.length (ps.flatMap cxC) (by rfl) hstx.own ⟨y2.heap.size, 0, none⟩ 1 1 [.int .i64 0, .int .i64 0, .slice a2 n c2, .slice none 0 0, .slice (some ⟨y0.heap.size, 0, none⟩) n n, .int .i64 0] (by rfl) (by rfl) (World.news_of_block (cs := #[.int .i64 0, .int .i64 0, .slice a2 n c2, .slice none 0 0, .slice (some ⟨y0.heap.size, 0, none⟩) n n, .int .i64 0]) (t := 49) (fr := (0, 0)) HD2) HC1'.out (by omega) (by unfold maxLen; omega) (by omega) (by have := HC3.size; have := hst.Bw; omega) (y3.heap.size) rfl ?_
                    intro g2 cap2 w5 HO2 hgrow2 hat2 hlt2
                    rw [← HC.out] at HO2
                    have HN : Hid (CxSt x.heap.size gS u1 (w5.setCell ⟨gS, 3, none⟩ (.slice (some ⟨g2, 0, none⟩) (ps.length + 1) cap2)) (.slice (some ⟨g2, 0, none⟩) (ps.length + 1) cap2) (.slice av n cv) (ps ++ [((⟨iotaZ n, a2, c2⟩, ⟨List.replicate n 0, some ⟨y0.heap.size, 0, none⟩, n⟩) : QI × QI)])) := hst.step HC3 HI2 hri hin hir hdj hgrow2 HO2 hat2
                    have HM : Hid (∀ p ∈ ps ++ [((⟨iotaZ n, a2, c2⟩, ⟨List.replicate n 0, some ⟨y0.heap.size, 0, none⟩, n⟩) : QI × QI)], p.1.zs = iotaZ n ∧ p.2.zs = List.replicate n 0) := fun p hp => by
                      rcases List.mem_append.1 hp with h1 | h1
                      · exact HQ.out p h1
                      · simp at h1; subst h1; exact ⟨rfl, rfl⟩
                    have HL : Hid ((ps ++ [((⟨iotaZ n, a2, c2⟩, ⟨List.replicate n 0, some ⟨y0.heap.size, 0, none⟩, n⟩) : QI × QI)]).length = k + 1) := by show _ = _; rw [List.length_append, HQL.out]; rfl
                    have hvb : ∀ b, v.ownBlock = some b → x.heap.size ≤ b := fun b hb => (hst.own.lt b hb).1
                    have HKN : Hid (∀ b, b < x.heap.size → b ≠ gS → (w5.setCell ⟨gS, 3, none⟩ (.slice (some ⟨g2, 0, none⟩) (ps.length + 1) cap2)).heap[b]? = x.heap[b]?) := fun b hb hne => by
                      rw [Below.heap_setCell _ ⟨gS, _, none⟩ _ b (by simpa using hne), hgrow2.block b (by have := HC3.size; have := hst.Bw; omega) (fun e => by have := hvb b e.symm; omega), HC3.block b (by have := hst.Bw; omega)]
                      exact HKB.out b hb hne
                    have hvS : some gS ≠ v.ownBlock := fun e => by have := (hstx.own.lt gS e.symm).1; have := hst.SB; omega
                    have zc : w5.cell? ⟨gS, 3, none⟩ = some v := (World.cell?_of_block (a := ⟨gS, 3, none⟩) (hgrow2.block gS (lt_of_cell hstx.c0) hvS)).trans hstx.c0
                    have zf : ∀ o, w5.frozen? ⟨gS, o, none⟩ = false := fun o => (World.frozen?_of_block (a := ⟨gS, o, none⟩) (hgrow2.block gS (lt_of_cell hstx.c0) hvS)).trans (hstx.fr o)
                    refine hK.out _ _ trivial (fun hHn => ?_)
                    clear hK KK hHn
                    try simp only [Act.put, List.setIfInBounds_toArray, List.set_cons_zero, List.set_cons_succ]
                    clear hgrow2 hat2 HR2 HD2 hin hir hri hdj hstx HO2 hvS hlt2 HC HC1' hvb HI2 HRI2 hne
                    refine wpAnyH_take (i := 10) (oi := ⟨_, _, _, _, _, _⟩) (v := ?vt80x10) rfl (by kernel_rfl) (by kernel_rfl) (by kernel_rfl) (fun _ _ _ h => h) (Or.inl ⟨by rfl, ?yt80x10⟩) trivial ?rt80x10
                    case yt80x10 => intro w hSw; clear hSw; go_simp; try with_reducible rfl
                    try simp only [Act.put, List.setIfInBounds_toArray, List.set_cons_zero, List.set_cons_succ]
                    refine wpAnyH_ready (rs := [11]) (by kernel_rfl) (by simp) ?_
                    refine AllReadyH.cons (o := ⟨_, _, _, _, _, _⟩) rfl (fun KK hK => ?b81n0) AllReadyH.nil
                    case b81n0 =>
                      go_simp
                      refine hK.out _ _ trivial (fun hHn => ?_)
                      clear hK KK hHn
                      try simp only [Act.put, List.setIfInBounds_toArray, List.set_cons_zero, List.set_cons_succ]
                      refine wpAnyH_done (by kernel_rfl) (NoPanic.normal ?_) _
                      clear zc zf hst
                      go_wp2
                      go_roundw
                      case rel => exact ⟨k + 1, _, _, by omega, by go_num, HL.out, HM.out, HKN.out, HN.out⟩
                      case measure => simp [intOf]; omega
        case b60n1 =>
          have cV0 : y0.cell? ⟨gS, 0, none⟩ = some (.int .i64 0) := celB HC0 hst.e0
          have cV1 : y0.cell? ⟨gS, 1, none⟩ = some (.int .i64 0) := celB HC0 hst.e1
          have cV2 : y0.cell? ⟨gS, 2, none⟩ = some (.slice av n cv) := celB HC0 hst.e2
          go_simp
          refine hK.out _ _ trivial (fun hHn => ?_)
          clear hK KK hHn
          try simp only [Act.put, List.setIfInBounds_toArray, List.set_cons_zero, List.set_cons_succ]
          clear cV0 cV1 cV2
          refine wpAnyH_ready (rs := [1, 4, 6]) (by kernel_rfl) (by simp) ?_
          refine AllReadyH.cons (o := ⟨_, _, _, _, _, _⟩) rfl (fun KK hK => ?b82n0) (AllReadyH.cons (o := ⟨_, _, _, _, _, _⟩) rfl (fun KK hK => ?b82n1) (AllReadyH.cons (o := ⟨_, _, _, _, _, _⟩) rfl (fun KK hK => ?b82n2) AllReadyH.nil))
          case b82n0 =>
            have cL : y0.cell? ⟨gS, 3, none⟩ = some v := celB HC0 hst.c0
            go_simp
            refine hK.out _ _ trivial (fun hHn => ?_)
            clear hK KK hHn
            try simp only [Act.put, List.setIfInBounds_toArray, List.set_cons_zero, List.set_cons_succ]
            clear cL
            refine wpAnyH_ready (rs := [4, 6]) (by kernel_rfl) (by simp) ?_
            refine AllReadyH.cons (o := ⟨_, _, _, _, _, _⟩) rfl (fun KK hK => ?b83n0) (AllReadyH.cons (o := ⟨_, _, _, _, _, _⟩) rfl (fun KK hK => ?b83n1) AllReadyH.nil)
            case b83n0 =>
              go_simp
              refine (copyView_any 0 0 av cv n (iotaZ n) (iotaZ_len n) _ (HIw.below HC0) (by omega)).mono ?_
              rintro r y1 ⟨a2, c2, rfl, HI2, HRI2, hBk⟩
              replace HRI2 := HRI2.mono (B' := wr.heap.size) HC0.size
              have HC1 : Below wr.heap.size wr y1 := stCu HC0 hBk
              clear hBk
              go_wp2_with fail
              refine hK.out _ _ trivial (fun hHn => ?_)
              clear hK KK hHn
              try simp only [Act.put, List.setIfInBounds_toArray, List.set_cons_zero, List.set_cons_succ]
              refine wpAnyH_ready (rs := [6]) (by kernel_rfl) (by simp) ?_
              refine AllReadyH.cons (o := ⟨_, _, _, _, _, _⟩) rfl (fun KK hK => ?b84n0) AllReadyH.nil
              case b84n0 =>
                obtain ⟨y2, hy2⟩ : ∃ u, y1.alloc (.cells (madeCells #[Value.int .i64 0] n) 3) = u := ⟨_, rfl⟩
                have HR2 : y2.rowIs y1.heap.size 3 n (fun _ => .int .i64 0) := by rw [← hy2]; exact World.rowIs_made _ _ _ _
                have lE2 : wr.heap.size ≤ y1.heap.size := HC1.size
                have hne : ∀ b, InI a2 n b → b ≠ y1.heap.size := fun b hb e => by have := (HRI2.lt hb).2; omega
                have BE : Below y1.heap.size y1 y2 := by rw [← hy2]; exact alCu _ _
                have HC2 : Below wr.heap.size wr y2 := stCu HC1 BE
                replace HI2 := HI2.below BE
                replace HRI2 := HRI2.below BE
                go_simp
                refine hK.out _ _ trivial (fun hHn => ?_)
                clear hK KK hHn
                try simp only [Act.put, List.setIfInBounds_toArray, List.set_cons_zero, List.set_cons_succ]
                clear hy2 BE
                refine wpAnyH_take (i := 7) (oi := ⟨_, _, _, _, _, _⟩) (v := ?vt85x7) rfl (by kernel_rfl) (by kernel_rfl) (by kernel_rfl) (fun _ _ _ h => h) (Or.inl ⟨by rfl, ?yt85x7⟩) trivial ?rt85x7
                case yt85x7 => intro w hSw; clear hSw; go_simp; try with_reducible rfl
                try simp only [Act.put, List.setIfInBounds_toArray, List.set_cons_zero, List.set_cons_succ]
                refine wpAnyH_ready (rs := [8]) (by kernel_rfl) (by simp) ?_
                refine AllReadyH.cons (o := ⟨_, _, _, _, _, _⟩) rfl (fun KK hK => ?b86n0) AllReadyH.nil
                case b86n0 =>
                  obtain ⟨y3, hy3⟩ : ∃ u, y2.alloc (.cells #[.int .i64 0, .int .i64 0, .slice a2 n c2, .slice none 0 0, .slice (some ⟨y1.heap.size, 0, none⟩) n n, .int .i64 0] 49) = u := ⟨_, rfl⟩
                  have HD2 : y3.heap[y2.heap.size]? = some (.cells #[.int .i64 0, .int .i64 0, .slice a2 n c2, .slice none 0 0, .slice (some ⟨y1.heap.size, 0, none⟩) n n, .int .i64 0] 49 (0, 0)) := by rw [← hy3]; exact heap_alloc_new _ _
                  have BE : Below y2.heap.size y2 y3 := by rw [← hy3]; exact alCu _ _
                  have HC3 : Below wr.heap.size wr y3 := stCu HC2 BE
                  replace HR2 := HR2.of_block (BE.block _ HR2.lt)
                  replace HI2 := HI2.below BE
                  replace HRI2 := HRI2.below BE
                  go_simp
                  refine hK.out _ _ trivial (fun hHn => ?_)
                  clear hK KK hHn
                  try simp only [Act.put, List.setIfInBounds_toArray, List.set_cons_zero, List.set_cons_succ]
                  clear hy3 BE
                  refine wpAnyH_ready (rs := [9]) (by kernel_rfl) (by simp) ?_
                  refine AllReadyH.cons (o := ⟨_, _, _, _, _, _⟩) rfl (fun KK hK => ?b87n0) AllReadyH.nil
                  case b87n0 =>
                    have hin := ints_rep HR2
                    have hir : RowI y3 wr.heap.size (some ⟨y1.heap.size, 0, none⟩) (List.replicate n (0 : Int)).length := rowI_rep HR2 lE2
                    have hstx := hst.below HC3
                    have HC : Hid (cxC ((⟨iotaZ n, a2, c2⟩, ⟨List.replicate n 0, some ⟨y1.heap.size, 0, none⟩, n⟩) : QI × QI) = [.int .i64 0, .int .i64 0, .slice a2 n c2, .slice none 0 0, .slice (some ⟨y1.heap.size, 0, none⟩) n n, .int .i64 0]) := by show _ = _; simp [cxC, iotaZ_len]
                    have HC1' : Hid (∀ u ∈ ([.int .i64 0, .int .i64 0, .slice a2 n c2, .slice none 0 0, .slice (some ⟨y1.heap.size, 0, none⟩) n n, .int .i64 0] : List Value), u.oneCell' = true) := by show ∀ u ∈ _, _; rw [← HC.out]; exact cxC_one _
                    have hdj : ∀ b, InI a2 (iotaZ n).length b → ¬ InI (some ⟨y1.heap.size, 0, none⟩) (List.replicate n (0 : Int)).length b := fun b h1 h2 => by rw [iotaZ_len] at h1; obtain ⟨-, o, s, e3⟩ := h2; simp only [Option.some.injEq, Addr.mk.injEq] at e3; exact hne b h1 e3.1.symm
                    have hri : RowI y3 wr.heap.size a2 (iotaZ n).length := by rw [iotaZ_len]; exact HRI2
                    refine step_append_lies _ (by rfl) _ _ 25 (by rfl) x.heap.size 49 i1 _ 6 96 Tryd.underlying25 hi1 hy0 hy1 hy2 rfl (by omega) v ps.length (ps.flatMap cxC) (by rfl) hstx.own ⟨y2.heap.size, 0, none⟩ 1 1 [.int .i64 0, .int .i64 0, .slice a2 n c2, .slice none 0 0, .slice (some ⟨y1.heap.size, 0, none⟩) n n, .int .i64 0] (by rfl) (by rfl) (World.news_of_block (cs := #[.int .i64 0, .int .i64 0, .slice a2 n c2, .slice none 0 0, .slice (some ⟨y1.heap.size, 0, none⟩) n n, .int .i64 0]) (t := 49) (fr := (0, 0)) HD2) HC1'.out (by omega) (by unfold maxLen; omega) (by omega) (by have := HC3.size; have := hst.Bw; omega) (y3.heap.size) rfl ?_
                    intro g2 cap2 w5 HO2 hgrow2 hat2 hlt2
                    rw [← HC.out] at HO2
                    have HN : Hid (CxSt x.heap.size gS u1 (w5.setCell ⟨gS, 3, none⟩ (.slice (some ⟨g2, 0, none⟩) (ps.length + 1) cap2)) (.slice (some ⟨g2, 0, none⟩) (ps.length + 1) cap2) (.slice av n cv) (ps ++ [((⟨iotaZ n, a2, c2⟩, ⟨List.replicate n 0, some ⟨y1.heap.size, 0, none⟩, n⟩) : QI × QI)])) := hst.step HC3 HI2 hri hin hir hdj hgrow2 HO2 hat2
                    have HM : Hid (∀ p ∈ ps ++ [((⟨iotaZ n, a2, c2⟩, ⟨List.replicate n 0, some ⟨y1.heap.size, 0, none⟩, n⟩) : QI × QI)], p.1.zs = iotaZ n ∧ p.2.zs = List.replicate n 0) := fun p hp => by
                      rcases List.mem_append.1 hp with h1 | h1
                      · exact HQ.out p h1
                      · simp at h1; subst h1; exact ⟨rfl, rfl⟩
                    have HL : Hid ((ps ++ [((⟨iotaZ n, a2, c2⟩, ⟨List.replicate n 0, some ⟨y1.heap.size, 0, none⟩, n⟩) : QI × QI)]).length = k + 1) := by show _ = _; rw [List.length_append, HQL.out]; rfl
                    have hvb : ∀ b, v.ownBlock = some b → x.heap.size ≤ b := fun b hb => (hst.own.lt b hb).1
                    have HKN : Hid (∀ b, b < x.heap.size → b ≠ gS → (w5.setCell ⟨gS, 3, none⟩ (.slice (some ⟨g2, 0, none⟩) (ps.length + 1) cap2)).heap[b]? = x.heap[b]?) := fun b hb hne => by
                      rw [Below.heap_setCell _ ⟨gS, _, none⟩ _ b (by simpa using hne), hgrow2.block b (by have := HC3.size; have := hst.Bw; omega) (fun e => by have := hvb b e.symm; omega), HC3.block b (by have := hst.Bw; omega)]
                      exact HKB.out b hb hne
                    have hvS : some gS ≠ v.ownBlock := fun e => by have := (hstx.own.lt gS e.symm).1; have := hst.SB; omega
                    have zc : w5.cell? ⟨gS, 3, none⟩ = some v := (World.cell?_of_block (a := ⟨gS, 3, none⟩) (hgrow2.block gS (lt_of_cell hstx.c0) hvS)).trans hstx.c0
                    have zf : ∀ o, w5.frozen? ⟨gS, o, none⟩ = false := fun o => (World.frozen?_of_block (a := ⟨gS, o, none⟩) (hgrow2.block gS (lt_of_cell hstx.c0) hvS)).trans (hstx.fr o)
                    refine hK.out _ _ trivial (fun hHn => ?_)
                    clear hK KK hHn
                    try simp only [Act.put, List.setIfInBounds_toArray, List.set_cons_zero, List.set_cons_succ]
                    clear hgrow2 hat2 HR2 HD2 hin hir hri hdj hstx HO2 hvS hlt2 HC HC1' hvb HI2 HRI2 hne
                    refine wpAnyH_take (i := 10) (oi := ⟨_, _, _, _, _, _⟩) (v := ?vt88x10) rfl (by kernel_rfl) (by kernel_rfl) (by kernel_rfl) (fun _ _ _ h => h) (Or.inl ⟨by rfl, ?yt88x10⟩) trivial ?rt88x10
                    case yt88x10 => intro w hSw; clear hSw; go_simp; try with_reducible rfl
                    try simp only [Act.put, List.setIfInBounds_toArray, List.set_cons_zero, List.set_cons_succ]
                    refine wpAnyH_ready (rs := [11]) (by kernel_rfl) (by simp) ?_
                    refine AllReadyH.cons (o := ⟨_, _, _, _, _, _⟩) rfl (fun KK hK => ?b89n0) AllReadyH.nil
                    case b89n0 =>
                      go_simp
                      refine hK.out _ _ trivial (fun hHn => ?_)
                      clear hK KK hHn
                      try simp only [Act.put, List.setIfInBounds_toArray, List.set_cons_zero, List.set_cons_succ]
                      refine wpAnyH_done (by kernel_rfl) (NoPanic.normal ?_) _
                      clear zc zf hst
                      go_wp2
                      go_roundw
                      case rel => exact ⟨k + 1, _, _, by omega, by go_num, HL.out, HM.out, HKN.out, HN.out⟩
                      case measure => simp [intOf]; omega
            case b83n1 =>
              obtain ⟨y1, hy1⟩ : ∃ u, y0.alloc (.cells (madeCells #[Value.int .i64 0] n) 3) = u := ⟨_, rfl⟩
              have HR2 : y1.rowIs y0.heap.size 3 n (fun _ => .int .i64 0) := by rw [← hy1]; exact World.rowIs_made _ _ _ _
              have lE2 : wr.heap.size ≤ y0.heap.size := HC0.size
              have BE : Below y0.heap.size y0 y1 := by rw [← hy1]; exact alCu _ _
              have HC1 : Below wr.heap.size wr y1 := stCu HC0 BE
              go_simp
              refine hK.out _ _ trivial (fun hHn => ?_)
              clear hK KK hHn
              try simp only [Act.put, List.setIfInBounds_toArray, List.set_cons_zero, List.set_cons_succ]
              clear hy1 BE
              refine wpAnyH_ready (rs := [4]) (by kernel_rfl) (by simp) ?_
              refine AllReadyH.cons (o := ⟨_, _, _, _, _, _⟩) rfl (fun KK hK => ?b90n0) AllReadyH.nil
              case b90n0 =>
                go_simp
                refine (copyView_any 0 0 av cv n (iotaZ n) (iotaZ_len n) _ (HIw.below HC1) (by omega)).mono ?_
                rintro r y2 ⟨a2, c2, rfl, HI2, HRI2, hBk⟩
                have hne : ∀ b, InI a2 n b → b ≠ y0.heap.size := fun b hb e => by have := (HRI2.lt hb).1; have := HR2.lt; omega
                replace HR2 := HR2.of_block (hBk.block _ HR2.lt)
                replace HRI2 := HRI2.mono (B' := wr.heap.size) HC1.size
                have HC2 : Below wr.heap.size wr y2 := stCu HC1 hBk
                clear hBk
                go_wp2_with fail
                refine hK.out _ _ trivial (fun hHn => ?_)
                clear hK KK hHn
                try simp only [Act.put, List.setIfInBounds_toArray, List.set_cons_zero, List.set_cons_succ]
                refine wpAnyH_take (i := 7) (oi := ⟨_, _, _, _, _, _⟩) (v := ?vt91x7) rfl (by kernel_rfl) (by kernel_rfl) (by kernel_rfl) (fun _ _ _ h => h) (Or.inl ⟨by rfl, ?yt91x7⟩) trivial ?rt91x7
                case yt91x7 => intro w hSw; clear hSw; go_simp; try with_reducible rfl
                try simp only [Act.put, List.setIfInBounds_toArray, List.set_cons_zero, List.set_cons_succ]
                refine wpAnyH_ready (rs := [8]) (by kernel_rfl) (by simp) ?_
                refine AllReadyH.cons (o := ⟨_, _, _, _, _, _⟩) rfl (fun KK hK => ?b92n0) AllReadyH.nil
                case b92n0 =>
                  obtain ⟨y3, hy3⟩ : ∃ u, y2.alloc (.cells #[.int .i64 0, .int .i64 0, .slice a2 n c2, .slice none 0 0, .slice (some ⟨y0.heap.size, 0, none⟩) n n, .int .i64 0] 49) = u := ⟨_, rfl⟩
                  have HD2 : y3.heap[y2.heap.size]? = some (.cells #[.int .i64 0, .int .i64 0, .slice a2 n c2, .slice none 0 0, .slice (some ⟨y0.heap.size, 0, none⟩) n n, .int .i64 0] 49 (0, 0)) := by rw [← hy3]; exact heap_alloc_new _ _
                  have BE : Below y2.heap.size y2 y3 := by rw [← hy3]; exact alCu _ _
                  have HC3 : Below wr.heap.size wr y3 := stCu HC2 BE
                  replace HR2 := HR2.of_block (BE.block _ HR2.lt)
                  replace HI2 := HI2.below BE
                  replace HRI2 := HRI2.below BE
                  go_simp
                  refine hK.out _ _ trivial (fun hHn => ?_)
                  clear hK KK hHn
                  try simp only [Act.put, List.setIfInBounds_toArray, List.set_cons_zero, List.set_cons_succ]
                  clear hy3 BE
                  refine wpAnyH_ready (rs := [9]) (by kernel_rfl) (by simp) ?_
                  refine AllReadyH.cons (o := ⟨_, _, _, _, _, _⟩) rfl (fun KK hK => ?b93n0) AllReadyH.nil
                  case b93n0 =>
                    have hin := ints_rep HR2
                    have hir : RowI y3 wr.heap.size (some ⟨y0.heap.size, 0, none⟩) (List.replicate n (0 : Int)).length := rowI_rep HR2 lE2
                    have hstx := hst.below HC3
                    have HC : Hid (cxC ((⟨iotaZ n, a2, c2⟩, ⟨List.replicate n 0, some ⟨y0.heap.size, 0, none⟩, n⟩) : QI × QI) = [.int .i64 0, .int .i64 0, .slice a2 n c2, .slice none 0 0, .slice (some ⟨y0.heap.size, 0, none⟩) n n, .int .i64 0]) := by show _ = _; simp [cxC, iotaZ_len]
                    have HC1' : Hid (∀ u ∈ ([.int .i64 0, .int .i64 0, .slice a2 n c2, .slice none 0 0, .slice (some ⟨y0.heap.size, 0, none⟩) n n, .int .i64 0] : List Value), u.oneCell' = true) := by show ∀ u ∈ _, _; rw [← HC.out]; exact cxC_one _
                    have hdj : ∀ b, InI a2 (iotaZ n).length b → ¬ InI (some ⟨y0.heap.size, 0, none⟩) (List.replicate n (0 : Int)).length b := fun b h1 h2 => by rw [iotaZ_len] at h1; obtain ⟨-, o, s, e3⟩ := h2; simp only [Option.some.injEq, Addr.mk.injEq] at e3; exact hne b h1 e3.1.symm
                    have hri : RowI y3 wr.heap.size a2 (iotaZ n).length := by rw [iotaZ_len]; exact HRI2
                    refine step_append_lies _ (by rfl) _ _ 25 (by rfl) x.heap.size 49 i1 _ 6 96 Tryd.underlying25 hi1 hy0 hy1 hy2 rfl (by omega) v ps.length (ps.flatMap cxC) (by rfl) hstx.own ⟨y2.heap.size, 0, none⟩ 1 1 [.int .i64 0, .int .i64 0, .slice a2 n c2, .slice none 0 0, .slice (some ⟨y0.heap.size, 0, none⟩) n n, .int .i64 0] (by rfl) (by rfl) (World.news_of_block (cs := #[.int .i64 0, .int .i64 0, .slice a2 n c2, .slice none 0 0, .slice (some ⟨y0.heap.size, 0, none⟩) n n, .int .i64 0]) (t := 49) (fr := (0, 0)) HD2) HC1'.out (by omega) (by unfold maxLen; omega) (by omega) (by have := HC3.size; have := hst.Bw; omega) (y3.heap.size) rfl ?_
                    intro g2 cap2 w5 HO2 hgrow2 hat2 hlt2
                    rw [← HC.out] at HO2
                    have HN : Hid (CxSt x.heap.size gS u1 (w5.setCell ⟨gS, 3, none⟩ (.slice (some ⟨g2, 0, none⟩) (ps.length + 1) cap2)) (.slice (some ⟨g2, 0, none⟩) (ps.length + 1) cap2) (.slice av n cv) (ps ++ [((⟨iotaZ n, a2, c2⟩, ⟨List.replicate n 0, some ⟨y0.heap.size, 0, none⟩, n⟩) : QI × QI)])) := hst.step HC3 HI2 hri hin hir hdj hgrow2 HO2 hat2
                    have HM : Hid (∀ p ∈ ps ++ [((⟨iotaZ n, a2, c2⟩, ⟨List.replicate n 0, some ⟨y0.heap.size, 0, none⟩, n⟩) : QI × QI)], p.1.zs = iotaZ n ∧ p.2.zs = List.replicate n 0) := fun p hp => by
                      rcases List.mem_append.1 hp with h1 | h1
                      · exact HQ.out p h1
                      · simp at h1; subst h1; exact ⟨rfl, rfl⟩
                    have HL : Hid ((ps ++ [((⟨iotaZ n, a2, c2⟩, ⟨List.replicate n 0, some ⟨y0.heap.size, 0, none⟩, n⟩) : QI × QI)]).length = k + 1) := by show _ = _; rw [List.length_append, HQL.out]; rfl
                    have hvb : ∀ b, v.ownBlock = some b → x.heap.size ≤ b := fun b hb => (hst.own.lt b hb).1
                    have HKN : Hid (∀ b, b < x.heap.size → b ≠ gS → (w5.setCell ⟨gS, 3, none⟩ (.slice (some ⟨g2, 0, none⟩) (ps.length + 1) cap2)).heap[b]? = x.heap[b]?) := fun b hb hne => by
                      rw [Below.heap_setCell _ ⟨gS, _, none⟩ _ b (by simpa using hne), hgrow2.block b (by have := HC3.size; have := hst.Bw; omega) (fun e => by have := hvb b e.symm; omega), HC3.block b (by have := hst.Bw; omega)]
                      exact HKB.out b hb hne
                    have hvS : some gS ≠ v.ownBlock := fun e => by have := (hstx.own.lt gS e.symm).1; have := hst.SB; omega
                    have zc : w5.cell? ⟨gS, 3, none⟩ = some v := (World.cell?_of_block (a := ⟨gS, 3, none⟩) (hgrow2.block gS (lt_of_cell hstx.c0) hvS)).trans hstx.c0
                    have zf : ∀ o, w5.frozen? ⟨gS, o, none⟩ = false := fun o => (World.frozen?_of_block (a := ⟨gS, o, none⟩) (hgrow2.block gS (lt_of_cell hstx.c0) hvS)).trans (hstx.fr o)
                    refine hK.out _ _ trivial (fun hHn => ?_)
                    clear hK KK hHn
                    try simp only [Act.put, List.setIfInBounds_toArray, List.set_cons_zero, List.set_cons_succ]
                    clear hgrow2 hat2 HR2 HD2 hin hir hri hdj hstx HO2 hvS hlt2 HC HC1' hvb HI2 HRI2 hne
                    refine wpAnyH_take (i := 10) (oi := ⟨_, _, _, _, _, _⟩) (v := ?vt94x10) rfl (by kernel_rfl) (by kernel_rfl) (by kernel_rfl) (fun _ _ _ h => h) (Or.inl ⟨by rfl, ?yt94x10⟩) trivial ?rt94x10
                    case yt94x10 => intro w hSw; clear hSw; go_simp; try with_reducible rfl
                    try simp only [Act.put, List.setIfInBounds_toArray, List.set_cons_zero, List.set_cons_succ]
                    refine wpAnyH_ready (rs := [11]) (by kernel_rfl) (by simp) ?_
                    refine AllReadyH.cons (o := ⟨_, _, _, _, _, _⟩) rfl (fun KK hK => ?b95n0) AllReadyH.nil
                    case b95n0 =>
                      go_simp
                      refine hK.out _ _ trivial (fun hHn => ?_)
                      clear hK KK hHn
                      try simp only [Act.put, List.setIfInBounds_toArray, List.set_cons_zero, List.set_cons_succ]
                      refine wpAnyH_done (by kernel_rfl) (NoPanic.normal ?_) _
                      clear zc zf hst
                      go_wp2
                      go_roundw
                      case rel => exact ⟨k + 1, _, _, by omega, by go_num, HL.out, HM.out, HKN.out, HN.out⟩
                      case measure => simp [intOf]; omega
          case b82n1 =>
            go_simp
            refine (copyView_any 0 0 av cv n (iotaZ n) (iotaZ_len n) _ (HIw.below HC0) (by omega)).mono ?_
            rintro r y1 ⟨a2, c2, rfl, HI2, HRI2, hBk⟩
            replace HRI2 := HRI2.mono (B' := wr.heap.size) HC0.size
            have HC1 : Below wr.heap.size wr y1 := stCu HC0 hBk
            clear hBk
            go_wp2_with fail
            refine hK.out _ _ trivial (fun hHn => ?_)
            clear hK KK hHn
            try simp only [Act.put, List.setIfInBounds_toArray, List.set_cons_zero, List.set_cons_succ]
            refine wpAnyH_ready (rs := [1, 6]) (by kernel_rfl) (by simp) ?_
            refine AllReadyH.cons (o := ⟨_, _, _, _, _, _⟩) rfl (fun KK hK => ?b96n0) (AllReadyH.cons (o := ⟨_, _, _, _, _, _⟩) rfl (fun KK hK => ?b96n1) AllReadyH.nil)
            case b96n0 =>
              have cL : y1.cell? ⟨gS, 3, none⟩ = some v := celB HC1 hst.c0
              go_simp
              refine hK.out _ _ trivial (fun hHn => ?_)
              clear hK KK hHn
              try simp only [Act.put, List.setIfInBounds_toArray, List.set_cons_zero, List.set_cons_succ]
              clear cL
              refine wpAnyH_ready (rs := [6]) (by kernel_rfl) (by simp) ?_
              refine AllReadyH.cons (o := ⟨_, _, _, _, _, _⟩) rfl (fun KK hK => ?b97n0) AllReadyH.nil
              case b97n0 =>
                obtain ⟨y2, hy2⟩ : ∃ u, y1.alloc (.cells (madeCells #[Value.int .i64 0] n) 3) = u := ⟨_, rfl⟩
                have HR2 : y2.rowIs y1.heap.size 3 n (fun _ => .int .i64 0) := by rw [← hy2]; exact World.rowIs_made _ _ _ _
                have lE2 : wr.heap.size ≤ y1.heap.size := HC1.size
                have hne : ∀ b, InI a2 n b → b ≠ y1.heap.size := fun b hb e => by have := (HRI2.lt hb).2; omega
                have BE : Below y1.heap.size y1 y2 := by rw [← hy2]; exact alCu _ _
                have HC2 : Below wr.heap.size wr y2 := stCu HC1 BE
                replace HI2 := HI2.below BE
                replace HRI2 := HRI2.below BE
                go_simp
                refine hK.out _ _ trivial (fun hHn => ?_)
                clear hK KK hHn
                try simp only [Act.put, List.setIfInBounds_toArray, List.set_cons_zero, List.set_cons_succ]
                clear hy2 BE
                refine wpAnyH_take (i := 7) (oi := ⟨_, _, _, _, _, _⟩) (v := ?vt98x7) rfl (by kernel_rfl) (by kernel_rfl) (by kernel_rfl) (fun _ _ _ h => h) (Or.inl ⟨by rfl, ?yt98x7⟩) trivial ?rt98x7
                case yt98x7 => intro w hSw; clear hSw; go_simp; try with_reducible rfl
                try simp only [Act.put, List.setIfInBounds_toArray, List.set_cons_zero, List.set_cons_succ]
                refine wpAnyH_ready (rs := [8]) (by kernel_rfl) (by simp) ?_
                refine AllReadyH.cons (o := ⟨_, _, _, _, _, _⟩) rfl (fun KK hK => ?b99n0) AllReadyH.nil
                case b99n0 =>
                  obtain ⟨y3, hy3⟩ : ∃ u, y2.alloc (.cells #[.int .i64 0, .int .i64 0, .slice a2 n c2, .slice none 0 0, .slice (some ⟨y1.heap.size, 0, none⟩) n n, .int .i64 0] 49) = u := ⟨_, rfl⟩
                  have HD2 : y3.heap[y2.heap.size]? = some (.cells #[.int .i64 0, .int .i64 0, .slice a2 n c2, .slice none 0 0, .slice (some ⟨y1.heap.size, 0, none⟩) n n, .int .i64 0] 49 (0, 0)) := by rw [← hy3]; exact heap_alloc_new _ _
                  have BE : Below y2.heap.size y2 y3 := by rw [← hy3]; exact alCu _ _
                  have HC3 : Below wr.heap.size wr y3 := stCu HC2 BE
                  replace HR2 := HR2.of_block (BE.block _ HR2.lt)
                  replace HI2 := HI2.below BE
                  replace HRI2 := HRI2.below BE
                  go_simp
                  refine hK.out _ _ trivial (fun hHn => ?_)
                  clear hK KK hHn
                  try simp only [Act.put, List.setIfInBounds_toArray, List.set_cons_zero, List.set_cons_succ]
                  clear hy3 BE
                  refine wpAnyH_ready (rs := [9]) (by kernel_rfl) (by simp) ?_
                  refine AllReadyH.cons (o := ⟨_, _, _, _, _, _⟩) rfl (fun KK hK => ?b100n0) AllReadyH.nil
                  case b100n0 =>
                    have hin := ints_rep HR2
                    have hir : RowI y3 wr.heap.size (some ⟨y1.heap.size, 0, none⟩) (List.replicate n (0 : Int)).length := rowI_rep HR2 lE2
                    have hstx := hst.below HC3
                    have HC : Hid (cxC ((⟨iotaZ n, a2, c2⟩, ⟨List.replicate n 0, some ⟨y1.heap.size, 0, none⟩, n⟩) : QI × QI) = [.int .i64 0, .int .i64 0, .slice a2 n c2, .slice none 0 0, .slice (some ⟨y1.heap.size, 0, none⟩) n n, .int .i64 0]) := by show _ = _; simp [cxC, iotaZ_len]
                    have HC1' : Hid (∀ u ∈ ([.int .i64 0, .int .i64 0, .slice a2 n c2, .slice none 0 0, .slice (some ⟨y1.heap.size, 0, none⟩) n n, .int .i64 0] : List Value), u.oneCell' = true) := by show ∀ u ∈ _, _; rw [← HC.out]; exact cxC_one _
                    have hdj : ∀ b, InI a2 (iotaZ n).length b → ¬ InI (some ⟨y1.heap.size, 0, none⟩) (List.replicate n (0 : Int)).length b := fun b h1 h2 => by rw [iotaZ_len] at h1; obtain ⟨-, o, s, e3⟩ := h2; simp only [Option.some.injEq, Addr.mk.injEq] at e3; exact hne b h1 e3.1.symm
                    have hri : RowI y3 wr.heap.size a2 (iotaZ n).length := by rw [iotaZ_len]; exact HRI2
                    refine step_append_lies _ (by rfl) _ _ 25 (by rfl) x.heap.size 49 i1 _ 6 96 Tryd.underlying25 hi1 hy0 hy1 hy2 rfl (by omega) v ps.length (ps.flatMap cxC) (by rfl) hstx.own ⟨y2.heap.size, 0, none⟩ 1 1 [.int .i64 0, .int .i64 0, .slice a2 n c2, .slice none 0 0, .slice (some ⟨y1.heap.size, 0, none⟩) n n, .int .i64 0] (by rfl) (by rfl) (World.news_of_block (cs := #[.int .i64 0, .int .i64 0, .slice a2 n c2, .slice none 0 0, .slice (some ⟨y1.heap.size, 0, none⟩) n n, .int .i64 0]) (t := 49) (fr := (0, 0)) HD2) HC1'.out (by omega) (by unfold maxLen; omega) (by omega) (by have := HC3.size; have := hst.Bw; omega) (y3.heap.size) rfl ?_
                    intro g2 cap2 w5 HO2 hgrow2 hat2 hlt2
                    rw [← HC.out] at HO2
                    have HN : Hid (CxSt x.heap.size gS u1 (w5.setCell ⟨gS, 3, none⟩ (.slice (some ⟨g2, 0, none⟩) (ps.length + 1) cap2)) (.slice (some ⟨g2, 0, none⟩) (ps.length + 1) cap2) (.slice av n cv) (ps ++ [((⟨iotaZ n, a2, c2⟩, ⟨List.replicate n 0, some ⟨y1.heap.size, 0, none⟩, n⟩) : QI × QI)])) := hst.step HC3 HI2 hri hin hir hdj hgrow2 HO2 hat2
                    have HM : Hid (∀ p ∈ ps ++ [((⟨iotaZ n, a2, c2⟩, ⟨List.replicate n 0, some ⟨y1.heap.size, 0, none⟩, n⟩) : QI × QI)], p.1.zs = iotaZ n ∧ p.2.zs = List.replicate n 0) := fun p hp => by
                      rcases List.mem_append.1 hp with h1 | h1
                      · exact HQ.out p h1
                      · simp at h1; subst h1; exact ⟨rfl, rfl⟩
                    have HL : Hid ((ps ++ [((⟨iotaZ n, a2, c2⟩, ⟨List.replicate n 0, some ⟨y1.heap.size, 0, none⟩, n⟩) : QI × QI)]).length = k + 1) := by show _ = _; rw [List.length_append, HQL.out]; rfl
                    have hvb : ∀ b, v.ownBlock = some b → x.heap.size ≤ b := fun b hb => (hst.own.lt b hb).1
                    have HKN : Hid (∀ b, b < x.heap.size → b ≠ gS → (w5.setCell ⟨gS, 3, none⟩ (.slice (some ⟨g2, 0, none⟩) (ps.length + 1) cap2)).heap[b]? = x.heap[b]?) := fun b hb hne => by
                      rw [Below.heap_setCell _ ⟨gS, _, none⟩ _ b (by simpa using hne), hgrow2.block b (by have := HC3.size; have := hst.Bw; omega) (fun e => by have := hvb b e.symm; omega), HC3.block b (by have := hst.Bw; omega)]
                      exact HKB.out b hb hne
                    have hvS : some gS ≠ v.ownBlock := fun e => by have := (hstx.own.lt gS e.symm).1; have := hst.SB; omega
                    have zc : w5.cell? ⟨gS, 3, none⟩ = some v := (World.cell?_of_block (a := ⟨gS, 3, none⟩) (hgrow2.block gS (lt_of_cell hstx.c0) hvS)).trans hstx.c0
                    have zf : ∀ o, w5.frozen? ⟨gS, o, none⟩ = false := fun o => (World.frozen?_of_block (a := ⟨gS, o, none⟩) (hgrow2.block gS (lt_of_cell hstx.c0) hvS)).trans (hstx.fr o)
                    refine hK.out _ _ trivial (fun hHn => ?_)
                    clear hK KK hHn
                    try simp only [Act.put, List.setIfInBounds_toArray, List.set_cons_zero, List.set_cons_succ]
                    clear hgrow2 hat2 HR2 HD2 hin hir hri hdj hstx HO2 hvS hlt2 HC HC1' hvb HI2 HRI2 hne
                    refine wpAnyH_take (i := 10) (oi := ⟨_, _, _, _, _, _⟩) (v := ?vt101x10) rfl (by kernel_rfl) (by kernel_rfl) (by kernel_rfl) (fun _ _ _ h => h) (Or.inl ⟨by rfl, ?yt101x10⟩) trivial ?rt101x10
                    case yt101x10 => intro w hSw; clear hSw; go_simp; try with_reducible rfl
                    try simp only [Act.put, List.setIfInBounds_toArray, List.set_cons_zero, List.set_cons_succ]
                    refine wpAnyH_ready (rs := [11]) (by kernel_rfl) (by simp) ?_
                    refine AllReadyH.cons (o := ⟨_, _, _, _, _, _⟩) rfl (fun KK hK => ?b102n0) AllReadyH.nil
                    case b102n0 =>
                      go_simp
                      refine hK.out _ _ trivial (fun hHn => ?_)
                      clear hK KK hHn
                      try simp only [Act.put, List.setIfInBounds_toArray, List.set_cons_zero, List.set_cons_succ]
                      refine wpAnyH_done (by kernel_rfl) (NoPanic.normal ?_) _
                      clear zc zf hst
                      go_wp2
                      go_roundw
                      case rel => exact ⟨k + 1, _, _, by omega, by go_num, HL.out, HM.out, HKN.out, HN.out⟩
                      case measure => simp [intOf]; omega
            case b96n1 =>
              obtain ⟨y2, hy2⟩ : ∃ u, y1.alloc (.cells (madeCells #[Value.int .i64 0] n) 3) = u := ⟨_, rfl⟩
              have HR2 : y2.rowIs y1.heap.size 3 n (fun _ => .int .i64 0) := by rw [← hy2]; exact World.rowIs_made _ _ _ _
              have lE2 : wr.heap.size ≤ y1.heap.size := HC1.size
              have hne : ∀ b, InI a2 n b → b ≠ y1.heap.size := fun b hb e => by have := (HRI2.lt hb).2; omega
              have BE : Below y1.heap.size y1 y2 := by rw [← hy2]; exact alCu _ _
              have HC2 : Below wr.heap.size wr y2 := stCu HC1 BE
              replace HI2 := HI2.below BE
              replace HRI2 := HRI2.below BE
              go_simp
              refine hK.out _ _ trivial (fun hHn => ?_)
              clear hK KK hHn
              try simp only [Act.put, List.setIfInBounds_toArray, List.set_cons_zero, List.set_cons_succ]
              clear hy2 BE
              refine wpAnyH_take (i := 7) (oi := ⟨_, _, _, _, _, _⟩) (v := ?vt103x7) rfl (by kernel_rfl) (by kernel_rfl) (by kernel_rfl) (fun _ _ _ h => h) (Or.inl ⟨by rfl, ?yt103x7⟩) trivial ?rt103x7
              case yt103x7 => intro w hSw; clear hSw; go_simp; try with_reducible rfl
              try simp only [Act.put, List.setIfInBounds_toArray, List.set_cons_zero, List.set_cons_succ]
              refine wpAnyH_ready (rs := [1, 8]) (by kernel_rfl) (by simp) ?_
              refine AllReadyH.cons (o := ⟨_, _, _, _, _, _⟩) rfl (fun KK hK => ?b104n0) (AllReadyH.cons (o := ⟨_, _, _, _, _, _⟩) rfl (fun KK hK => ?b104n1) AllReadyH.nil)
              case b104n0 =>
                have cL : y2.cell? ⟨gS, 3, none⟩ = some v := celB HC2 hst.c0
                go_simp
                refine hK.out _ _ trivial (fun hHn => ?_)
                clear hK KK hHn
                try simp only [Act.put, List.setIfInBounds_toArray, List.set_cons_zero, List.set_cons_succ]
                clear cL
                refine wpAnyH_ready (rs := [8]) (by kernel_rfl) (by simp) ?_
                refine AllReadyH.cons (o := ⟨_, _, _, _, _, _⟩) rfl (fun KK hK => ?b105n0) AllReadyH.nil
                case b105n0 =>
                  obtain ⟨y3, hy3⟩ : ∃ u, y2.alloc (.cells #[.int .i64 0, .int .i64 0, .slice a2 n c2, .slice none 0 0, .slice (some ⟨y1.heap.size, 0, none⟩) n n, .int .i64 0] 49) = u := ⟨_, rfl⟩
                  have HD2 : y3.heap[y2.heap.size]? = some (.cells #[.int .i64 0, .int .i64 0, .slice a2 n c2, .slice none 0 0, .slice (some ⟨y1.heap.size, 0, none⟩) n n, .int .i64 0] 49 (0, 0)) := by rw [← hy3]; exact heap_alloc_new _ _
                  have BE : Below y2.heap.size y2 y3 := by rw [← hy3]; exact alCu _ _
                  have HC3 : Below wr.heap.size wr y3 := stCu HC2 BE
                  replace HR2 := HR2.of_block (BE.block _ HR2.lt)
                  replace HI2 := HI2.below BE
                  replace HRI2 := HRI2.below BE
                  go_simp
                  refine hK.out _ _ trivial (fun hHn => ?_)
                  clear hK KK hHn
                  try simp only [Act.put, List.setIfInBounds_toArray, List.set_cons_zero, List.set_cons_succ]
                  clear hy3 BE
                  refine wpAnyH_ready (rs := [9]) (by kernel_rfl) (by simp) ?_
                  refine AllReadyH.cons (o := ⟨_, _, _, _, _, _⟩) rfl (fun KK hK => ?b106n0) AllReadyH.nil
                  case b106n0 =>
                    have hin := ints_rep HR2
                    have hir : RowI y3 wr.heap.size (some ⟨y1.heap.size, 0, none⟩) (List.replicate n (0 : Int)).length := rowI_rep HR2 lE2
                    have hstx := hst.below HC3
                    have HC : Hid (cxC ((⟨iotaZ n, a2, c2⟩, ⟨List.replicate n 0, some ⟨y1.heap.size, 0, none⟩, n⟩) : QI × QI) = [.int .i64 0, .int .i64 0, .slice a2 n c2, .slice none 0 0, .slice (some ⟨y1.heap.size, 0, none⟩) n n, .int .i64 0]) := by show _ = _; simp [cxC, iotaZ_len]
                    have HC1' : Hid (∀ u ∈ ([.int .i64 0, .int .i64 0, .slice a2 n c2, .slice none 0 0, .slice (some ⟨y1.heap.size, 0, none⟩) n n, .int .i64 0] : List Value), u.oneCell' = true) := by show ∀ u ∈ _, _; rw [← HC.out]; exact cxC_one _
                    have hdj : ∀ b, InI a2 (iotaZ n).length b → ¬ InI (some ⟨y1.heap.size, 0, none⟩) (List.replicate n (0 : Int)).length b := fun b h1 h2 => by rw [iotaZ_len] at h1; obtain ⟨-, o, s, e3⟩ := h2; simp only [Option.some.injEq, Addr.mk.injEq] at e3; exact hne b h1 e3.1.symm
                    have hri : RowI y3 wr.heap.size a2 (iotaZ n).length := by rw [iotaZ_len]; exact HRI2
                    refine step_append_lies _ (by rfl) _ _ 25 (by rfl) x.heap.size 49 i1 _ 6 96 Tryd.underlying25 hi1 hy0 hy1 hy2 rfl (by omega) v ps.length (ps.flatMap cxC) (by rfl) hstx.own ⟨y2.heap.size, 0, none⟩ 1 1 [.int .i64 0, .int .i64 0, .slice a2 n c2, .slice none 0 0, .slice (some ⟨y1.heap.size, 0, none⟩) n n, .int .i64 0] (by rfl) (by rfl) (World.news_of_block (cs := #[.int .i64 0, .int .i64 0, .slice a2 n c2, .slice none 0 0, .slice (some ⟨y1.heap.size, 0, none⟩) n n, .int .i64 0]) (t := 49) (fr := (0, 0)) HD2) HC1'.out (by omega) (by unfold maxLen; omega) (by omega) (by have := HC3.size; have := hst.Bw; omega) (y3.heap.size) rfl ?_
                    intro g2 cap2 w5 HO2 hgrow2 hat2 hlt2
                    rw [← HC.out] at HO2
                    have HN : Hid (CxSt x.heap.size gS u1 (w5.setCell ⟨gS, 3, none⟩ (.slice (some ⟨g2, 0, none⟩) (ps.length + 1) cap2)) (.slice (some ⟨g2, 0, none⟩) (ps.length + 1) cap2) (.slice av n cv) (ps ++ [((⟨iotaZ n, a2, c2⟩, ⟨List.replicate n 0, some ⟨y1.heap.size, 0, none⟩, n⟩) : QI × QI)])) := hst.step HC3 HI2 hri hin hir hdj hgrow2 HO2 hat2
                    have HM : Hid (∀ p ∈ ps ++ [((⟨iotaZ n, a2, c2⟩, ⟨List.replicate n 0, some ⟨y1.heap.size, 0, none⟩, n⟩) : QI × QI)], p.1.zs = iotaZ n ∧ p.2.zs = List.replicate n 0) := fun p hp => by
                      rcases List.mem_append.1 hp with h1 | h1
                      · exact HQ.out p h1
                      · simp at h1; subst h1; exact ⟨rfl, rfl⟩
                    have HL : Hid ((ps ++ [((⟨iotaZ n, a2, c2⟩, ⟨List.replicate n 0, some ⟨y1.heap.size, 0, none⟩, n⟩) : QI × QI)]).length = k + 1) := by show _ = _; rw [List.length_append, HQL.out]; rfl
                    have hvb : ∀ b, v.ownBlock = some b → x.heap.size ≤ b := fun b hb => (hst.own.lt b hb).1
                    have HKN : Hid (∀ b, b < x.heap.size → b ≠ gS → (w5.setCell ⟨gS, 3, none⟩ (.slice (some ⟨g2, 0, none⟩) (ps.length + 1) cap2)).heap[b]? = x.heap[b]?) := fun b hb hne => by
                      rw [Below.heap_setCell _ ⟨gS, _, none⟩ _ b (by simpa using hne), hgrow2.block b (by have := HC3.size; have := hst.Bw; omega) (fun e => by have := hvb b e.symm; omega), HC3.block b (by have := hst.Bw; omega)]
                      exact HKB.out b hb hne
                    have hvS : some gS ≠ v.ownBlock := fun e => by have := (hstx.own.lt gS e.symm).1; have := hst.SB; omega
                    have zc : w5.cell? ⟨gS, 3, none⟩ = some v := (World.cell?_of_block (a := ⟨gS, 3, none⟩) (hgrow2.block gS (lt_of_cell hstx.c0) hvS)).trans hstx.c0
                    have zf : ∀ o, w5.frozen? ⟨gS, o, none⟩ = false := fun o => (World.frozen?_of_block (a := ⟨gS, o, none⟩) (hgrow2.block gS (lt_of_cell hstx.c0) hvS)).trans (hstx.fr o)
                    refine hK.out _ _ trivial (fun hHn => ?_)
                    clear hK KK hHn
                    try simp only [Act.put, List.setIfInBounds_toArray, List.set_cons_zero, List.set_cons_succ]
                    clear hgrow2 hat2 HR2 HD2 hin hir hri hdj hstx HO2 hvS hlt2 HC HC1' hvb HI2 HRI2 hne
                    refine wpAnyH_take (i := 10) (oi := ⟨_, _, _, _, _, _⟩) (v := ?vt107x10) rfl (by kernel_rfl) (by kernel_rfl) (by kernel_rfl) (fun _ _ _ h => h) (Or.inl ⟨by rfl, ?yt107x10⟩) trivial ?rt107x10
                    case yt107x10 => intro w hSw; clear hSw; go_simp; try with_reducible rfl
                    try simp only [Act.put, List.setIfInBounds_toArray, List.set_cons_zero, List.set_cons_succ]
                    refine wpAnyH_ready (rs := [11]) (by kernel_rfl) (by simp) ?_
                    refine AllReadyH.cons (o := ⟨_, _, _, _, _, _⟩) rfl (fun KK hK => ?b108n0) AllReadyH.nil
                    case b108n0 =>
                      go_simp
                      refine hK.out _ _ trivial (fun hHn => ?_)
                      clear hK KK hHn
                      try simp only [Act.put, List.setIfInBounds_toArray, List.set_cons_zero, List.set_cons_succ]
                      refine wpAnyH_done (by kernel_rfl) (NoPanic.normal ?_) _
                      clear zc zf hst
                      go_wp2
                      go_roundw
                      case rel => exact ⟨k + 1, _, _, by omega, by go_num, HL.out, HM.out, HKN.out, HN.out⟩
                      case measure => simp [intOf]; omega
              case b104n1 =>
                obtain ⟨y3, hy3⟩ : ∃ u, y2.alloc (.cells #[.int .i64 0, .int .i64 0, .slice a2 n c2, .slice none 0 0, .slice (some ⟨y1.heap.size, 0, none⟩) n n, .int .i64 0] 49) = u := ⟨_, rfl⟩
                have HD2 : y3.heap[y2.heap.size]? = some (.cells #[.int .i64 0, .int .i64 0, .slice a2 n c2, .slice none 0 0, .slice (some ⟨y1.heap.size, 0, none⟩) n n, .int .i64 0] 49 (0, 0)) := by rw [← hy3]; exact heap_alloc_new _ _
                have BE : Below y2.heap.size y2 y3 := by rw [← hy3]; exact alCu _ _
                have HC3 : Below wr.heap.size wr y3 := stCu HC2 BE
                replace HR2 := HR2.of_block (BE.block _ HR2.lt)
                replace HI2 := HI2.below BE
                replace HRI2 := HRI2.below BE
                go_simp
                refine hK.out _ _ trivial (fun hHn => ?_)
                clear hK KK hHn
                try simp only [Act.put, List.setIfInBounds_toArray, List.set_cons_zero, List.set_cons_succ]
                clear hy3 BE
                refine wpAnyH_ready (rs := [1]) (by kernel_rfl) (by simp) ?_
                refine AllReadyH.cons (o := ⟨_, _, _, _, _, _⟩) rfl (fun KK hK => ?b109n0) AllReadyH.nil
                case b109n0 =>
                  have cL : y3.cell? ⟨gS, 3, none⟩ = some v := celB HC3 hst.c0
                  go_simp
                  refine hK.out _ _ trivial (fun hHn => ?_)
                  clear hK KK hHn
                  try simp only [Act.put, List.setIfInBounds_toArray, List.set_cons_zero, List.set_cons_succ]
                  clear cL
                  refine wpAnyH_ready (rs := [9]) (by kernel_rfl) (by simp) ?_
                  refine AllReadyH.cons (o := ⟨_, _, _, _, _, _⟩) rfl (fun KK hK => ?b110n0) AllReadyH.nil
                  case b110n0 =>
                    have hin := ints_rep HR2
                    have hir : RowI y3 wr.heap.size (some ⟨y1.heap.size, 0, none⟩) (List.replicate n (0 : Int)).length := rowI_rep HR2 lE2
                    have hstx := hst.below HC3
                    have HC : Hid (cxC ((⟨iotaZ n, a2, c2⟩, ⟨List.replicate n 0, some ⟨y1.heap.size, 0, none⟩, n⟩) : QI × QI) = [.int .i64 0, .int .i64 0, .slice a2 n c2, .slice none 0 0, .slice (some ⟨y1.heap.size, 0, none⟩) n n, .int .i64 0]) := by show _ = _; simp [cxC, iotaZ_len]
                    have HC1' : Hid (∀ u ∈ ([.int .i64 0, .int .i64 0, .slice a2 n c2, .slice none 0 0, .slice (some ⟨y1.heap.size, 0, none⟩) n n, .int .i64 0] : List Value), u.oneCell' = true) := by show ∀ u ∈ _, _; rw [← HC.out]; exact cxC_one _
                    have hdj : ∀ b, InI a2 (iotaZ n).length b → ¬ InI (some ⟨y1.heap.size, 0, none⟩) (List.replicate n (0 : Int)).length b := fun b h1 h2 => by rw [iotaZ_len] at h1; obtain ⟨-, o, s, e3⟩ := h2; simp only [Option.some.injEq, Addr.mk.injEq] at e3; exact hne b h1 e3.1.symm
                    have hri : RowI y3 wr.heap.size a2 (iotaZ n).length := by rw [iotaZ_len]; exact HRI2
                    refine step_append_lies _ (by rfl) _ _ 25 (by rfl) x.heap.size 49 i1 _ 6 96 Tryd.underlying25 hi1 hy0 hy1 hy2 rfl (by omega) v ps.length (ps.flatMap cxC) (by rfl) hstx.own ⟨y2.heap.size, 0, none⟩ 1 1 [.int .i64 0, .int .i64 0, .slice a2 n c2, .slice none 0 0, .slice (some ⟨y1.heap.size, 0, none⟩) n n, .int .i64 0] (by rfl) (by rfl) (World.news_of_block (cs := #[.int .i64 0, .int .i64 0, .slice a2 n c2, .slice none 0 0, .slice (some ⟨y1.heap.size, 0, none⟩) n n, .int .i64 0]) (t := 49) (fr := (0, 0)) HD2) HC1'.out (by omega) (by unfold maxLen; omega) (by omega) (by have := HC3.size; have := hst.Bw; omega) (y3.heap.size) rfl ?_
                    intro g2 cap2 w5 HO2 hgrow2 hat2 hlt2
                    rw [← HC.out] at HO2
                    have HN : Hid (CxSt x.heap.size gS u1 (w5.setCell ⟨gS, 3, none⟩ (.slice (some ⟨g2, 0, none⟩) (ps.length + 1) cap2)) (.slice (some ⟨g2, 0, none⟩) (ps.length + 1) cap2) (.slice av n cv) (ps ++ [((⟨iotaZ n, a2, c2⟩, ⟨List.replicate n 0, some ⟨y1.heap.size, 0, none⟩, n⟩) : QI × QI)])) := hst.step HC3 HI2 hri hin hir hdj hgrow2 HO2 hat2
                    have HM : Hid (∀ p ∈ ps ++ [((⟨iotaZ n, a2, c2⟩, ⟨List.replicate n 0, some ⟨y1.heap.size, 0, none⟩, n⟩) : QI × QI)], p.1.zs = iotaZ n ∧ p.2.zs = List.replicate n 0) := fun p hp => by
                      rcases List.mem_append.1 hp with h1 | h1
                      · exact HQ.out p h1
                      · simp at h1; subst h1; exact ⟨rfl, rfl⟩
                    have HL : Hid ((ps ++ [((⟨iotaZ n, a2, c2⟩, ⟨List.replicate n 0, some ⟨y1.heap.size, 0, none⟩, n⟩) : QI × QI)]).length = k + 1) := by show _ = _; rw [List.length_append, HQL.out]; rfl
                    have hvb : ∀ b, v.ownBlock = some b → x.heap.size ≤ b := fun b hb => (hst.own.lt b hb).1
                    have HKN : Hid (∀ b, b < x.heap.size → b ≠ gS → (w5.setCell ⟨gS, 3, none⟩ (.slice (some ⟨g2, 0, none⟩) (ps.length + 1) cap2)).heap[b]? = x.heap[b]?) := fun b hb hne => by
                      rw [Below.heap_setCell _ ⟨gS, _, none⟩ _ b (by simpa using hne), hgrow2.block b (by have := HC3.size; have := hst.Bw; omega) (fun e => by have := hvb b e.symm; omega), HC3.block b (by have := hst.Bw; omega)]
                      exact HKB.out b hb hne
                    have hvS : some gS ≠ v.ownBlock := fun e => by have := (hstx.own.lt gS e.symm).1; have := hst.SB; omega
                    have zc : w5.cell? ⟨gS, 3, none⟩ = some v := (World.cell?_of_block (a := ⟨gS, 3, none⟩) (hgrow2.block gS (lt_of_cell hstx.c0) hvS)).trans hstx.c0
                    have zf : ∀ o, w5.frozen? ⟨gS, o, none⟩ = false := fun o => (World.frozen?_of_block (a := ⟨gS, o, none⟩) (hgrow2.block gS (lt_of_cell hstx.c0) hvS)).trans (hstx.fr o)
                    refine hK.out _ _ trivial (fun hHn => ?_)
                    clear hK KK hHn
                    try simp only [Act.put, List.setIfInBounds_toArray, List.set_cons_zero, List.set_cons_succ]
                    clear hgrow2 hat2 HR2 HD2 hin hir hri hdj hstx HO2 hvS hlt2 HC HC1' hvb HI2 HRI2 hne
                    refine wpAnyH_take (i := 10) (oi := ⟨_, _, _, _, _, _⟩) (v := ?vt111x10) rfl (by kernel_rfl) (by kernel_rfl) (by kernel_rfl) (fun _ _ _ h => h) (Or.inl ⟨by rfl, ?yt111x10⟩) trivial ?rt111x10
                    case yt111x10 => intro w hSw; clear hSw; go_simp; try with_reducible rfl
                    try simp only [Act.put, List.setIfInBounds_toArray, List.set_cons_zero, List.set_cons_succ]
                    refine wpAnyH_ready (rs := [11]) (by kernel_rfl) (by simp) ?_
                    refine AllReadyH.cons (o := ⟨_, _, _, _, _, _⟩) rfl (fun KK hK => ?b112n0) AllReadyH.nil
                    case b112n0 =>
                      go_simp
                      refine hK.out _ _ trivial (fun hHn => ?_)
                      clear hK KK hHn
                      try simp only [Act.put, List.setIfInBounds_toArray, List.set_cons_zero, List.set_cons_succ]
                      refine wpAnyH_done (by kernel_rfl) (NoPanic.normal ?_) _
                      clear zc zf hst
                      go_wp2
                      go_roundw
                      case rel => exact ⟨k + 1, _, _, by omega, by go_num, HL.out, HM.out, HKN.out, HN.out⟩
                      case measure => simp [intOf]; omega
          case b82n2 =>
            obtain ⟨y1, hy1⟩ : ∃ u, y0.alloc (.cells (madeCells #[Value.int .i64 0] n) 3) = u := ⟨_, rfl⟩
            have HR2 : y1.rowIs y0.heap.size 3 n (fun _ => .int .i64 0) := by rw [← hy1]; exact World.rowIs_made _ _ _ _
            have lE2 : wr.heap.size ≤ y0.heap.size := HC0.size
            have BE : Below y0.heap.size y0 y1 := by rw [← hy1]; exact alCu _ _
            have HC1 : Below wr.heap.size wr y1 := stCu HC0 BE
            go_simp
            refine hK.out _ _ trivial (fun hHn => ?_)
            clear hK KK hHn
            try simp only [Act.put, List.setIfInBounds_toArray, List.set_cons_zero, List.set_cons_succ]
            clear hy1 BE
            refine wpAnyH_ready (rs := [1, 4]) (by kernel_rfl) (by simp) ?_
            refine AllReadyH.cons (o := ⟨_, _, _, _, _, _⟩) rfl (fun KK hK => ?b113n0) (AllReadyH.cons (o := ⟨_, _, _, _, _, _⟩) rfl (fun KK hK => ?b113n1) AllReadyH.nil)
            case b113n0 =>
              have cL : y1.cell? ⟨gS, 3, none⟩ = some v := celB HC1 hst.c0
              go_simp
              refine hK.out _ _ trivial (fun hHn => ?_)
              clear hK KK hHn
              try simp only [Act.put, List.setIfInBounds_toArray, List.set_cons_zero, List.set_cons_succ]
              clear cL
              refine wpAnyH_ready (rs := [4]) (by kernel_rfl) (by simp) ?_
              refine AllReadyH.cons (o := ⟨_, _, _, _, _, _⟩) rfl (fun KK hK => ?b114n0) AllReadyH.nil
              case b114n0 =>
                go_simp
                refine (copyView_any 0 0 av cv n (iotaZ n) (iotaZ_len n) _ (HIw.below HC1) (by omega)).mono ?_
                rintro r y2 ⟨a2, c2, rfl, HI2, HRI2, hBk⟩
                have hne : ∀ b, InI a2 n b → b ≠ y0.heap.size := fun b hb e => by have := (HRI2.lt hb).1; have := HR2.lt; omega
                replace HR2 := HR2.of_block (hBk.block _ HR2.lt)
                replace HRI2 := HRI2.mono (B' := wr.heap.size) HC1.size
                have HC2 : Below wr.heap.size wr y2 := stCu HC1 hBk
                clear hBk
                go_wp2_with fail
                refine hK.out _ _ trivial (fun hHn => ?_)
                clear hK KK hHn
                try simp only [Act.put, List.setIfInBounds_toArray, List.set_cons_zero, List.set_cons_succ]
                refine wpAnyH_take (i := 7) (oi := ⟨_, _, _, _, _, _⟩) (v := ?vt115x7) rfl (by kernel_rfl) (by kernel_rfl) (by kernel_rfl) (fun _ _ _ h => h) (Or.inl ⟨by rfl, ?yt115x7⟩) trivial ?rt115x7
                case yt115x7 => intro w hSw; clear hSw; go_simp; try with_reducible rfl
                try simp only [Act.put, List.setIfInBounds_toArray, List.set_cons_zero, List.set_cons_succ]
                refine wpAnyH_ready (rs := [8]) (by kernel_rfl) (by simp) ?_
                refine AllReadyH.cons (o := ⟨_, _, _, _, _, _⟩) rfl (fun KK hK => ?b116n0) AllReadyH.nil
                case b116n0 =>
                  obtain ⟨y3, hy3⟩ : ∃ u, y2.alloc (.cells #[.int .i64 0, .int .i64 0, .slice a2 n c2, .slice none 0 0, .slice (some ⟨y0.heap.size, 0, none⟩) n n, .int .i64 0] 49) = u := ⟨_, rfl⟩
                  have HD2 : y3.heap[y2.heap.size]? = some (.cells #[.int .i64 0, .int .i64 0, .slice a2 n c2, .slice none 0 0, .slice (some ⟨y0.heap.size, 0, none⟩) n n, .int .i64 0] 49 (0, 0)) := by rw [← hy3]; exact heap_alloc_new _ _
                  have BE : Below y2.heap.size y2 y3 := by rw [← hy3]; exact alCu _ _
                  have HC3 : Below wr.heap.size wr y3 := stCu HC2 BE
                  replace HR2 := HR2.of_block (BE.block _ HR2.lt)
                  replace HI2 := HI2.below BE
                  replace HRI2 := HRI2.below BE
                  go_simp
                  refine hK.out _ _ trivial (fun hHn => ?_)
                  clear hK KK hHn
                  try simp only [Act.put, List.setIfInBounds_toArray, List.set_cons_zero, List.set_cons_succ]
                  clear hy3 BE
                  refine wpAnyH_ready (rs := [9]) (by kernel_rfl) (by simp) ?_
                  refine AllReadyH.cons (o := ⟨_, _, _, _, _, _⟩) rfl (fun KK hK => ?b117n0) AllReadyH.nil
                  case b117n0 =>
                    have hin := ints_rep HR2
                    have hir : RowI y3 wr.heap.size (some ⟨y0.heap.size, 0, none⟩) (List.replicate n (0 : Int)).length := rowI_rep HR2 lE2
                    have hstx := hst.below HC3
                    have HC : Hid (cxC ((⟨iotaZ n, a2, c2⟩, ⟨List.replicate n 0, some ⟨y0.heap.size, 0, none⟩, n⟩) : QI × QI) = [.int .i64 0, .int .i64 0, .slice a2 n c2, .slice none 0 0, .slice (some ⟨y0.heap.size, 0, none⟩) n n, .int .i64 0]) := by show _ = _; simp [cxC, iotaZ_len]
                    have HC1' : Hid (∀ u ∈ ([.int .i64 0, .int .i64 0, .slice a2 n c2, .slice none 0 0, .slice (some ⟨y0.heap.size, 0, none⟩) n n, .int .i64 0] : List Value), u.oneCell' = true) := by show ∀ u ∈ _, _; rw [← HC.out]; exact cxC_one _
                    have hdj : ∀ b, InI a2 (iotaZ n).length b → ¬ InI (some ⟨y0.heap.size, 0, none⟩) (List.replicate n (0 : Int)).length b := fun b h1 h2 => by rw [iotaZ_len] at h1; obtain ⟨-, o, s, e3⟩ := h2; simp only [Option.some.injEq, Addr.mk.injEq] at e3; exact hne b h1 e3.1.symm
                    have hri : RowI y3 wr.heap.size a2 (iotaZ n).length := by rw [iotaZ_len]; exact HRI2
                    refine step_append_lies _ (by rfl) _ _ 25 (by rfl) x.heap.size 49 i1 _ 6 96 Tryd.underlying25 hi1 hy0 hy1 hy2 rfl (by omega) v ps.length (ps.flatMap cxC) (by rfl) hstx.own ⟨y2.heap.size, 0, none⟩ 1 1 [.int .i64 0, .int .i64 0, .slice a2 n c2, .slice none 0 0, .slice (some ⟨y0.heap.size, 0, none⟩) n n, .int .i64 0] (by rfl) (by rfl) (World.news_of_block (cs := #[.int .i64 0, .int .i64 0, .slice a2 n c2, .slice none 0 0, .slice (some ⟨y0.heap.size, 0, none⟩) n n, .int .i64 0]) (t := 49) (fr := (0, 0)) HD2) HC1'.out (by omega) (by unfold maxLen; omega) (by omega) (by have := HC3.size; have := hst.Bw; omega) (y3.heap.size) rfl ?_
                    intro g2 cap2 w5 HO2 hgrow2 hat2 hlt2
                    rw [← HC.out] at HO2
                    have HN : Hid (CxSt x.heap.size gS u1 (w5.setCell ⟨gS, 3, none⟩ (.slice (some ⟨g2, 0, none⟩) (ps.length + 1) cap2)) (.slice (some ⟨g2, 0, none⟩) (ps.length + 1) cap2) (.slice av n cv) (ps ++ [((⟨iotaZ n, a2, c2⟩, ⟨List.replicate n 0, some ⟨y0.heap.size, 0, none⟩, n⟩) : QI × QI)])) := hst.step HC3 HI2 hri hin hir hdj hgrow2 HO2 hat2
                    have HM : Hid (∀ p ∈ ps ++ [((⟨iotaZ n, a2, c2⟩, ⟨List.replicate n 0, some ⟨y0.heap.size, 0, none⟩, n⟩) : QI × QI)], p.1.zs = iotaZ n ∧ p.2.zs = List.replicate n 0) := fun p hp => by
                      rcases List.mem_append.1 hp with h1 | h1
                      · exact HQ.out p h1
                      · simp at h1; subst h1; exact ⟨rfl, rfl⟩
                    have HL : Hid ((ps ++ [((⟨iotaZ n, a2, c2⟩, ⟨List.replicate n 0, some ⟨y0.heap.size, 0, none⟩, n⟩) : QI × QI)]).length = k + 1) := by show _ = _; rw [List.length_append, HQL.out]; rfl
                    have hvb : ∀ b, v.ownBlock = some b → x.heap.size ≤ b := fun b hb => (hst.own.lt b hb).1
                    have HKN : Hid (∀ b, b < x.heap.size → b ≠ gS → (w5.setCell ⟨gS, 3, none⟩ (.slice (some ⟨g2, 0, none⟩) (ps.length + 1) cap2)).heap[b]? = x.heap[b]?) := fun b hb hne => by
                      rw [Below.heap_setCell _ ⟨gS, _, none⟩ _ b (by simpa using hne), hgrow2.block b (by have := HC3.size; have := hst.Bw; omega) (fun e => by have := hvb b e.symm; omega), HC3.block b (by have := hst.Bw; omega)]
                      exact HKB.out b hb hne
                    have hvS : some gS ≠ v.ownBlock := fun e => by have := (hstx.own.lt gS e.symm).1; have := hst.SB; omega
                    have zc : w5.cell? ⟨gS, 3, none⟩ = some v := (World.cell?_of_block (a := ⟨gS, 3, none⟩) (hgrow2.block gS (lt_of_cell hstx.c0) hvS)).trans hstx.c0
                    have zf : ∀ o, w5.frozen? ⟨gS, o, none⟩ = false := fun o => (World.frozen?_of_block (a := ⟨gS, o, none⟩) (hgrow2.block gS (lt_of_cell hstx.c0) hvS)).trans (hstx.fr o)
                    refine hK.out _ _ trivial (fun hHn => ?_)
                    clear hK KK hHn
                    try simp only [Act.put, List.setIfInBounds_toArray, List.set_cons_zero, List.set_cons_succ]
                    clear hgrow2 hat2 HR2 HD2 hin hir hri hdj hstx HO2 hvS hlt2 HC HC1' hvb HI2 HRI2 hne
                    refine wpAnyH_take (i := 10) (oi := ⟨_, _, _, _, _, _⟩) (v := ?vt118x10) rfl (by kernel_rfl) (by kernel_rfl) (by kernel_rfl) (fun _ _ _ h => h) (Or.inl ⟨by rfl, ?yt118x10⟩) trivial ?rt118x10
                    case yt118x10 => intro w hSw; clear hSw; go_simp; try with_reducible rfl
                    try simp only [Act.put, List.setIfInBounds_toArray, List.set_cons_zero, List.set_cons_succ]
                    refine wpAnyH_ready (rs := [11]) (by kernel_rfl) (by simp) ?_
                    refine AllReadyH.cons (o := ⟨_, _, _, _, _, _⟩) rfl (fun KK hK => ?b119n0) AllReadyH.nil
                    case b119n0 =>
                      go_simp
                      refine hK.out _ _ trivial (fun hHn => ?_)
                      clear hK KK hHn
                      try simp only [Act.put, List.setIfInBounds_toArray, List.set_cons_zero, List.set_cons_succ]
                      refine wpAnyH_done (by kernel_rfl) (NoPanic.normal ?_) _
                      clear zc zf hst
                      go_wp2
                      go_roundw
                      case rel => exact ⟨k + 1, _, _, by omega, by go_num, HL.out, HM.out, HKN.out, HN.out⟩
                      case measure => simp [intOf]; omega
            case b113n1 =>
              go_simp
              refine (copyView_any 0 0 av cv n (iotaZ n) (iotaZ_len n) _ (HIw.below HC1) (by omega)).mono ?_
              rintro r y2 ⟨a2, c2, rfl, HI2, HRI2, hBk⟩
              have hne : ∀ b, InI a2 n b → b ≠ y0.heap.size := fun b hb e => by have := (HRI2.lt hb).1; have := HR2.lt; omega
              replace HR2 := HR2.of_block (hBk.block _ HR2.lt)
              replace HRI2 := HRI2.mono (B' := wr.heap.size) HC1.size
              have HC2 : Below wr.heap.size wr y2 := stCu HC1 hBk
              clear hBk
              go_wp2_with fail
              refine hK.out _ _ trivial (fun hHn => ?_)
              clear hK KK hHn
              try simp only [Act.put, List.setIfInBounds_toArray, List.set_cons_zero, List.set_cons_succ]
              refine wpAnyH_take (i := 7) (oi := ⟨_, _, _, _, _, _⟩) (v := ?vt120x7) rfl (by kernel_rfl) (by kernel_rfl) (by kernel_rfl) (fun _ _ _ h => h) (Or.inl ⟨by rfl, ?yt120x7⟩) trivial ?rt120x7
              case yt120x7 => intro w hSw; clear hSw; go_simp; try with_reducible rfl
              try simp only [Act.put, List.setIfInBounds_toArray, List.set_cons_zero, List.set_cons_succ]
              refine wpAnyH_ready (rs := [1, 8]) (by kernel_rfl) (by simp) ?_
              refine AllReadyH.cons (o := ⟨_, _, _, _, _, _⟩) rfl (fun KK hK => ?b121n0) (AllReadyH.cons (o := ⟨_, _, _, _, _, _⟩) rfl (fun KK hK => ?b121n1) AllReadyH.nil)
              case b121n0 =>
                have cL : y2.cell? ⟨gS, 3, none⟩ = some v := celB HC2 hst.c0
                go_simp
                refine hK.out _ _ trivial (fun hHn => ?_)
                clear hK KK hHn
                try simp only [Act.put, List.setIfInBounds_toArray, List.set_cons_zero, List.set_cons_succ]
                clear cL
                refine wpAnyH_ready (rs := [8]) (by kernel_rfl) (by simp) ?_
                refine AllReadyH.cons (o := ⟨_, _, _, _, _, _⟩) rfl (fun KK hK => ?b122n0) AllReadyH.nil
                case b122n0 =>
                  obtain ⟨y3, hy3⟩ : ∃ u, y2.alloc (.cells #[.int .i64 0, .int .i64 0, .slice a2 n c2, .slice none 0 0, .slice (some ⟨y0.heap.size, 0, none⟩) n n, .int .i64 0] 49) = u := ⟨_, rfl⟩
                  have HD2 : y3.heap[y2.heap.size]? = some (.cells #[.int .i64 0, .int .i64 0, .slice a2 n c2, .slice none 0 0, .slice (some ⟨y0.heap.size, 0, none⟩) n n, .int .i64 0] 49 (0, 0)) := by rw [← hy3]; exact heap_alloc_new _ _
                  have BE : Below y2.heap.size y2 y3 := by rw [← hy3]; exact alCu _ _
                  have HC3 : Below wr.heap.size wr y3 := stCu HC2 BE
                  replace HR2 := HR2.of_block (BE.block _ HR2.lt)
                  replace HI2 := HI2.below BE
                  replace HRI2 := HRI2.below BE
                  go_simp
                  refine hK.out _ _ trivial (fun hHn => ?_)
                  clear hK KK hHn
                  try simp only [Act.put, List.setIfInBounds_toArray, List.set_cons_zero, List.set_cons_succ]
                  clear hy3 BE
                  refine wpAnyH_ready (rs := [9]) (by kernel_rfl) (by simp) ?_
                  refine AllReadyH.cons (o := ⟨_, _, _, _, _, _⟩) rfl (fun KK hK => ?b123n0) AllReadyH.nil
                  case b123n0 =>
                    have hin := ints_rep HR2
                    have hir : RowI y3 wr.heap.size (some ⟨y0.heap.size, 0, none⟩) (List.replicate n (0 : Int)).length := rowI_rep HR2 lE2
                    have hstx := hst.below HC3
                    have HC : Hid (cxC ((⟨iotaZ n, a2, c2⟩, ⟨List.replicate n 0, some ⟨y0.heap.size, 0, none⟩, n⟩) : QI × QI) = [.int .i64 0, .int .i64 0, .slice a2 n c2, .slice none 0 0, .slice (some ⟨y0.heap.size, 0, none⟩) n n, .int .i64 0]) := by show _ = _; simp [cxC, iotaZ_len]
                    have HC1' : Hid (∀ u ∈ ([.int .i64 0, .int .i64 0, .slice a2 n c2, .slice none 0 0, .slice (some ⟨y0.heap.size, 0, none⟩) n n, .int .i64 0] : List Value), u.oneCell' = true) := by show ∀ u ∈ _, _; rw [← HC.out]; exact cxC_one _
                    have hdj : ∀ b, InI a2 (iotaZ n).length b → ¬ InI (some ⟨y0.heap.size, 0, none⟩) (List.replicate n (0 : Int)).length b := fun b h1 h2 => by rw [iotaZ_len] at h1; obtain ⟨-, o, s, e3⟩ := h2; simp only [Option.some.injEq, Addr.mk.injEq] at e3; exact hne b h1 e3.1.symm
                    have hri : RowI y3 wr.heap.size a2 (iotaZ n).length := by rw [iotaZ_len]; exact HRI2
                    refine step_append_lies _ (by rfl) _ _ 25 (by rfl) x.heap.size 49 i1 _ 6 96 Tryd.underlying25 hi1 hy0 hy1 hy2 rfl (by omega) v ps.length (ps.flatMap cxC) (by rfl) hstx.own ⟨y2.heap.size, 0, none⟩ 1 1 [.int .i64 0, .int .i64 0, .slice a2 n c2, .slice none 0 0, .slice (some ⟨y0.heap.size, 0, none⟩) n n, .int .i64 0] (by rfl) (by rfl) (World.news_of_block (cs := #[.int .i64 0, .int .i64 0, .slice a2 n c2, .slice none 0 0, .slice (some ⟨y0.heap.size, 0, none⟩) n n, .int .i64 0]) (t := 49) (fr := (0, 0)) HD2) HC1'.out (by omega) (by unfold maxLen; omega) (by omega) (by have := HC3.size; have := hst.Bw; omega) (y3.heap.size) rfl ?_
                    intro g2 cap2 w5 HO2 hgrow2 hat2 hlt2
                    rw [← HC.out] at HO2
                    have HN : Hid (CxSt x.heap.size gS u1 (w5.setCell ⟨gS, 3, none⟩ (.slice (some ⟨g2, 0, none⟩) (ps.length + 1) cap2)) (.slice (some ⟨g2, 0, none⟩) (ps.length + 1) cap2) (.slice av n cv) (ps ++ [((⟨iotaZ n, a2, c2⟩, ⟨List.replicate n 0, some ⟨y0.heap.size, 0, none⟩, n⟩) : QI × QI)])) := hst.step HC3 HI2 hri hin hir hdj hgrow2 HO2 hat2
                    have HM : Hid (∀ p ∈ ps ++ [((⟨iotaZ n, a2, c2⟩, ⟨List.replicate n 0, some ⟨y0.heap.size, 0, none⟩, n⟩) : QI × QI)], p.1.zs = iotaZ n ∧ p.2.zs = List.replicate n 0) := fun p hp => by
                      rcases List.mem_append.1 hp with h1 | h1
                      · exact HQ.out p h1
                      · simp at h1; subst h1; exact ⟨rfl, rfl⟩
                    have HL : Hid ((ps ++ [((⟨iotaZ n, a2, c2⟩, ⟨List.replicate n 0, some ⟨y0.heap.size, 0, none⟩, n⟩) : QI × QI)]).length = k + 1) := by show _ = _; rw [List.length_append, HQL.out]; rfl
                    have hvb : ∀ b, v.ownBlock = some b → x.heap.size ≤ b := fun b hb => (hst.own.lt b hb).1
                    have HKN : Hid (∀ b, b < x.heap.size → b ≠ gS → (w5.setCell ⟨gS, 3, none⟩ (.slice (some ⟨g2, 0, none⟩) (ps.length + 1) cap2)).heap[b]? = x.heap[b]?) := fun b hb hne => by
                      rw [Below.heap_setCell _ ⟨gS, _, none⟩ _ b (by simpa using hne), hgrow2.block b (by have := HC3.size; have := hst.Bw; omega) (fun e => by have := hvb b e.symm; omega), HC3.block b (by have := hst.Bw; omega)]
                      exact HKB.out b hb hne
                    have hvS : some gS ≠ v.ownBlock := fun e => by have := (hstx.own.lt gS e.symm).1; have := hst.SB; omega
                    have zc : w5.cell? ⟨gS, 3, none⟩ = some v := (World.cell?_of_block (a := ⟨gS, 3, none⟩) (hgrow2.block gS (lt_of_cell hstx.c0) hvS)).trans hstx.c0
                    have zf : ∀ o, w5.frozen? ⟨gS, o, none⟩ = false := fun o => (World.frozen?_of_block (a := ⟨gS, o, none⟩) (hgrow2.block gS (lt_of_cell hstx.c0) hvS)).trans (hstx.fr o)
                    refine hK.out _ _ trivial (fun hHn => ?_)
                    clear hK KK hHn
                    try simp only [Act.put, List.setIfInBounds_toArray, List.set_cons_zero, List.set_cons_succ]
                    clear hgrow2 hat2 HR2 HD2 hin hir hri hdj hstx HO2 hvS hlt2 HC HC1' hvb HI2 HRI2 hne
                    refine wpAnyH_take (i := 10) (oi := ⟨_, _, _, _, _, _⟩) (v := ?vt124x10) rfl (by kernel_rfl) (by kernel_rfl) (by kernel_rfl) (fun _ _ _ h => h) (Or.inl ⟨by rfl, ?yt124x10⟩) trivial ?rt124x10
                    case yt124x10 => intro w hSw; clear hSw; go_simp; try with_reducible rfl
                    try simp only [Act.put, List.setIfInBounds_toArray, List.set_cons_zero, List.set_cons_succ]
                    refine wpAnyH_ready (rs := [11]) (by kernel_rfl) (by simp) ?_
                    refine AllReadyH.cons (o := ⟨_, _, _, _, _, _⟩) rfl (fun KK hK => ?b125n0) AllReadyH.nil
                    case b125n0 =>
                      go_simp
                      refine hK.out _ _ trivial (fun hHn => ?_)
                      clear hK KK hHn
                      try simp only [Act.put, List.setIfInBounds_toArray, List.set_cons_zero, List.set_cons_succ]
                      refine wpAnyH_done (by kernel_rfl) (NoPanic.normal ?_) _
                      clear zc zf hst
                      go_wp2
                      go_roundw
                      case rel => exact ⟨k + 1, _, _, by omega, by go_num, HL.out, HM.out, HKN.out, HN.out⟩
                      case measure => simp [intOf]; omega
              case b121n1 =>
                obtain ⟨y3, hy3⟩ : ∃ u, y2.alloc (.cells #[.int .i64 0, .int .i64 0, .slice a2 n c2, .slice none 0 0, .slice (some ⟨y0.heap.size, 0, none⟩) n n, .int .i64 0] 49) = u := ⟨_, rfl⟩
                have HD2 : y3.heap[y2.heap.size]? = some (.cells #[.int .i64 0, .int .i64 0, .slice a2 n c2, .slice none 0 0, .slice (some ⟨y0.heap.size, 0, none⟩) n n, .int .i64 0] 49 (0, 0)) := by rw [← hy3]; exact heap_alloc_new _ _
                have BE : Below y2.heap.size y2 y3 := by rw [← hy3]; exact alCu _ _
                have HC3 : Below wr.heap.size wr y3 := stCu HC2 BE
                replace HR2 := HR2.of_block (BE.block _ HR2.lt)
                replace HI2 := HI2.below BE
                replace HRI2 := HRI2.below BE
                go_simp
                refine hK.out _ _ trivial (fun hHn => ?_)
                clear hK KK hHn
                try simp only [Act.put, List.setIfInBounds_toArray, List.set_cons_zero, List.set_cons_succ]
                clear hy3 BE
                refine wpAnyH_ready (rs := [1]) (by kernel_rfl) (by simp) ?_
                refine AllReadyH.cons (o := ⟨_, _, _, _, _, _⟩) rfl (fun KK hK => ?b126n0) AllReadyH.nil
                case b126n0 =>
                  have cL : y3.cell? ⟨gS, 3, none⟩ = some v := celB HC3 hst.c0
                  go_simp
                  refine hK.out _ _ trivial (fun hHn => ?_)
                  clear hK KK hHn
                  try simp only [Act.put, List.setIfInBounds_toArray, List.set_cons_zero, List.set_cons_succ]
                  clear cL
                  refine wpAnyH_ready (rs := [9]) (by kernel_rfl) (by simp) ?_
                  refine AllReadyH.cons (o := ⟨_, _, _, _, _, _⟩) rfl (fun KK hK => ?b127n0) AllReadyH.nil
                  case b127n0 =>
                    have hin := ints_rep HR2
                    have hir : RowI y3 wr.heap.size (some ⟨y0.heap.size, 0, none⟩) (List.replicate n (0 : Int)).length := rowI_rep HR2 lE2
                    have hstx := hst.below HC3
                    have HC : Hid (cxC ((⟨iotaZ n, a2, c2⟩, ⟨List.replicate n 0, some ⟨y0.heap.size, 0, none⟩, n⟩) : QI × QI) = [.int .i64 0, .int .i64 0, .slice a2 n c2, .slice none 0 0, .slice (some ⟨y0.heap.size, 0, none⟩) n n, .int .i64 0]) := by show _ = _; simp [cxC, iotaZ_len]
                    have HC1' : Hid (∀ u ∈ ([.int .i64 0, .int .i64 0, .slice a2 n c2, .slice none 0 0, .slice (some ⟨y0.heap.size, 0, none⟩) n n, .int .i64 0] : List Value), u.oneCell' = true) := by show ∀ u ∈ _, _; rw [← HC.out]; exact cxC_one _
                    have hdj : ∀ b, InI a2 (iotaZ n).length b → ¬ InI (some ⟨y0.heap.size, 0, none⟩) (List.replicate n (0 : Int)).length b := fun b h1 h2 => by rw [iotaZ_len] at h1; obtain ⟨-, o, s, e3⟩ := h2; simp only [Option.some.injEq, Addr.mk.injEq] at e3; exact hne b h1 e3.1.symm
                    have hri : RowI y3 wr.heap.size a2 (iotaZ n).length := by rw [iotaZ_len]; exact HRI2
                    refine step_append_lies _ (by rfl) _ _ 25 (by rfl) x.heap.size 49 i1 _ 6 96 Tryd.underlying25 hi1 hy0 hy1 hy2 rfl (by omega) v ps.length (ps.flatMap cxC) (by rfl) hstx.own ⟨y2.heap.size, 0, none⟩ 1 1 [.int .i64 0, .int .i64 0, .slice a2 n c2, .slice none 0 0, .slice (some ⟨y0.heap.size, 0, none⟩) n n, .int .i64 0] (by rfl) (by rfl) (World.news_of_block (cs := #[.int .i64 0, .int .i64 0, .slice a2 n c2, .slice none 0 0, .slice (some ⟨y0.heap.size, 0, none⟩) n n, .int .i64 0]) (t := 49) (fr := (0, 0)) HD2) HC1'.out (by omega) (by unfold maxLen; omega) (by omega) (by have := HC3.size; have := hst.Bw; omega) (y3.heap.size) rfl ?_
                    intro g2 cap2 w5 HO2 hgrow2 hat2 hlt2
                    rw [← HC.out] at HO2
                    have HN : Hid (CxSt x.heap.size gS u1 (w5.setCell ⟨gS, 3, none⟩ (.slice (some ⟨g2, 0, none⟩) (ps.length + 1) cap2)) (.slice (some ⟨g2, 0, none⟩) (ps.length + 1) cap2) (.slice av n cv) (ps ++ [((⟨iotaZ n, a2, c2⟩, ⟨List.replicate n 0, some ⟨y0.heap.size, 0, none⟩, n⟩) : QI × QI)])) := hst.step HC3 HI2 hri hin hir hdj hgrow2 HO2 hat2
                    have HM : Hid (∀ p ∈ ps ++ [((⟨iotaZ n, a2, c2⟩, ⟨List.replicate n 0, some ⟨y0.heap.size, 0, none⟩, n⟩) : QI × QI)], p.1.zs = iotaZ n ∧ p.2.zs = List.replicate n 0) := fun p hp => by
                      rcases List.mem_append.1 hp with h1 | h1
                      · exact HQ.out p h1
                      · simp at h1; subst h1; exact ⟨rfl, rfl⟩
                    have HL : Hid ((ps ++ [((⟨iotaZ n, a2, c2⟩, ⟨List.replicate n 0, some ⟨y0.heap.size, 0, none⟩, n⟩) : QI × QI)]).length = k + 1) := by show _ = _; rw [List.length_append, HQL.out]; rfl
                    have hvb : ∀ b, v.ownBlock = some b → x.heap.size ≤ b := fun b hb => (hst.own.lt b hb).1
                    have HKN : Hid (∀ b, b < x.heap.size → b ≠ gS → (w5.setCell ⟨gS, 3, none⟩ (.slice (some ⟨g2, 0, none⟩) (ps.length + 1) cap2)).heap[b]? = x.heap[b]?) := fun b hb hne => by
                      rw [Below.heap_setCell _ ⟨gS, _, none⟩ _ b (by simpa using hne), hgrow2.block b (by have := HC3.size; have := hst.Bw; omega) (fun e => by have := hvb b e.symm; omega), HC3.block b (by have := hst.Bw; omega)]
                      exact HKB.out b hb hne
                    have hvS : some gS ≠ v.ownBlock := fun e => by have := (hstx.own.lt gS e.symm).1; have := hst.SB; omega
                    have zc : w5.cell? ⟨gS, 3, none⟩ = some v := (World.cell?_of_block (a := ⟨gS, 3, none⟩) (hgrow2.block gS (lt_of_cell hstx.c0) hvS)).trans hstx.c0
                    have zf : ∀ o, w5.frozen? ⟨gS, o, none⟩ = false := fun o => (World.frozen?_of_block (a := ⟨gS, o, none⟩) (hgrow2.block gS (lt_of_cell hstx.c0) hvS)).trans (hstx.fr o)
                    refine hK.out _ _ trivial (fun hHn => ?_)
                    clear hK KK hHn
                    try simp only [Act.put, List.setIfInBounds_toArray, List.set_cons_zero, List.set_cons_succ]
                    clear hgrow2 hat2 HR2 HD2 hin hir hri hdj hstx HO2 hvS hlt2 HC HC1' hvb HI2 HRI2 hne
                    refine wpAnyH_take (i := 10) (oi := ⟨_, _, _, _, _, _⟩) (v := ?vt128x10) rfl (by kernel_rfl) (by kernel_rfl) (by kernel_rfl) (fun _ _ _ h => h) (Or.inl ⟨by rfl, ?yt128x10⟩) trivial ?rt128x10
                    case yt128x10 => intro w hSw; clear hSw; go_simp; try with_reducible rfl
                    try simp only [Act.put, List.setIfInBounds_toArray, List.set_cons_zero, List.set_cons_succ]
                    refine wpAnyH_ready (rs := [11]) (by kernel_rfl) (by simp) ?_
                    refine AllReadyH.cons (o := ⟨_, _, _, _, _, _⟩) rfl (fun KK hK => ?b129n0) AllReadyH.nil
                    case b129n0 =>
                      go_simp
                      refine hK.out _ _ trivial (fun hHn => ?_)
                      clear hK KK hHn
                      try simp only [Act.put, List.setIfInBounds_toArray, List.set_cons_zero, List.set_cons_succ]
                      refine wpAnyH_done (by kernel_rfl) (NoPanic.normal ?_) _
                      clear zc zf hst
                      go_wp2
                      go_roundw
                      case rel => exact ⟨k + 1, _, _, by omega, by go_num, HL.out, HM.out, HKN.out, HN.out⟩
                      case measure => simp [intOf]; omega
        case b60n2 =>
          obtain ⟨y1, hy1⟩ : ∃ u, y0.alloc (.cells (madeCells #[Value.int .i64 0] n) 3) = u := ⟨_, rfl⟩
          have HR2 : y1.rowIs y0.heap.size 3 n (fun _ => .int .i64 0) := by rw [← hy1]; exact World.rowIs_made _ _ _ _
          have lE2 : wr.heap.size ≤ y0.heap.size := HC0.size
          have BE : Below y0.heap.size y0 y1 := by rw [← hy1]; exact alCu _ _
          have HC1 : Below wr.heap.size wr y1 := stCu HC0 BE
          go_simp
          refine hK.out _ _ trivial (fun hHn => ?_)
          clear hK KK hHn
          try simp only [Act.put, List.setIfInBounds_toArray, List.set_cons_zero, List.set_cons_succ]
          clear hy1 BE
          refine wpAnyH_ready (rs := [1, 3]) (by kernel_rfl) (by simp) ?_
          refine AllReadyH.cons (o := ⟨_, _, _, _, _, _⟩) rfl (fun KK hK => ?b130n0) (AllReadyH.cons (o := ⟨_, _, _, _, _, _⟩) rfl (fun KK hK => ?b130n1) AllReadyH.nil)
          case b130n0 =>
            have cL : y1.cell? ⟨gS, 3, none⟩ = some v := celB HC1 hst.c0
            go_simp
            refine hK.out _ _ trivial (fun hHn => ?_)
            clear hK KK hHn
            try simp only [Act.put, List.setIfInBounds_toArray, List.set_cons_zero, List.set_cons_succ]
            clear cL
            refine wpAnyH_ready (rs := [3]) (by kernel_rfl) (by simp) ?_
            refine AllReadyH.cons (o := ⟨_, _, _, _, _, _⟩) rfl (fun KK hK => ?b131n0) AllReadyH.nil
            case b131n0 =>
              have cV0 : y1.cell? ⟨gS, 0, none⟩ = some (.int .i64 0) := celB HC1 hst.e0
              have cV1 : y1.cell? ⟨gS, 1, none⟩ = some (.int .i64 0) := celB HC1 hst.e1
              have cV2 : y1.cell? ⟨gS, 2, none⟩ = some (.slice av n cv) := celB HC1 hst.e2
              go_simp
              refine hK.out _ _ trivial (fun hHn => ?_)
              clear hK KK hHn
              try simp only [Act.put, List.setIfInBounds_toArray, List.set_cons_zero, List.set_cons_succ]
              clear cV0 cV1 cV2
              refine wpAnyH_ready (rs := [4]) (by kernel_rfl) (by simp) ?_
              refine AllReadyH.cons (o := ⟨_, _, _, _, _, _⟩) rfl (fun KK hK => ?b132n0) AllReadyH.nil
              case b132n0 =>
                go_simp
                refine (copyView_any 0 0 av cv n (iotaZ n) (iotaZ_len n) _ (HIw.below HC1) (by omega)).mono ?_
                rintro r y2 ⟨a2, c2, rfl, HI2, HRI2, hBk⟩
                have hne : ∀ b, InI a2 n b → b ≠ y0.heap.size := fun b hb e => by have := (HRI2.lt hb).1; have := HR2.lt; omega
                replace HR2 := HR2.of_block (hBk.block _ HR2.lt)
                replace HRI2 := HRI2.mono (B' := wr.heap.size) HC1.size
                have HC2 : Below wr.heap.size wr y2 := stCu HC1 hBk
                clear hBk
                go_wp2_with fail
                refine hK.out _ _ trivial (fun hHn => ?_)
                clear hK KK hHn
                try simp only [Act.put, List.setIfInBounds_toArray, List.set_cons_zero, List.set_cons_succ]
                refine wpAnyH_take (i := 7) (oi := ⟨_, _, _, _, _, _⟩) (v := ?vt133x7) rfl (by kernel_rfl) (by kernel_rfl) (by kernel_rfl) (fun _ _ _ h => h) (Or.inl ⟨by rfl, ?yt133x7⟩) trivial ?rt133x7
                case yt133x7 => intro w hSw; clear hSw; go_simp; try with_reducible rfl
                try simp only [Act.put, List.setIfInBounds_toArray, List.set_cons_zero, List.set_cons_succ]
                refine wpAnyH_ready (rs := [8]) (by kernel_rfl) (by simp) ?_
                refine AllReadyH.cons (o := ⟨_, _, _, _, _, _⟩) rfl (fun KK hK => ?b134n0) AllReadyH.nil
                case b134n0 =>
                  obtain ⟨y3, hy3⟩ : ∃ u, y2.alloc (.cells #[.int .i64 0, .int .i64 0, .slice a2 n c2, .slice none 0 0, .slice (some ⟨y0.heap.size, 0, none⟩) n n, .int .i64 0] 49) = u := ⟨_, rfl⟩
                  have HD2 : y3.heap[y2.heap.size]? = some (.cells #[.int .i64 0, .int .i64 0, .slice a2 n c2, .slice none 0 0, .slice (some ⟨y0.heap.size, 0, none⟩) n n, .int .i64 0] 49 (0, 0)) := by rw [← hy3]; exact heap_alloc_new _ _
                  have BE : Below y2.heap.size y2 y3 := by rw [← hy3]; exact alCu _ _
                  have HC3 : Below wr.heap.size wr y3 := stCu HC2 BE
                  replace HR2 := HR2.of_block (BE.block _ HR2.lt)
                  replace HI2 := HI2.below BE
                  replace HRI2 := HRI2.below BE
                  go_simp
                  refine hK.out _ _ trivial (fun hHn => ?_)
                  clear hK KK hHn
                  try simp only [Act.put, List.setIfInBounds_toArray, List.set_cons_zero, List.set_cons_succ]
                  clear hy3 BE
                  refine wpAnyH_ready (rs := [9]) (by kernel_rfl) (by simp) ?_
                  refine AllReadyH.cons (o := ⟨_, _, _, _, _, _⟩) rfl (fun KK hK => ?b135n0) AllReadyH.nil
                  case b135n0 =>
                    have hin := ints_rep HR2
                    have hir : RowI y3 wr.heap.size (some ⟨y0.heap.size, 0, none⟩) (List.replicate n (0 : Int)).length := rowI_rep HR2 lE2
                    have hstx := hst.below HC3
                    have HC : Hid (cxC ((⟨iotaZ n, a2, c2⟩, ⟨List.replicate n 0, some ⟨y0.heap.size, 0, none⟩, n⟩) : QI × QI) = [.int .i64 0, .int .i64 0, .slice a2 n c2, .slice none 0 0, .slice (some ⟨y0.heap.size, 0, none⟩) n n, .int .i64 0]) := by show _ = _; simp [cxC, iotaZ_len]
                    have HC1' : Hid (∀ u ∈ ([.int .i64 0, .int .i64 0, .slice a2 n c2, .slice none 0 0, .slice (some ⟨y0.heap.size, 0, none⟩) n n, .int .i64 0] : List Value), u.oneCell' = true) := by show ∀ u ∈ _, _; rw [← HC.out]; exact cxC_one _
                    have hdj : ∀ b, InI a2 (iotaZ n).length b → ¬ InI (some ⟨y0.heap.size, 0, none⟩) (List.replicate n (0 : Int)).length b := fun b h1 h2 => by rw [iotaZ_len] at h1; obtain ⟨-, o, s, e3⟩ := h2; simp only [Option.some.injEq, Addr.mk.injEq] at e3; exact hne b h1 e3.1.symm
                    have hri : RowI y3 wr.heap.size a2 (iotaZ n).length := by rw [iotaZ_len]; exact HRI2
                    refine step_append_lies _ (by rfl) _ _ 25 (by rfl) x.heap.size 49 i1 _ 6 96 Tryd.underlying25 hi1 hy0 hy1 hy2 rfl (by omega) v ps.length (ps.flatMap cxC) (by rfl) hstx.own ⟨y2.heap.size, 0, none⟩ 1 1 [.int .i64 0, .int .i64 0, .slice a2 n c2, .slice none 0 0, .slice (some ⟨y0.heap.size, 0, none⟩) n n, .int .i64 0] (by rfl) (by rfl) (World.news_of_block (cs := #[.int .i64 0, .int .i64 0, .slice a2 n c2, .slice none 0 0, .slice (some ⟨y0.heap.size, 0, none⟩) n n, .int .i64 0]) (t := 49) (fr := (0, 0)) HD2) HC1'.out (by omega) (by unfold maxLen; omega) (by omega) (by have := HC3.size; have := hst.Bw; omega) (y3.heap.size) rfl ?_
                    intro g2 cap2 w5 HO2 hgrow2 hat2 hlt2
                    rw [← HC.out] at HO2
                    have HN : Hid (CxSt x.heap.size gS u1 (w5.setCell ⟨gS, 3, none⟩ (.slice (some ⟨g2, 0, none⟩) (ps.length + 1) cap2)) (.slice (some ⟨g2, 0, none⟩) (ps.length + 1) cap2) (.slice av n cv) (ps ++ [((⟨iotaZ n, a2, c2⟩, ⟨List.replicate n 0, some ⟨y0.heap.size, 0, none⟩, n⟩) : QI × QI)])) := hst.step HC3 HI2 hri hin hir hdj hgrow2 HO2 hat2
                    have HM : Hid (∀ p ∈ ps ++ [((⟨iotaZ n, a2, c2⟩, ⟨List.replicate n 0, some ⟨y0.heap.size, 0, none⟩, n⟩) : QI × QI)], p.1.zs = iotaZ n ∧ p.2.zs = List.replicate n 0) := fun p hp => by
                      rcases List.mem_append.1 hp with h1 | h1
                      · exact HQ.out p h1
                      · simp at h1; subst h1; exact ⟨rfl, rfl⟩
                    have HL : Hid ((ps ++ [((⟨iotaZ n, a2, c2⟩, ⟨List.replicate n 0, some ⟨y0.heap.size, 0, none⟩, n⟩) : QI × QI)]).length = k + 1) := by show _ = _; rw [List.length_append, HQL.out]; rfl
                    have hvb : ∀ b, v.ownBlock = some b → x.heap.size ≤ b := fun b hb => (hst.own.lt b hb).1
                    have HKN : Hid (∀ b, b < x.heap.size → b ≠ gS → (w5.setCell ⟨gS, 3, none⟩ (.slice (some ⟨g2, 0, none⟩) (ps.length + 1) cap2)).heap[b]? = x.heap[b]?) := fun b hb hne => by
                      rw [Below.heap_setCell _ ⟨gS, _, none⟩ _ b (by simpa using hne), hgrow2.block b (by have := HC3.size; have := hst.Bw; omega) (fun e => by have := hvb b e.symm; omega), HC3.block b (by have := hst.Bw; omega)]
                      exact HKB.out b hb hne
                    have hvS : some gS ≠ v.ownBlock := fun e => by have := (hstx.own.lt gS e.symm).1; have := hst.SB; omega
                    have zc : w5.cell? ⟨gS, 3, none⟩ = some v := (World.cell?_of_block (a := ⟨gS, 3, none⟩) (hgrow2.block gS (lt_of_cell hstx.c0) hvS)).trans hstx.c0
                    have zf : ∀ o, w5.frozen? ⟨gS, o, none⟩ = false := fun o => (World.frozen?_of_block (a := ⟨gS, o, none⟩) (hgrow2.block gS (lt_of_cell hstx.c0) hvS)).trans (hstx.fr o)
                    refine hK.out _ _ trivial (fun hHn => ?_)
                    clear hK KK hHn
                    try simp only [Act.put, List.setIfInBounds_toArray, List.set_cons_zero, List.set_cons_succ]
                    clear hgrow2 hat2 HR2 HD2 hin hir hri hdj hstx HO2 hvS hlt2 HC HC1' hvb HI2 HRI2 hne
                    refine wpAnyH_take (i := 10) (oi := ⟨_, _, _, _, _, _⟩) (v := ?vt136x10) rfl (by kernel_rfl) (by kernel_rfl) (by kernel_rfl) (fun _ _ _ h => h) (Or.inl ⟨by rfl, ?yt136x10⟩) trivial ?rt136x10
                    case yt136x10 => intro w hSw; clear hSw; go_simp; try with_reducible rfl
                    try simp only [Act.put, List.setIfInBounds_toArray, List.set_cons_zero, List.set_cons_succ]
                    refine wpAnyH_ready (rs := [11]) (by kernel_rfl) (by simp) ?_
                    refine AllReadyH.cons (o := ⟨_, _, _, _, _, _⟩) rfl (fun KK hK => ?b137n0) AllReadyH.nil
                    case b137n0 =>
                      go_simp
                      refine hK.out _ _ trivial (fun hHn => ?_)
                      clear hK KK hHn
                      try simp only [Act.put, List.setIfInBounds_toArray, List.set_cons_zero, List.set_cons_succ]
                      refine wpAnyH_done (by kernel_rfl) (NoPanic.normal ?_) _
                      clear zc zf hst
                      go_wp2
                      go_roundw
                      case rel => exact ⟨k + 1, _, _, by omega, by go_num, HL.out, HM.out, HKN.out, HN.out⟩
                      case measure => simp [intOf]; omega
          case b130n1 =>
            have cV0 : y1.cell? ⟨gS, 0, none⟩ = some (.int .i64 0) := celB HC1 hst.e0
            have cV1 : y1.cell? ⟨gS, 1, none⟩ = some (.int .i64 0) := celB HC1 hst.e1
            have cV2 : y1.cell? ⟨gS, 2, none⟩ = some (.slice av n cv) := celB HC1 hst.e2
            go_simp
            refine hK.out _ _ trivial (fun hHn => ?_)
            clear hK KK hHn
            try simp only [Act.put, List.setIfInBounds_toArray, List.set_cons_zero, List.set_cons_succ]
            clear cV0 cV1 cV2
            refine wpAnyH_ready (rs := [1, 4]) (by kernel_rfl) (by simp) ?_
            refine AllReadyH.cons (o := ⟨_, _, _, _, _, _⟩) rfl (fun KK hK => ?b138n0) (AllReadyH.cons (o := ⟨_, _, _, _, _, _⟩) rfl (fun KK hK => ?b138n1) AllReadyH.nil)
            case b138n0 =>
              have cL : y1.cell? ⟨gS, 3, none⟩ = some v := celB HC1 hst.c0
              go_simp
              refine hK.out _ _ trivial (fun hHn => ?_)
              clear hK KK hHn
              try simp only [Act.put, List.setIfInBounds_toArray, List.set_cons_zero, List.set_cons_succ]
              clear cL
              refine wpAnyH_ready (rs := [4]) (by kernel_rfl) (by simp) ?_
              refine AllReadyH.cons (o := ⟨_, _, _, _, _, _⟩) rfl (fun KK hK => ?b139n0) AllReadyH.nil
              case b139n0 =>
                go_simp
                refine (copyView_any 0 0 av cv n (iotaZ n) (iotaZ_len n) _ (HIw.below HC1) (by omega)).mono ?_
                rintro r y2 ⟨a2, c2, rfl, HI2, HRI2, hBk⟩
                have hne : ∀ b, InI a2 n b → b ≠ y0.heap.size := fun b hb e => by have := (HRI2.lt hb).1; have := HR2.lt; omega
                replace HR2 := HR2.of_block (hBk.block _ HR2.lt)
                replace HRI2 := HRI2.mono (B' := wr.heap.size) HC1.size
                have HC2 : Below wr.heap.size wr y2 := stCu HC1 hBk
                clear hBk
                go_wp2_with fail
                refine hK.out _ _ trivial (fun hHn => ?_)
                clear hK KK hHn
                try simp only [Act.put, List.setIfInBounds_toArray, List.set_cons_zero, List.set_cons_succ]
                refine wpAnyH_take (i := 7) (oi := ⟨_, _, _, _, _, _⟩) (v := ?vt140x7) rfl (by kernel_rfl) (by kernel_rfl) (by kernel_rfl) (fun _ _ _ h => h) (Or.inl ⟨by rfl, ?yt140x7⟩) trivial ?rt140x7
                case yt140x7 => intro w hSw; clear hSw; go_simp; try with_reducible rfl
                try simp only [Act.put, List.setIfInBounds_toArray, List.set_cons_zero, List.set_cons_succ]
                refine wpAnyH_ready (rs := [8]) (by kernel_rfl) (by simp) ?_
                refine AllReadyH.cons (o := ⟨_, _, _, _, _, _⟩) rfl (fun KK hK => ?b141n0) AllReadyH.nil
                case b141n0 =>
                  obtain ⟨y3, hy3⟩ : ∃ u, y2.alloc (.cells #[.int .i64 0, .int .i64 0, .slice a2 n c2, .slice none 0 0, .slice (some ⟨y0.heap.size, 0, none⟩) n n, .int .i64 0] 49) = u := ⟨_, rfl⟩
                  have HD2 : y3.heap[y2.heap.size]? = some (.cells #[.int .i64 0, .int .i64 0, .slice a2 n c2, .slice none 0 0, .slice (some ⟨y0.heap.size, 0, none⟩) n n, .int .i64 0] 49 (0, 0)) := by rw [← hy3]; exact heap_alloc_new _ _
                  have BE : Below y2.heap.size y2 y3 := by rw [← hy3]; exact alCu _ _
                  have HC3 : Below wr.heap.size wr y3 := stCu HC2 BE
                  replace HR2 := HR2.of_block (BE.block _ HR2.lt)
                  replace HI2 := HI2.below BE
                  replace HRI2 := HRI2.below BE
                  go_simp
                  refine hK.out _ _ trivial (fun hHn => ?_)
                  clear hK KK hHn
                  try simp only [Act.put, List.setIfInBounds_toArray, List.set_cons_zero, List.set_cons_succ]
                  clear hy3 BE
                  refine wpAnyH_ready (rs := [9]) (by kernel_rfl) (by simp) ?_
                  refine AllReadyH.cons (o := ⟨_, _, _, _, _, _⟩) rfl (fun KK hK => ?b142n0) AllReadyH.nil
                  case b142n0 =>
                    have hin := ints_rep HR2
                    have hir : RowI y3 wr.heap.size (some ⟨y0.heap.size, 0, none⟩) (List.replicate n (0 : Int)).length := rowI_rep HR2 lE2
                    have hstx := hst.below HC3
                    have HC : Hid (cxC ((⟨iotaZ n, a2, c2⟩, ⟨List.replicate n 0, some ⟨y0.heap.size, 0, none⟩, n⟩) : QI × QI) = [.int .i64 0, .int .i64 0, .slice a2 n c2, .slice none 0 0, .slice (some ⟨y0.heap.size, 0, none⟩) n n, .int .i64 0]) := by show _ = _; simp [cxC, iotaZ_len]
                    have HC1' : Hid (∀ u ∈ ([.int .i64 0, .int .i64 0, .slice a2 n c2, .slice none 0 0, .slice (some ⟨y0.heap.size, 0, none⟩) n n, .int .i64 0] : List Value), u.oneCell' = true) := by show ∀ u ∈ _, _; rw [← HC.out]; exact cxC_one _
                    have hdj : ∀ b, InI a2 (iotaZ n).length b → ¬ InI (some ⟨y0.heap.size, 0, none⟩) (List.replicate n (0 : Int)).length b := fun b h1 h2 => by rw [iotaZ_len] at h1; obtain ⟨-, o, s, e3⟩ := h2; simp only [Option.some.injEq, Addr.mk.injEq] at e3; exact hne b h1 e3.1.symm
                    have hri : RowI y3 wr.heap.size a2 (iotaZ n).length := by rw [iotaZ_len]; exact HRI2
                    refine step_append_lies _ (by rfl) _ _ 25 (by rfl) x.heap.size 49 i1 _ 6 96 Tryd.underlying25 hi1 hy0 hy1 hy2 rfl (by omega) v ps.length (ps.flatMap cxC) (by rfl) hstx.own ⟨y2.heap.size, 0, none⟩ 1 1 [.int .i64 0, .int .i64 0, .slice a2 n c2, .slice none 0 0, .slice (some ⟨y0.heap.size, 0, none⟩) n n, .int .i64 0] (by rfl) (by rfl) (World.news_of_block (cs := #[.int .i64 0, .int .i64 0, .slice a2 n c2, .slice none 0 0, .slice (some ⟨y0.heap.size, 0, none⟩) n n, .int .i64 0]) (t := 49) (fr := (0, 0)) HD2) HC1'.out (by omega) (by unfold maxLen; omega) (by omega) (by have := HC3.size; have := hst.Bw; omega) (y3.heap.size) rfl ?_
                    intro g2 cap2 w5 HO2 hgrow2 hat2 hlt2
                    rw [← HC.out] at HO2
                    have HN : Hid (CxSt x.heap.size gS u1 (w5.setCell ⟨gS, 3, none⟩ (.slice (some ⟨g2, 0, none⟩) (ps.length + 1) cap2)) (.slice (some ⟨g2, 0, none⟩) (ps.length + 1) cap2) (.slice av n cv) (ps ++ [((⟨iotaZ n, a2, c2⟩, ⟨List.replicate n 0, some ⟨y0.heap.size, 0, none⟩, n⟩) : QI × QI)])) := hst.step HC3 HI2 hri hin hir hdj hgrow2 HO2 hat2
                    have HM : Hid (∀ p ∈ ps ++ [((⟨iotaZ n, a2, c2⟩, ⟨List.replicate n 0, some ⟨y0.heap.size, 0, none⟩, n⟩) : QI × QI)], p.1.zs = iotaZ n ∧ p.2.zs = List.replicate n 0) := fun p hp => by
                      rcases List.mem_append.1 hp with h1 | h1
                      · exact HQ.out p h1
                      · simp at h1; subst h1; exact ⟨rfl, rfl⟩
                    have HL : Hid ((ps ++ [((⟨iotaZ n, a2, c2⟩, ⟨List.replicate n 0, some ⟨y0.heap.size, 0, none⟩, n⟩) : QI × QI)]).length = k + 1) := by show _ = _; rw [List.length_append, HQL.out]; rfl
                    have hvb : ∀ b, v.ownBlock = some b → x.heap.size ≤ b := fun b hb => (hst.own.lt b hb).1
                    have HKN : Hid (∀ b, b < x.heap.size → b ≠ gS → (w5.setCell ⟨gS, 3, none⟩ (.slice (some ⟨g2, 0, none⟩) (ps.length + 1) cap2)).heap[b]? = x.heap[b]?) := fun b hb hne => by
                      rw [Below.heap_setCell _ ⟨gS, _, none⟩ _ b (by simpa using hne), hgrow2.block b (by have := HC3.size; have := hst.Bw; omega) (fun e => by have := hvb b e.symm; omega), HC3.block b (by have := hst.Bw; omega)]
                      exact HKB.out b hb hne
                    have hvS : some gS ≠ v.ownBlock := fun e => by have := (hstx.own.lt gS e.symm).1; have := hst.SB; omega
                    have zc : w5.cell? ⟨gS, 3, none⟩ = some v := (World.cell?_of_block (a := ⟨gS, 3, none⟩) (hgrow2.block gS (lt_of_cell hstx.c0) hvS)).trans hstx.c0
                    have zf : ∀ o, w5.frozen? ⟨gS, o, none⟩ = false := fun o => (World.frozen?_of_block (a := ⟨gS, o, none⟩) (hgrow2.block gS (lt_of_cell hstx.c0) hvS)).trans (hstx.fr o)
                    refine hK.out _ _ trivial (fun hHn => ?_)
                    clear hK KK hHn
                    try simp only [Act.put, List.setIfInBounds_toArray, List.set_cons_zero, List.set_cons_succ]
                    clear hgrow2 hat2 HR2 HD2 hin hir hri hdj hstx HO2 hvS hlt2 HC HC1' hvb HI2 HRI2 hne
                    refine wpAnyH_take (i := 10) (oi := ⟨_, _, _, _, _, _⟩) (v := ?vt143x10) rfl (by kernel_rfl) (by kernel_rfl) (by kernel_rfl) (fun _ _ _ h => h) (Or.inl ⟨by rfl, ?yt143x10⟩) trivial ?rt143x10
                    case yt143x10 => intro w hSw; clear hSw; go_simp; try with_reducible rfl
                    try simp only [Act.put, List.setIfInBounds_toArray, List.set_cons_zero, List.set_cons_succ]
                    refine wpAnyH_ready (rs := [11]) (by kernel_rfl) (by simp) ?_
                    refine AllReadyH.cons (o := ⟨_, _, _, _, _, _⟩) rfl (fun KK hK => ?b144n0) AllReadyH.nil
                    case b144n0 =>
                      go_simp
                      refine hK.out _ _ trivial (fun hHn => ?_)
                      clear hK KK hHn
                      try simp only [Act.put, List.setIfInBounds_toArray, List.set_cons_zero, List.set_cons_succ]
                      refine wpAnyH_done (by kernel_rfl) (NoPanic.normal ?_) _
                      clear zc zf hst
                      go_wp2
                      go_roundw
                      case rel => exact ⟨k + 1, _, _, by omega, by go_num, HL.out, HM.out, HKN.out, HN.out⟩
                      case measure => simp [intOf]; omega
            case b138n1 =>
              go_simp
              refine (copyView_any 0 0 av cv n (iotaZ n) (iotaZ_len n) _ (HIw.below HC1) (by omega)).mono ?_
              rintro r y2 ⟨a2, c2, rfl, HI2, HRI2, hBk⟩
              have hne : ∀ b, InI a2 n b → b ≠ y0.heap.size := fun b hb e => by have := (HRI2.lt hb).1; have := HR2.lt; omega
              replace HR2 := HR2.of_block (hBk.block _ HR2.lt)
              replace HRI2 := HRI2.mono (B' := wr.heap.size) HC1.size
              have HC2 : Below wr.heap.size wr y2 := stCu HC1 hBk
              clear hBk
              go_wp2_with fail
              refine hK.out _ _ trivial (fun hHn => ?_)
              clear hK KK hHn
              try simp only [Act.put, List.setIfInBounds_toArray, List.set_cons_zero, List.set_cons_succ]
              refine wpAnyH_take (i := 7) (oi := ⟨_, _, _, _, _, _⟩) (v := ?vt145x7) rfl (by kernel_rfl) (by kernel_rfl) (by kernel_rfl) (fun _ _ _ h => h) (Or.inl ⟨by rfl, ?yt145x7⟩) trivial ?rt145x7
              case yt145x7 => intro w hSw; clear hSw; go_simp; try with_reducible rfl
              try simp only [Act.put, List.setIfInBounds_toArray, List.set_cons_zero, List.set_cons_succ]
              refine wpAnyH_ready (rs := [1, 8]) (by kernel_rfl) (by simp) ?_
              refine AllReadyH.cons (o := ⟨_, _, _, _, _, _⟩) rfl (fun KK hK => ?b146n0) (AllReadyH.cons (o := ⟨_, _, _, _, _, _⟩) rfl (fun KK hK => ?b146n1) AllReadyH.nil)
              case b146n0 =>
                have cL : y2.cell? ⟨gS, 3, none⟩ = some v := celB HC2 hst.c0
                go_simp
                refine hK.out _ _ trivial (fun hHn => ?_)
                clear hK KK hHn
                try simp only [Act.put, List.setIfInBounds_toArray, List.set_cons_zero, List.set_cons_succ]
                clear cL
                refine wpAnyH_ready (rs := [8]) (by kernel_rfl) (by simp) ?_
                refine AllReadyH.cons (o := ⟨_, _, _, _, _, _⟩) rfl (fun KK hK => ?b147n0) AllReadyH.nil
                case b147n0 =>
                  obtain ⟨y3, hy3⟩ : ∃ u, y2.alloc (.cells #[.int .i64 0, .int .i64 0, .slice a2 n c2, .slice none 0 0, .slice (some ⟨y0.heap.size, 0, none⟩) n n, .int .i64 0] 49) = u := ⟨_, rfl⟩
                  have HD2 : y3.heap[y2.heap.size]? = some (.cells #[.int .i64 0, .int .i64 0, .slice a2 n c2, .slice none 0 0, .slice (some ⟨y0.heap.size, 0, none⟩) n n, .int .i64 0] 49 (0, 0)) := by rw [← hy3]; exact heap_alloc_new _ _
                  have BE : Below y2.heap.size y2 y3 := by rw [← hy3]; exact alCu _ _
                  have HC3 : Below wr.heap.size wr y3 := stCu HC2 BE
                  replace HR2 := HR2.of_block (BE.block _ HR2.lt)
                  replace HI2 := HI2.below BE
                  replace HRI2 := HRI2.below BE
                  go_simp
                  refine hK.out _ _ trivial (fun hHn => ?_)
                  clear hK KK hHn
                  try simp only [Act.put, List.setIfInBounds_toArray, List.set_cons_zero, List.set_cons_succ]
                  clear hy3 BE
                  refine wpAnyH_ready (rs := [9]) (by kernel_rfl) (by simp) ?_
                  refine AllReadyH.cons (o := ⟨_, _, _, _, _, _⟩) rfl (fun KK hK => ?b148n0) AllReadyH.nil
                  case b148n0 =>
                    have hin := ints_rep HR2
                    have hir : RowI y3 wr.heap.size (some ⟨y0.heap.size, 0, none⟩) (List.replicate n (0 : Int)).length := rowI_rep HR2 lE2
                    have hstx := hst.below HC3
                    have HC : Hid (cxC ((⟨iotaZ n, a2, c2⟩, ⟨List.replicate n 0, some ⟨y0.heap.size, 0, none⟩, n⟩) : QI × QI) = [.int .i64 0, .int .i64 0, .slice a2 n c2, .slice none 0 0, .slice (some ⟨y0.heap.size, 0, none⟩) n n, .int .i64 0]) := by show _ = _; simp [cxC, iotaZ_len]
                    have HC1' : Hid (∀ u ∈ ([.int .i64 0, .int .i64 0, .slice a2 n c2, .slice none 0 0, .slice (some ⟨y0.heap.size, 0, none⟩) n n, .int .i64 0] : List Value), u.oneCell' = true) := by show ∀ u ∈ _, _; rw [← HC.out]; exact cxC_one _
                    have hdj : ∀ b, InI a2 (iotaZ n).length b → ¬ InI (some ⟨y0.heap.size, 0, none⟩) (List.replicate n (0 : Int)).length b := fun b h1 h2 => by rw [iotaZ_len] at h1; obtain ⟨-, o, s, e3⟩ := h2; simp only [Option.some.injEq, Addr.mk.injEq] at e3; exact hne b h1 e3.1.symm
                    have hri : RowI y3 wr.heap.size a2 (iotaZ n).length := by rw [iotaZ_len]; exact HRI2
                    refine step_append_lies _ (by rfl) _ _ 25 (by rfl) x.heap.size 49 i1 _ 6 96 Tryd.underlying25 hi1 hy0 hy1 hy2 rfl (by omega) v ps.length (ps.flatMap cxC) (by rfl) hstx.own ⟨y2.heap.size, 0, none⟩ 1 1 [.int .i64 0, .int .i64 0, .slice a2 n c2, .slice none 0 0, .slice (some ⟨y0.heap.size, 0, none⟩) n n, .int .i64 0] (by rfl) (by rfl) (World.news_of_block (cs := #[.int .i64 0, .int .i64 0, .slice a2 n c2, .slice none 0 0, .slice (some ⟨y0.heap.size, 0, none⟩) n n, .int .i64 0]) (t := 49) (fr := (0, 0)) HD2) HC1'.out (by omega) (by unfold maxLen; omega) (by omega) (by have := HC3.size; have := hst.Bw; omega) (y3.heap.size) rfl ?_
                    intro g2 cap2 w5 HO2 hgrow2 hat2 hlt2
                    rw [← HC.out] at HO2
                    have HN : Hid (CxSt x.heap.size gS u1 (w5.setCell ⟨gS, 3, none⟩ (.slice (some ⟨g2, 0, none⟩) (ps.length + 1) cap2)) (.slice (some ⟨g2, 0, none⟩) (ps.length + 1) cap2) (.slice av n cv) (ps ++ [((⟨iotaZ n, a2, c2⟩, ⟨List.replicate n 0, some ⟨y0.heap.size, 0, none⟩, n⟩) : QI × QI)])) := hst.step HC3 HI2 hri hin hir hdj hgrow2 HO2 hat2
                    have HM : Hid (∀ p ∈ ps ++ [((⟨iotaZ n, a2, c2⟩, ⟨List.replicate n 0, some ⟨y0.heap.size, 0, none⟩, n⟩) : QI × QI)], p.1.zs = iotaZ n ∧ p.2.zs = List.replicate n 0) := fun p hp => by
                      rcases List.mem_append.1 hp with h1 | h1
                      · exact HQ.out p h1
                      · simp at h1; subst h1; exact ⟨rfl, rfl⟩
                    have HL : Hid ((ps ++ [((⟨iotaZ n, a2, c2⟩, ⟨List.replicate n 0, some ⟨y0.heap.size, 0, none⟩, n⟩) : QI × QI)]).length = k + 1) := by show _ = _; rw [List.length_append, HQL.out]; rfl
                    have hvb : ∀ b, v.ownBlock = some b → x.heap.size ≤ b := fun b hb => (hst.own.lt b hb).1
                    have HKN : Hid (∀ b, b < x.heap.size → b ≠ gS → (w5.setCell ⟨gS, 3, none⟩ (.slice (some ⟨g2, 0, none⟩) (ps.length + 1) cap2)).heap[b]? = x.heap[b]?) := fun b hb hne => by
                      rw [Below.heap_setCell _ ⟨gS, _, none⟩ _ b (by simpa using hne), hgrow2.block b (by have := HC3.size; have := hst.Bw; omega) (fun e => by have := hvb b e.symm; omega), HC3.block b (by have := hst.Bw; omega)]
                      exact HKB.out b hb hne
                    have hvS : some gS ≠ v.ownBlock := fun e => by have := (hstx.own.lt gS e.symm).1; have := hst.SB; omega
                    have zc : w5.cell? ⟨gS, 3, none⟩ = some v := (World.cell?_of_block (a := ⟨gS, 3, none⟩) (hgrow2.block gS (lt_of_cell hstx.c0) hvS)).trans hstx.c0
                    have zf : ∀ o, w5.frozen? ⟨gS, o, none⟩ = false := fun o => (World.frozen?_of_block (a := ⟨gS, o, none⟩) (hgrow2.block gS (lt_of_cell hstx.c0) hvS)).trans (hstx.fr o)
                    refine hK.out _ _ trivial (fun hHn => ?_)
                    clear hK KK hHn
                    try simp only [Act.put, List.setIfInBounds_toArray, List.set_cons_zero, List.set_cons_succ]
                    clear hgrow2 hat2 HR2 HD2 hin hir hri hdj hstx HO2 hvS hlt2 HC HC1' hvb HI2 HRI2 hne
                    refine wpAnyH_take (i := 10) (oi := ⟨_, _, _, _, _, _⟩) (v := ?vt149x10) rfl (by kernel_rfl) (by kernel_rfl) (by kernel_rfl) (fun _ _ _ h => h) (Or.inl ⟨by rfl, ?yt149x10⟩) trivial ?rt149x10
                    case yt149x10 => intro w hSw; clear hSw; go_simp; try with_reducible rfl
                    try simp only [Act.put, List.setIfInBounds_toArray, List.set_cons_zero, List.set_cons_succ]
                    refine wpAnyH_ready (rs := [11]) (by kernel_rfl) (by simp) ?_
                    refine AllReadyH.cons (o := ⟨_, _, _, _, _, _⟩) rfl (fun KK hK => ?b150n0) AllReadyH.nil
                    case b150n0 =>
                      go_simp
                      refine hK.out _ _ trivial (fun hHn => ?_)
                      clear hK KK hHn
                      try simp only [Act.put, List.setIfInBounds_toArray, List.set_cons_zero, List.set_cons_succ]
                      refine wpAnyH_done (by kernel_rfl) (NoPanic.normal ?_) _
                      clear zc zf hst
                      go_wp2
                      go_roundw
                      case rel => exact ⟨k + 1, _, _, by omega, by go_num, HL.out, HM.out, HKN.out, HN.out⟩
                      case measure => simp [intOf]; omega
              case b146n1 =>
                obtain ⟨y3, hy3⟩ : ∃ u, y2.alloc (.cells #[.int .i64 0, .int .i64 0, .slice a2 n c2, .slice none 0 0, .slice (some ⟨y0.heap.size, 0, none⟩) n n, .int .i64 0] 49) = u := ⟨_, rfl⟩
                have HD2 : y3.heap[y2.heap.size]? = some (.cells #[.int .i64 0, .int .i64 0, .slice a2 n c2, .slice none 0 0, .slice (some ⟨y0.heap.size, 0, none⟩) n n, .int .i64 0] 49 (0, 0)) := by rw [← hy3]; exact heap_alloc_new _ _
                have BE : Below y2.heap.size y2 y3 := by rw [← hy3]; exact alCu _ _
                have HC3 : Below wr.heap.size wr y3 := stCu HC2 BE
                replace HR2 := HR2.of_block (BE.block _ HR2.lt)
                replace HI2 := HI2.below BE
                replace HRI2 := HRI2.below BE
                go_simp
                refine hK.out _ _ trivial (fun hHn => ?_)
                clear hK KK hHn
                try simp only [Act.put, List.setIfInBounds_toArray, List.set_cons_zero, List.set_cons_succ]
                clear hy3 BE
                refine wpAnyH_ready (rs := [1]) (by kernel_rfl) (by simp) ?_
                refine AllReadyH.cons (o := ⟨_, _, _, _, _, _⟩) rfl (fun KK hK => ?b151n0) AllReadyH.nil
                case b151n0 =>
                  have cL : y3.cell? ⟨gS, 3, none⟩ = some v := celB HC3 hst.c0
                  go_simp
                  refine hK.out _ _ trivial (fun hHn => ?_)
                  clear hK KK hHn
                  try simp only [Act.put, List.setIfInBounds_toArray, List.set_cons_zero, List.set_cons_succ]
                  clear cL
                  refine wpAnyH_ready (rs := [9]) (by kernel_rfl) (by simp) ?_
                  refine AllReadyH.cons (o := ⟨_, _, _, _, _, _⟩) rfl (fun KK hK => ?b152n0) AllReadyH.nil
                  case b152n0 =>
                    have hin := ints_rep HR2
                    have hir : RowI y3 wr.heap.size (some ⟨y0.heap.size, 0, none⟩) (List.replicate n (0 : Int)).length := rowI_rep HR2 lE2
                    have hstx := hst.below HC3
                    have HC : Hid (cxC ((⟨iotaZ n, a2, c2⟩, ⟨List.replicate n 0, some ⟨y0.heap.size, 0, none⟩, n⟩) : QI × QI) = [.int .i64 0, .int .i64 0, .slice a2 n c2, .slice none 0 0, .slice (some ⟨y0.heap.size, 0, none⟩) n n, .int .i64 0]) := by show _ = _; simp [cxC, iotaZ_len]
                    have HC1' : Hid (∀ u ∈ ([.int .i64 0, .int .i64 0, .slice a2 n c2, .slice none 0 0, .slice (some ⟨y0.heap.size, 0, none⟩) n n, .int .i64 0] : List Value), u.oneCell' = true) := by show ∀ u ∈ _, _; rw [← HC.out]; exact cxC_one _
                    have hdj : ∀ b, InI a2 (iotaZ n).length b → ¬ InI (some ⟨y0.heap.size, 0, none⟩) (List.replicate n (0 : Int)).length b := fun b h1 h2 => by rw [iotaZ_len] at h1; obtain ⟨-, o, s, e3⟩ := h2; simp only [Option.some.injEq, Addr.mk.injEq] at e3; exact hne b h1 e3.1.symm
                    have hri : RowI y3 wr.heap.size a2 (iotaZ n).length := by rw [iotaZ_len]; exact HRI2
                    refine step_append_lies _ (by rfl) _ _ 25 (by rfl) x.heap.size 49 i1 _ 6 96 Tryd.underlying25 hi1 hy0 hy1 hy2 rfl (by omega) v ps.length (ps.flatMap cxC) (by rfl) hstx.own ⟨y2.heap.size, 0, none⟩ 1 1 [.int .i64 0, .int .i64 0, .slice a2 n c2, .slice none 0 0, .slice (some ⟨y0.heap.size, 0, none⟩) n n, .int .i64 0] (by rfl) (by rfl) (World.news_of_block (cs := #[.int .i64 0, .int .i64 0, .slice a2 n c2, .slice none 0 0, .slice (some ⟨y0.heap.size, 0, none⟩) n n, .int .i64 0]) (t := 49) (fr := (0, 0)) HD2) HC1'.out (by omega) (by unfold maxLen; omega) (by omega) (by have := HC3.size; have := hst.Bw; omega) (y3.heap.size) rfl ?_
                    intro g2 cap2 w5 HO2 hgrow2 hat2 hlt2
                    rw [← HC.out] at HO2
                    have HN : Hid (CxSt x.heap.size gS u1 (w5.setCell ⟨gS, 3, none⟩ (.slice (some ⟨g2, 0, none⟩) (ps.length + 1) cap2)) (.slice (some ⟨g2, 0, none⟩) (ps.length + 1) cap2) (.slice av n cv) (ps ++ [((⟨iotaZ n, a2, c2⟩, ⟨List.replicate n 0, some ⟨y0.heap.size, 0, none⟩, n⟩) : QI × QI)])) := hst.step HC3 HI2 hri hin hir hdj hgrow2 HO2 hat2
                    have HM : Hid (∀ p ∈ ps ++ [((⟨iotaZ n, a2, c2⟩, ⟨List.replicate n 0, some ⟨y0.heap.size, 0, none⟩, n⟩) : QI × QI)], p.1.zs = iotaZ n ∧ p.2.zs = List.replicate n 0) := fun p hp => by
                      rcases List.mem_append.1 hp with h1 | h1
                      · exact HQ.out p h1
                      · simp at h1; subst h1; exact ⟨rfl, rfl⟩
                    have HL : Hid ((ps ++ [((⟨iotaZ n, a2, c2⟩, ⟨List.replicate n 0, some ⟨y0.heap.size, 0, none⟩, n⟩) : QI × QI)]).length = k + 1) := by show _ = _; rw [List.length_append, HQL.out]; rfl
                    have hvb : ∀ b, v.ownBlock = some b → x.heap.size ≤ b := fun b hb => (hst.own.lt b hb).1
                    have HKN : Hid (∀ b, b < x.heap.size → b ≠ gS → (w5.setCell ⟨gS, 3, none⟩ (.slice (some ⟨g2, 0, none⟩) (ps.length + 1) cap2)).heap[b]? = x.heap[b]?) := fun b hb hne => by
                      rw [Below.heap_setCell _ ⟨gS, _, none⟩ _ b (by simpa using hne), hgrow2.block b (by have := HC3.size; have := hst.Bw; omega) (fun e => by have := hvb b e.symm; omega), HC3.block b (by have := hst.Bw; omega)]
                      exact HKB.out b hb hne
                    have hvS : some gS ≠ v.ownBlock := fun e => by have := (hstx.own.lt gS e.symm).1; have := hst.SB; omega
                    have zc : w5.cell? ⟨gS, 3, none⟩ = some v := (World.cell?_of_block (a := ⟨gS, 3, none⟩) (hgrow2.block gS (lt_of_cell hstx.c0) hvS)).trans hstx.c0
                    have zf : ∀ o, w5.frozen? ⟨gS, o, none⟩ = false := fun o => (World.frozen?_of_block (a := ⟨gS, o, none⟩) (hgrow2.block gS (lt_of_cell hstx.c0) hvS)).trans (hstx.fr o)
                    refine hK.out _ _ trivial (fun hHn => ?_)
                    clear hK KK hHn
                    try simp only [Act.put, List.setIfInBounds_toArray, List.set_cons_zero, List.set_cons_succ]
                    clear hgrow2 hat2 HR2 HD2 hin hir hri hdj hstx HO2 hvS hlt2 HC HC1' hvb HI2 HRI2 hne
                    refine wpAnyH_take (i := 10) (oi := ⟨_, _, _, _, _, _⟩) (v := ?vt153x10) rfl (by kernel_rfl) (by kernel_rfl) (by kernel_rfl) (fun _ _ _ h => h) (Or.inl ⟨by rfl, ?yt153x10⟩) trivial ?rt153x10
                    case yt153x10 => intro w hSw; clear hSw; go_simp; try with_reducible rfl
                    try simp only [Act.put, List.setIfInBounds_toArray, List.set_cons_zero, List.set_cons_succ]
                    refine wpAnyH_ready (rs := [11]) (by kernel_rfl) (by simp) ?_
                    refine AllReadyH.cons (o := ⟨_, _, _, _, _, _⟩) rfl (fun KK hK => ?b154n0) AllReadyH.nil
                    case b154n0 =>
                      go_simp
                      refine hK.out _ _ trivial (fun hHn => ?_)
                      clear hK KK hHn
                      try simp only [Act.put, List.setIfInBounds_toArray, List.set_cons_zero, List.set_cons_succ]
                      refine wpAnyH_done (by kernel_rfl) (NoPanic.normal ?_) _
                      clear zc zf hst
                      go_wp2
                      go_roundw
                      case rel => exact ⟨k + 1, _, _, by omega, by go_num, HL.out, HM.out, HKN.out, HN.out⟩
                      case measure => simp [intOf]; omega
      · obtain rfl : k = n := by omega
        obtain ⟨a1, c1, ev⟩ := ownsZ_form hst.own
        subst ev
        have hVb : ∀ b, InI av k b → wr.heap[b]? = x.heap[b]? := fun b hb => HKB.out b (by have := HLB.out b hb; omega) (fun e => by have := HLB.out b hb; omega)
        have HDn : Hid (CuO wr u1.heap.size ⟨0, 0, iotaZ k, List.replicate ps.length (ndZ k), []⟩ av a1 none (fun j => (ps.getD j p0N).1.a) (fun _ => none) (fun j => (ps.getD j p0N).2.a) (fun j => (ps.getD j p0N).1.c) (fun _ => 0) (fun j => (ps.getD j p0N).2.c)) := hst.done HQ.out (by omega) (HI.of_block (fun b hb => hVb b (by rw [iotaZ_len] at hb; exact hb))) (by rw [iotaZ_len]; exact HRI.of_block hVb) (fun b hb => by rw [iotaZ_len] at hb; have := HLB.out b hb; omega)
        rw [HQL.out] at HDn
        have e3 := hst.c0
        have e0 := hst.e0
        have e1 := hst.e1
        have e2 := hst.e2
        have e4 := hst.e4
        rw [HQL.out] at e3
        clear hst HQ hmk hVb HI HRI hpl
        go_wp2
        have E1 : Ending.returned (.tuple #[.agg #[.int .i64 0, .int .i64 0, .slice av k cv, .slice a1 k c1, .slice none 0 0], .bool true]) = Ending.returned (.tuple #[cuV (newCu (k : Int)) av cv a1 c1 none 0, .bool true]) := by rw [HE.out]; simp only [cuV, iotaZ_len, List.length_replicate, List.length_nil]
        refine bodyPost_ret (v := .tuple #[.agg #[.int .i64 0, .int .i64 0, .slice av k cv, .slice a1 k c1, .slice none 0 0], .bool true]) (by simp [results, Tryd.results6, go_sem, p0, p1, p2, p3, p4]) rfl ?_
        have HDz : CuO (((((wr.setCell ⟨w.heap.size, 0, none⟩ (.int .i64 0)).setCell ⟨w.heap.size, 1, none⟩ (.int .i64 0)).setCell ⟨w.heap.size, 2, none⟩ (.slice av k cv)).setCell ⟨w.heap.size, 3, none⟩ (.slice a1 k c1)).setCell ⟨w.heap.size, 4, none⟩ (.slice none 0 0)) u1.heap.size ⟨0, 0, iotaZ k, List.replicate k (ndZ k), []⟩ av a1 none (fun j => (ps.getD j p0N).1.a) (fun _ => none) (fun j => (ps.getD j p0N).2.a) (fun j => (ps.getD j p0N).1.c) (fun _ => 0) (fun j => (ps.getD j p0N).2.c) := HDn.out.of_block (fun b hb => by have := (HDn.out.lt hb).1; rw [Below.heap_setCell _ ⟨w.heap.size, _, none⟩ _ b (by simp; omega), Below.heap_setCell _ ⟨w.heap.size, _, none⟩ _ b (by simp; omega), Below.heap_setCell _ ⟨w.heap.size, _, none⟩ _ b (by simp; omega), Below.heap_setCell _ ⟨w.heap.size, _, none⟩ _ b (by simp; omega), Below.heap_setCell _ ⟨w.heap.size, _, none⟩ _ b (by simp; omega)])
        have E3 := (((((bB.trans (hB.mono (by omega))).setCell (Nat.le_refl _) (.int .i64 0) (p := ⟨w.heap.size, 0, none⟩)).setCell (Nat.le_refl _) (.int .i64 0) (p := ⟨w.heap.size, 1, none⟩)).setCell (Nat.le_refl _) (.slice av k cv) (p := ⟨w.heap.size, 2, none⟩)).setCell (Nat.le_refl _) (.slice a1 k c1) (p := ⟨w.heap.size, 3, none⟩)).setCell (Nat.le_refl _) (.slice none 0 0) (p := ⟨w.heap.size, 4, none⟩)
        exact ⟨av, a1, none, cv, c1, 0, _, _, _, _, _, _, E1, by rw [HE.out]; exact HDz.mono (by omega), E3⟩

end Go.Proofs.YtekjpbfmiebigaaDoor
