/-
  Groups, the program's side: impl.ownList of rows, impl.CommittedRows. Made by mkgri2.py.
-/
import Derived.Test.YtkhbgdnhkaeamaaGrI3
import Derived.Test.YtkhbgdnhkaeamaaGrC
import Derived.Test.YtkhbgdnhkaeamaaRwiM
namespace Go.Proofs.Ytkhbgdnhkaeamaa
open Go.RowKit

theorem rowRw_of_owns {w : World} {B : Nat} {a : Option Addr} {c n : Nat} {xs : List Value} (h : w.ownsRow B 72 2 (.slice a n c) n xs) : RowRw w B a n := by
  by_cases h0 : n = 0
  · exact .inl h0
  · obtain ⟨g, cap, f, hv, hg, hn, hR, -⟩ := row_of_ownsZ h (by omega)
    simp only [Value.slice.injEq] at hv
    obtain ⟨rfl, -, rfl⟩ := hv
    exact .inr ⟨g, _, f, rfl, hg, Nat.mul_le_mul_right 2 hn, hR⟩

set_option maxRecDepth 100000 in
set_option maxHeartbeats 4000000 in
theorem ownListR_any (a : Option Addr) (m c : Nat) (l : List Rw) (w : World) (hs : Rws w a l) (hm : m ≤ l.length) (hl : m ≤ 1000000) :
    Calls Try.prog 38 #[.slice a m c] w fun e w' => ∃ a' c', e = .returned (.slice a' m c') ∧ Rws w' a' (l.take m) ∧ RowRw w' w.heap.size a' m ∧ Below w.heap.size w w' := by
  obtain ⟨i1, hi1, hy0, hy1, hy2⟩ := infoZ Try.infoRw
  have hLm : Hid ((l.take m).length = m) := by show _ = _; simp; omega
  go_enter Try.func38, Try.ntmps38
  go_wp2_with (at_builtin; refine wpList_appZ _ rfl _ _ 34 rfl w.heap.size 72 i1 _ 2 16 Try.underlying34 hi1 hy0 hy1 hy2 rfl (by decide) (.slice none 0 0) 0 [] rfl (World.ownsRow_nil _ _ _ _) (.slice a m c) m ((l.take m).flatMap rwC) rfl (srcZ_rws _ hs hm) ?c3 ?c4 ?c5 ?_)
  case c3 => unfold maxLen; omega
  case c4 => omega
  case c5 => omega
  intro v w4 hown hgrow hat
  try simp only [Nat.zero_add, List.nil_append] at hown
  obtain ⟨av, cv, rfl⟩ := ownsZ_form hown
  have B4 : Below w.heap.size w w4 := (Below.refl _ _).grown hgrow (Nat.le_refl _) (fun b hb => by simp [Value.ownBlock] at hb)
  have HR : Hid (RowRw w4 w.heap.size av m) := rowRw_of_owns hown
  have HO : Hid (Rws w4 av (l.take m)) := by
    have := hown
    rw [← hLm.out] at this
    refine rws_of_owns (B := w.heap.size) (c := cv) ?_
    rw [hLm.out] at this ⊢
    exact this
  clear hgrow hat hown
  go_wp2
  refine bodyPost_ret (v := .slice av m cv) (by simp [results, Try.results38, go_sem]) rfl ⟨av, cv, rfl, HO.out, HR.out, B4⟩

set_option maxRecDepth 100000 in
set_option maxHeartbeats 8000000 in
theorem implCommittedRows_any (s : Gr) (a0 a1 : Option Addr) (c0 c1 : Nat) (w : World) (hs : GrR w s a0 a1) (hk : RpsK w a1 s.reps) (hb : GrB s) :
    Calls Try.prog 12 #[grV s a0 c0 a1 c1] w fun e w' => ∃ a' c', e = .returned (.tuple #[.slice a' (crL s).length c', .bool (goodGr s)]) ∧ Rws w' a' (crL s) ∧ RowRw w' w.heap.size a' (crL s).length ∧ Below w.heap.size w w' := by
  obtain ⟨u0, hu0⟩ : ∃ u0, (w.alloc (.cells #[.int .i64 s.epoch, .int .i64 s.leader, .slice a0 s.steps.length c0, .int .i64 s.high, .slice a1 s.reps.length c1] 30)) = u0 := ⟨_, rfl⟩
  have q0 : u0.cell? ⟨w.heap.size, 0, none⟩ = some (.int .i64 s.epoch) := by rw [← hu0]; simp [go_sem]
  have q2 : u0.cell? ⟨w.heap.size, 2, none⟩ = some (.slice a0 s.steps.length c0) := by rw [← hu0]; simp [go_sem]
  have q1 : u0.cell? ⟨w.heap.size, 1, none⟩ = some (.int .i64 s.leader) := by rw [← hu0]; simp [go_sem]
  have q3 : u0.cell? ⟨w.heap.size, 3, none⟩ = some (.int .i64 s.high) := by rw [← hu0]; simp [go_sem]
  have q4 : u0.cell? ⟨w.heap.size, 4, none⟩ = some (.slice a1 s.reps.length c1) := by rw [← hu0]; simp [go_sem]
  have bB : Below w.heap.size w u0 := by rw [← hu0]; exact alGr _ _
  cases hg : goodGr s with
  | false =>
    have HE : Hid (crL s = []) := crL_f hg
    go_enter Try.func12, Try.ntmps12
    go_wp2_with fail
    refine (implGoodGr_c s _ _ _ _ _ (hs.below bB) hb.len _ hg).mono ?_
    rintro r w1 ⟨rfl, hB1⟩
    clear hu0
    go_wp2
    refine bodyPost_ret (v := .tuple #[.slice none 0 0, .bool false]) (by simp [results, Try.results12, go_sem]) rfl ⟨none, 0, by rw [HE.out]; rfl, by rw [HE.out]; exact Rws.nil _ _, .inl (by rw [HE.out]; rfl), stGr bB hB1⟩
  | true =>
    go_enter Try.func12, Try.ntmps12
    go_wp2_with fail
    refine (implGoodGr_c s _ _ _ _ _ (hs.below bB) hb.len _ hg).mono ?_
    rintro r w1 ⟨rfl, hB1⟩
    clear hu0
    obtain ⟨h1, h2, h3, h4, h5, h6⟩ := goodGr_high hg
    obtain ⟨f, hf⟩ : ∃ f : Nat, s.leader = f := ⟨s.leader.toNat, by omega⟩
    obtain ⟨m, hm⟩ : ∃ m : Nat, s.high = m := ⟨s.high.toNat, by omega⟩
    have hfn : f < s.reps.length := by omega
    have ef : s.leader.toNat = f := by omega
    obtain ⟨lg, hlg⟩ : ∃ lg, (rpA s.reps f).log = lg := ⟨_, rfl⟩
    have eL : leadL s = lg := by unfold leadL; rw [ef, hlg]
    rw [eL, hm] at h2
    rw [eL] at h3
    have HM : Hid (crL s = lg.take m) := by show _ = _; rw [crL, if_pos hg, eL, hm]; rfl
    have hLm : Hid ((lg.take m).length = m) := by show _ = _; simp; omega
    have hml : m ≤ lg.length := by omega
    obtain ⟨K, O, ea, r0, k0, e0, -, -, z0, m0⟩ := ((hs.reps.below bB).below hB1) f _ (rpA_get hfn)
    obtain ⟨K', O', r0', k0', ea', cK, hcap⟩ := ((hk.below bB).below hB1) f _ (rpA_get hfn)
    rw [ea] at ea'
    simp only [Option.some.injEq, Addr.mk.injEq, and_true] at ea'
    obtain ⟨rfl, rfl⟩ := ea'
    subst ea
    try simp only [Nat.add_zero] at e0 cK
    rw [e0] at cK
    simp only [Option.some.injEq, Value.slice.injEq, true_and] at cK
    obtain ⟨rfl, rfl⟩ := cK
    rw [hlg] at e0 z0 m0 hcap
    have hmk : (m : Int) ≤ (k0 : Int) := by omega
    have hm0 : (0 : Int) ≤ (m : Int) := by omega
    have hfi : (f : Int) < (s.reps.length : Int) := by omega
    have h0f : (0 : Int) ≤ (f : Int) := by omega
    have p1 := celB hB1 q1
    have p3 := celB hB1 q3
    have p4 := celB hB1 q4
    rw [hf] at p1
    rw [hm] at p3
    clear eL hlg ef h1 h2 h4 h5
    go_wp2_with fail
    have HB0 : Below w1.heap.size w1 w1.drew := (Below.refl _ _).drew
    have hdz : w1.drew.heap.size = w1.heap.size := rfl
    have kk : w1.drew.cell? ⟨w.heap.size, 1, none⟩ = some (.int .i64 (f : Int)) ∧ w1.drew.cell? ⟨w.heap.size, 3, none⟩ = some (.int .i64 (m : Int)) ∧ w1.drew.cell? ⟨w.heap.size, 4, none⟩ = some (.slice (some ⟨K, O, none⟩) s.reps.length c1) ∧ w1.drew.cell? ⟨K, O + f * 3, none⟩ = some (.slice r0 lg.length k0) := ⟨celB HB0 p1, celB HB0 p3, celB HB0 p4, celB HB0 e0⟩
    refine wp_region_noPanic ?_
    refine wp_region_held_drew (S := fun w' => w'.cell? ⟨w.heap.size, 1, none⟩ = some (.int .i64 (f : Int)) ∧ w'.cell? ⟨w.heap.size, 3, none⟩ = some (.int .i64 (m : Int)) ∧ w'.cell? ⟨w.heap.size, 4, none⟩ = some (.slice (some ⟨K, O, none⟩) s.reps.length c1) ∧ w'.cell? ⟨K, O + f * 3, none⟩ = some (.slice r0 lg.length k0)) (by kernel_rfl) kk (fun hH => ?_)
    refine wpAnyH_take (i := 0) (oi := ⟨_, _, _, _, _, _⟩) (v := ?vc0) rfl (by kernel_rfl) (by kernel_rfl) (by kernel_rfl) (fun _ _ _ h => h) (Or.inl ⟨by rfl, ?yc0⟩) (by assumption) ?rc0
    case yc0 => intro w hSw; (try dsimp only at hSw); go_simp; try with_reducible rfl
    try simp only [Act.put, List.setIfInBounds_toArray, List.set_cons_zero, List.set_cons_succ]
    refine wpAnyH_take (i := 1) (oi := ⟨_, _, _, _, _, _⟩) (v := ?vc1) rfl (by kernel_rfl) (by kernel_rfl) (by kernel_rfl) (fun _ _ _ h => h) (Or.inl ⟨by rfl, ?yc1⟩) (by assumption) ?rc1
    case yc1 => intro w hSw; (try dsimp only at hSw); go_simp; try with_reducible rfl
    try simp only [Act.put, List.setIfInBounds_toArray, List.set_cons_zero, List.set_cons_succ]
    refine wpAnyH_take (i := 2) (oi := ⟨_, _, _, _, _, _⟩) (v := ?vc2) rfl (by kernel_rfl) (by kernel_rfl) (by kernel_rfl) (fun _ _ _ h => h) (Or.inl ⟨by rfl, ?yc2⟩) (by assumption) ?rc2
    case yc2 => intro w hSw; (try dsimp only at hSw); go_simp; try with_reducible rfl
    try simp only [Act.put, List.setIfInBounds_toArray, List.set_cons_zero, List.set_cons_succ]
    refine wpAnyH_take (i := 3) (oi := ⟨_, _, _, _, _, _⟩) (v := ?vc3) rfl (by kernel_rfl) (by kernel_rfl) (by kernel_rfl) (fun _ _ _ h => h) (Or.inl ⟨by rfl, ?yc3⟩) (by assumption) ?rc3
    case yc3 => intro w hSw; (try dsimp only at hSw); go_simp; try with_reducible rfl
    try simp only [Act.put, List.setIfInBounds_toArray, List.set_cons_zero, List.set_cons_succ]
    refine wpAnyH_take (i := 4) (oi := ⟨_, _, _, _, _, _⟩) (v := ?vc4) rfl (by kernel_rfl) (by kernel_rfl) (by kernel_rfl) (fun _ _ _ h => h) (Or.inl ⟨by rfl, ?yc4⟩) (by assumption) ?rc4
    case yc4 => intro w hSw; (try dsimp only at hSw); go_simp; try with_reducible rfl
    try simp only [Act.put, List.setIfInBounds_toArray, List.set_cons_zero, List.set_cons_succ]
    refine wpAnyH_take (i := 5) (oi := ⟨_, _, _, _, _, _⟩) (v := ?vc5) rfl (by kernel_rfl) (by kernel_rfl) (by kernel_rfl) (fun _ _ _ h => h) (Or.inl ⟨by rfl, ?yc5⟩) (by assumption) ?rc5
    case yc5 => intro w hSw; (try dsimp only at hSw); go_simp; try with_reducible rfl
    try simp only [Act.put, List.setIfInBounds_toArray, List.set_cons_zero, List.set_cons_succ]
    refine wpAnyH_take (i := 6) (oi := ⟨_, _, _, _, _, _⟩) (v := ?vc6) rfl (by kernel_rfl) (by kernel_rfl) (by kernel_rfl) (fun _ _ _ h => h) (Or.inl ⟨by rfl, ?yc6⟩) (by assumption) ?rc6
    case yc6 => intro w hSw; (try dsimp only at hSw); go_simp; try with_reducible rfl
    try simp only [Act.put, List.setIfInBounds_toArray, List.set_cons_zero, List.set_cons_succ]
    refine wpAnyH_take (i := 7) (oi := ⟨_, _, _, _, _, _⟩) (v := ?vc7) rfl (by kernel_rfl) (by kernel_rfl) (by kernel_rfl) (fun _ _ _ h => h) (Or.inl ⟨by rfl, ?yc7⟩) (by assumption) ?rc7
    case yc7 => intro w hSw; (try dsimp only at hSw); go_simp; try with_reducible rfl
    try simp only [Act.put, List.setIfInBounds_toArray, List.set_cons_zero, List.set_cons_succ]
    refine wpAnyH_take (i := 8) (oi := ⟨_, _, _, _, _, _⟩) (v := ?vc8) rfl (by kernel_rfl) (by kernel_rfl) (by kernel_rfl) (fun _ _ _ h => h) (Or.inl ⟨by rfl, ?yc8⟩) (by assumption) ?rc8
    case yc8 => intro w hSw; (try dsimp only at hSw); go_simp; try with_reducible rfl
    try simp only [Act.put, List.setIfInBounds_toArray, List.set_cons_zero, List.set_cons_succ]
    refine wpAnyH_take (i := 9) (oi := ⟨_, _, _, _, _, _⟩) (v := ?vc9) rfl (by kernel_rfl) (by kernel_rfl) (by kernel_rfl) (fun _ _ _ h => h) (Or.inl ⟨by rfl, ?yc9⟩) (by assumption) ?rc9
    case yc9 => intro w hSw; (try dsimp only at hSw); go_simp; try with_reducible rfl
    try simp only [Act.put, List.setIfInBounds_toArray, List.set_cons_zero, List.set_cons_succ]
    refine wpAnyH_ready (rs := [10]) (by kernel_rfl) (by simp) ?_
    refine AllReadyH.cons (o := ⟨_, _, _, _, _, _⟩) rfl (fun KK hK => ?_) AllReadyH.nil
    go_simp
    refine (ownListR_any _ m _ lg _ (z0.below HB0) hml (by omega)).mono ?_
    rintro r w4 ⟨av, cv, rfl, HO0, HR0, hB4⟩
    have HO : Hid (Rws w4 av (lg.take m)) := HO0
    have HR : Hid (RowRw w4 w1.drew.heap.size av m) := HR0
    have kk4 : w4.cell? ⟨w.heap.size, 1, none⟩ = some (.int .i64 (f : Int)) ∧ w4.cell? ⟨w.heap.size, 3, none⟩ = some (.int .i64 (m : Int)) ∧ w4.cell? ⟨w.heap.size, 4, none⟩ = some (.slice (some ⟨K, O, none⟩) s.reps.length c1) ∧ w4.cell? ⟨K, O + f * 3, none⟩ = some (.slice r0 lg.length k0) := ⟨celB hB4 kk.1, celB hB4 kk.2.1, celB hB4 kk.2.2.1, celB hB4 kk.2.2.2⟩
    have BB := stGr (stGr (stGr bB hB1) HB0) hB4
    clear hB4 HO0 HR0
    go_wp2_with fail
    refine hK.out _ _ kk4 (fun hH10 => ?_)
    clear hK KK hH
    try simp only [Act.put, List.setIfInBounds_toArray, List.set_cons_zero, List.set_cons_succ]
    refine wpAnyH_take (i := 11) (oi := ⟨_, _, _, _, _, _⟩) (v := ?vc11) rfl (by kernel_rfl) (by kernel_rfl) (by kernel_rfl) (fun _ _ _ h => h) (Or.inl ⟨by rfl, ?yc11⟩) (by assumption) ?rc11
    case yc11 => intro w hSw; (try dsimp only at hSw); go_simp; try with_reducible rfl
    try simp only [Act.put, List.setIfInBounds_toArray, List.set_cons_zero, List.set_cons_succ]
    refine wpAnyH_take (i := 12) (oi := ⟨_, _, _, _, _, _⟩) (v := ?vc12) rfl (by kernel_rfl) (by kernel_rfl) (by kernel_rfl) (fun _ _ _ h => h) (Or.inl ⟨by rfl, ?yc12⟩) (by assumption) ?rc12
    case yc12 => intro w hSw; (try dsimp only at hSw); go_simp; try with_reducible rfl
    try simp only [Act.put, List.setIfInBounds_toArray, List.set_cons_zero, List.set_cons_succ]
    refine wpAnyH_done (by kernel_rfl) (NoPanic.normal ?_) _
    have hzw : w.heap.size ≤ w1.drew.heap.size := (stGr (stGr bB hB1) HB0).size
    clear kk kk4 p1 p3 p4 HB0
    go_wp2
    refine bodyPost_ret (v := .tuple #[.slice av m cv, .bool true]) (by simp [results, Try.results12, go_sem]) rfl ⟨av, cv, by rw [HM.out, hLm.out], by rw [HM.out]; exact HO.out, by rw [HM.out, hLm.out]; exact HR.out.mono hzw, BB⟩

end Go.Proofs.Ytkhbgdnhkaeamaa
