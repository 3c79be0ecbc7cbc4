/-
  Groups of replicas, the specification's side: CommittedRows. Made by mkgrc.py.
-/
import Derived.Test.YtkhbgdnhkaeamaaGrS3
import Derived.Test.YtkhbgdnhkaeamaaAppZ
import Derived.Deep.RegionHeld3
namespace Go.Proofs.Ytkhbgdnhkaeamaa
open Go.RowKit

def crL (g : Gr) : List Rw := if goodGr g = true then (leadL g).take g.high.toNat else []
theorem crL_f {g : Gr} (h : goodGr g = false) : crL g = [] := by simp [crL, h]
theorem sameN_self : ∀ l : List Rw, sameN l l = l.length
  | [] => by simp [sameN]
  | x :: xs => by rw [sameN, if_pos rfl, sameN_self xs]; rfl
theorem goodGr_high {g : Gr} (h : goodGr g = true) : 0 ≤ g.high ∧ g.high ≤ ((leadL g).length : Int) ∧ (leadL g).length ≤ 30 ∧ 0 ≤ g.leader ∧ g.leader < (g.reps.length : Int) ∧ g.reps.length ≤ 4 := by
  simp only [goodGr, Bool.and_eq_true, decide_eq_true_eq] at h
  obtain ⟨h1, h2⟩ := h
  obtain ⟨h3, h4⟩ := head_lead h1
  have hr := h2 g.leader.toNat (by omega)
  simp only [headGr, Bool.and_eq_true, decide_eq_true_eq] at h1
  have hn := inB_t.1 h1.1
  have hc := h1.2.2.2.1
  simp only [okRp, Bool.and_eq_true] at hr
  have e : ((g.leader.toNat : Nat) : Int) = g.leader := by omega
  have h5 := hr.2.2.2.2.1
  rw [e, hc] at h5
  have h6 : g.high ≤ (sameN (rpA g.reps g.leader.toNat).log (leadL g) : Int) := by simpa using h5
  rw [show (rpA g.reps g.leader.toNat).log = leadL g from rfl, sameN_self] at h6
  have h7 := hr.1
  rw [show (rpA g.reps g.leader.toNat).log = leadL g from rfl] at h7
  simp only [rlogB, Bool.and_eq_true, decide_eq_true_eq] at h7
  exact ⟨h1.2.2.2.2, h6, h7.2, h3, h4, by omega⟩
theorem crL_len (g : Gr) : (crL g).length ≤ 1000000 := by
  unfold crL
  split
  · rename_i h
    have := (goodGr_high h).2.2.1
    simp only [List.length_take]
    omega
  · simp

def rwC (e : Rw) : List Value := [.int .i64 e.epoch, .int .i64 e.val]
theorem rwC_len (e : Rw) : (rwC e).length = 2 := rfl
theorem rwC_one (e : Rw) : ∀ u ∈ rwC e, u.oneCell' = true := fun u hu => by simp [rwC] at hu; rcases hu with rfl | rfl <;> rfl

/-- The first m rows that are read, as a source. -/
theorem srcZ_rws {w : World} {a : Option Addr} {l : List Rw} {m : Nat} (c : Nat) (h : Rws w a l) (hm : m ≤ l.length) : SrcZ w (.slice a m c) m 2 ((l.take m).flatMap rwC) := by
  have hl : (l.take m).length = m := by simp; omega
  have := srcZ_flat (C := rwC) (s := 2) rwC_len (by decide) rwC_one (w := w) (a := a) c (xs := l.take m) fun i z hi => by
    have hlt : i < m := by have := (List.getElem?_eq_some_iff.1 hi).1; omega
    rw [List.getElem?_take_of_lt hlt] at hi
    obtain ⟨k, o, e, c0, c1⟩ := h i z hi
    refine ⟨k, o, e, fun r u hu => ?_⟩
    match r, hu with
    | 0, hu => simp [rwC] at hu; subst hu; simpa using c0
    | 1, hu => simp [rwC] at hu; subst hu; simpa using c1
    | r + 2, hu => simp [rwC] at hu
  rwa [hl] at this

theorem rws_of_owns {w : World} {B : Nat} {a : Option Addr} {c : Nat} {l : List Rw} (h : w.ownsRow B 72 2 (.slice a l.length c) l.length (l.flatMap rwC)) : Rws w a l := fun i z hi => by
  obtain ⟨k, e, -, hc⟩ := ownZ_flat (C := rwC) (s := 2) rwC_len h i z hi
  exact ⟨k, 0, e, by simpa using hc 0 _ rfl, by simpa using hc 1 _ rfl⟩

set_option maxRecDepth 100000 in
set_option maxHeartbeats 8000000 in
theorem specCommittedRows_any (s : Gr) (a0 a1 : Option Addr) (c0 c1 : Nat) (w : World) (hs : GrR w s a0 a1) (hk : RpsK w a1 s.reps) (hl : GrL s) :
    Calls Try.prog 11 #[grV s a0 c0 a1 c1] w fun e w' => ∃ a' c', e = .returned (.tuple #[.slice a' (crL s).length c', .bool (goodGr s)]) ∧ Rws w' a' (crL s) ∧ Below w.heap.size w w' := by
  obtain ⟨i1, hi1, hy0, hy1, hy2⟩ := infoZ Try.infoRw
  obtain ⟨u0, hu0⟩ : ∃ u0, (w.alloc (.cells #[.int .i64 s.epoch, .int .i64 s.leader, .slice a0 s.steps.length c0, .int .i64 s.high, .slice a1 s.reps.length c1] 30)) = u0 := ⟨_, rfl⟩
  have q0 : u0.cell? ⟨w.heap.size, 0, none⟩ = some (.int .i64 s.epoch) := by rw [← hu0]; simp [go_sem]
  have q2 : u0.cell? ⟨w.heap.size, 2, none⟩ = some (.slice a0 s.steps.length c0) := by rw [← hu0]; simp [go_sem]
  have q1 : u0.cell? ⟨w.heap.size, 1, none⟩ = some (.int .i64 s.leader) := by rw [← hu0]; simp [go_sem]
  have q3 : u0.cell? ⟨w.heap.size, 3, none⟩ = some (.int .i64 s.high) := by rw [← hu0]; simp [go_sem]
  have q4 : u0.cell? ⟨w.heap.size, 4, none⟩ = some (.slice a1 s.reps.length c1) := by rw [← hu0]; simp [go_sem]
  have bB : Below w.heap.size w u0 := by rw [← hu0]; exact alGr _ _
  cases hg : goodGr s with
  | false =>
    have HE : Hid (crL s = []) := crL_f hg
    go_enter Try.func11, Try.ntmps11
    go_wp2_with fail
    refine (specGoodGr_c s _ _ _ _ _ _ (hs.below bB) hl hg).mono ?_
    rintro r w1 ⟨rfl, hB1⟩
    clear hu0
    go_wp2
    refine bodyPost_ret (v := .tuple #[.slice none 0 0, .bool false]) (by simp [results, Try.results11, go_sem]) rfl ⟨none, 0, by rw [HE.out]; rfl, by rw [HE.out]; exact Rws.nil _ _, stGr bB hB1⟩
  | true =>
    go_enter Try.func11, Try.ntmps11
    go_wp2_with fail
    refine (specGoodGr_c s _ _ _ _ _ _ (hs.below bB) hl hg).mono ?_
    rintro r w1 ⟨rfl, hB1⟩
    clear hu0
    obtain ⟨h1, h2, h3, h4, h5, h6⟩ := goodGr_high hg
    obtain ⟨f, hf⟩ : ∃ f : Nat, s.leader = f := ⟨s.leader.toNat, by omega⟩
    obtain ⟨m, hm⟩ : ∃ m : Nat, s.high = m := ⟨s.high.toNat, by omega⟩
    have hfn : f < s.reps.length := by omega
    have ef : s.leader.toNat = f := by omega
    obtain ⟨lg, hlg⟩ : ∃ lg, (rpA s.reps f).log = lg := ⟨_, rfl⟩
    have eL : leadL s = lg := by unfold leadL; rw [ef, hlg]
    rw [eL, hm] at h2
    rw [eL] at h3
    have HM : Hid (crL s = lg.take m) := by show _ = _; rw [crL, if_pos hg, eL, hm]; rfl
    have hLm : Hid ((lg.take m).length = m) := by show _ = _; simp; omega
    have hml : m ≤ lg.length := by omega
    obtain ⟨K, O, ea, r0, k0, e0, -, -, z0, m0⟩ := ((hs.reps.below bB).below hB1) f _ (rpA_get hfn)
    obtain ⟨K', O', r0', k0', ea', cK, hcap⟩ := ((hk.below bB).below hB1) f _ (rpA_get hfn)
    rw [ea] at ea'
    simp only [Option.some.injEq, Addr.mk.injEq, and_true] at ea'
    obtain ⟨rfl, rfl⟩ := ea'
    subst ea
    try simp only [Nat.add_zero] at e0 cK
    rw [e0] at cK
    simp only [Option.some.injEq, Value.slice.injEq, true_and] at cK
    obtain ⟨rfl, rfl⟩ := cK
    rw [hlg] at e0 z0 m0 hcap
    have hmk : (m : Int) ≤ (k0 : Int) := by omega
    have hm0 : (0 : Int) ≤ (m : Int) := by omega
    have hfi : (f : Int) < (s.reps.length : Int) := by omega
    have h0f : (0 : Int) ≤ (f : Int) := by omega
    have p1 := celB hB1 q1
    have p3 := celB hB1 q3
    have p4 := celB hB1 q4
    rw [hf] at p1
    rw [hm] at p3
    clear eL hlg ef h1 h2 h4 h5
    go_wp2_with fail
    have HB0 : Below w1.heap.size w1 w1.drew := (Below.refl _ _).drew
    have hdz : w1.drew.heap.size = w1.heap.size := rfl
    have kk : w1.drew.cell? ⟨w.heap.size, 1, none⟩ = some (.int .i64 (f : Int)) ∧ w1.drew.cell? ⟨w.heap.size, 3, none⟩ = some (.int .i64 (m : Int)) ∧ w1.drew.cell? ⟨w.heap.size, 4, none⟩ = some (.slice (some ⟨K, O, none⟩) s.reps.length c1) ∧ w1.drew.cell? ⟨K, O + f * 3, none⟩ = some (.slice r0 lg.length k0) := ⟨celB HB0 p1, celB HB0 p3, celB HB0 p4, celB HB0 e0⟩
    refine wp_region_noPanic ?_
    refine wp_region_held_drew (S := fun w' => w'.cell? ⟨w.heap.size, 1, none⟩ = some (.int .i64 (f : Int)) ∧ w'.cell? ⟨w.heap.size, 3, none⟩ = some (.int .i64 (m : Int)) ∧ w'.cell? ⟨w.heap.size, 4, none⟩ = some (.slice (some ⟨K, O, none⟩) s.reps.length c1) ∧ w'.cell? ⟨K, O + f * 3, none⟩ = some (.slice r0 lg.length k0)) (by kernel_rfl) kk (fun hHn => ?_)
    refine wpAnyH_take (i := 1) (oi := ⟨_, _, _, _, _, _⟩) (v := ?vg1) rfl (by kernel_rfl) (by kernel_rfl) (by kernel_rfl) (fun _ _ _ h => h) (Or.inl ⟨by rfl, ?yg1⟩) (by assumption) ?rg1
    case yg1 => intro w hSw; (try dsimp only at hSw); go_simp; try with_reducible rfl
    try simp only [Act.put, List.setIfInBounds_toArray, List.set_cons_zero, List.set_cons_succ]
    refine wpAnyH_take (i := 2) (oi := ⟨_, _, _, _, _, _⟩) (v := ?vg2) rfl (by kernel_rfl) (by kernel_rfl) (by kernel_rfl) (fun _ _ _ h => h) (Or.inl ⟨by rfl, ?yg2⟩) (by assumption) ?rg2
    case yg2 => intro w hSw; (try dsimp only at hSw); go_simp; try with_reducible rfl
    try simp only [Act.put, List.setIfInBounds_toArray, List.set_cons_zero, List.set_cons_succ]
    refine wpAnyH_take (i := 3) (oi := ⟨_, _, _, _, _, _⟩) (v := ?vg3) rfl (by kernel_rfl) (by kernel_rfl) (by kernel_rfl) (fun _ _ _ h => h) (Or.inl ⟨by rfl, ?yg3⟩) (by assumption) ?rg3
    case yg3 => intro w hSw; (try dsimp only at hSw); go_simp; try with_reducible rfl
    try simp only [Act.put, List.setIfInBounds_toArray, List.set_cons_zero, List.set_cons_succ]
    refine wpAnyH_take (i := 4) (oi := ⟨_, _, _, _, _, _⟩) (v := ?vg4) rfl (by kernel_rfl) (by kernel_rfl) (by kernel_rfl) (fun _ _ _ h => h) (Or.inl ⟨by rfl, ?yg4⟩) (by assumption) ?rg4
    case yg4 => intro w hSw; (try dsimp only at hSw); go_simp; try with_reducible rfl
    try simp only [Act.put, List.setIfInBounds_toArray, List.set_cons_zero, List.set_cons_succ]
    refine wpAnyH_take (i := 5) (oi := ⟨_, _, _, _, _, _⟩) (v := ?vg5) rfl (by kernel_rfl) (by kernel_rfl) (by kernel_rfl) (fun _ _ _ h => h) (Or.inl ⟨by rfl, ?yg5⟩) (by assumption) ?rg5
    case yg5 => intro w hSw; (try dsimp only at hSw); go_simp; try with_reducible rfl
    try simp only [Act.put, List.setIfInBounds_toArray, List.set_cons_zero, List.set_cons_succ]
    refine wpAnyH_take (i := 6) (oi := ⟨_, _, _, _, _, _⟩) (v := ?vg6) rfl (by kernel_rfl) (by kernel_rfl) (by kernel_rfl) (fun _ _ _ h => h) (Or.inl ⟨by rfl, ?yg6⟩) (by assumption) ?rg6
    case yg6 => intro w hSw; (try dsimp only at hSw); go_simp; try with_reducible rfl
    try simp only [Act.put, List.setIfInBounds_toArray, List.set_cons_zero, List.set_cons_succ]
    refine wpAnyH_take (i := 7) (oi := ⟨_, _, _, _, _, _⟩) (v := ?vg7) rfl (by kernel_rfl) (by kernel_rfl) (by kernel_rfl) (fun _ _ _ h => h) (Or.inl ⟨by rfl, ?yg7⟩) (by assumption) ?rg7
    case yg7 => intro w hSw; (try dsimp only at hSw); go_simp; try with_reducible rfl
    try simp only [Act.put, List.setIfInBounds_toArray, List.set_cons_zero, List.set_cons_succ]
    refine wpAnyH_take (i := 8) (oi := ⟨_, _, _, _, _, _⟩) (v := ?vg8) rfl (by kernel_rfl) (by kernel_rfl) (by kernel_rfl) (fun _ _ _ h => h) (Or.inl ⟨by rfl, ?yg8⟩) (by assumption) ?rg8
    case yg8 => intro w hSw; (try dsimp only at hSw); go_simp; try with_reducible rfl
    try simp only [Act.put, List.setIfInBounds_toArray, List.set_cons_zero, List.set_cons_succ]
    refine wpAnyH_take (i := 9) (oi := ⟨_, _, _, _, _, _⟩) (v := ?vg9) rfl (by kernel_rfl) (by kernel_rfl) (by kernel_rfl) (fun _ _ _ h => h) (Or.inl ⟨by rfl, ?yg9⟩) (by assumption) ?rg9
    case yg9 => intro w hSw; (try dsimp only at hSw); go_simp; try with_reducible rfl
    try simp only [Act.put, List.setIfInBounds_toArray, List.set_cons_zero, List.set_cons_succ]
    refine wpAnyH_take (i := 10) (oi := ⟨_, _, _, _, _, _⟩) (v := ?vg10) rfl (by kernel_rfl) (by kernel_rfl) (by kernel_rfl) (fun _ _ _ h => h) (Or.inl ⟨by rfl, ?yg10⟩) (by assumption) ?rg10
    case yg10 => intro w hSw; (try dsimp only at hSw); go_simp; try with_reducible rfl
    try simp only [Act.put, List.setIfInBounds_toArray, List.set_cons_zero, List.set_cons_succ]
    refine wpAnyH_ready (rs := [0]) (by kernel_rfl) (by simp) ?_
    refine AllReadyH.cons (o := ⟨_, _, _, _, _, _⟩) rfl (fun KK hK => ?_) AllReadyH.nil
    obtain ⟨x1, hx1⟩ : ∃ u, w1.drew.alloc (.cells #[] 72) = u := ⟨_, rfl⟩
    have HE1 : x1.heap[w1.drew.heap.size]? = some (.cells #[] 72 (0, 0)) := by rw [← hx1]; exact heap_alloc_new _ _
    have B1 : Below w1.drew.heap.size w1.drew x1 := by rw [← hx1]; exact alGr _ _
    have kk1 : x1.cell? ⟨w.heap.size, 1, none⟩ = some (.int .i64 (f : Int)) ∧ x1.cell? ⟨w.heap.size, 3, none⟩ = some (.int .i64 (m : Int)) ∧ x1.cell? ⟨w.heap.size, 4, none⟩ = some (.slice (some ⟨K, O, none⟩) s.reps.length c1) ∧ x1.cell? ⟨K, O + f * 3, none⟩ = some (.slice r0 lg.length k0) := ⟨celB B1 kk.1, celB B1 kk.2.1, celB B1 kk.2.2.1, celB B1 kk.2.2.2⟩
    have lS : w1.drew.heap.size < x1.heap.size := by rw [← hx1]; simp
    go_simp
    refine hK.out _ _ kk1 (fun hHm => ?_)
    clear hK KK hHn hx1
    try simp only [Act.put, List.setIfInBounds_toArray, List.set_cons_zero, List.set_cons_succ]
    refine wpAnyH_ready (rs := [11]) (by kernel_rfl) (by simp) ?_
    refine AllReadyH.cons (o := ⟨_, _, _, _, _, _⟩) rfl (fun KK hK => ?_) AllReadyH.nil
    refine step_appZ _ (by rfl) _ _ 34 (by rfl) w1.drew.heap.size 72 i1 _ 2 16 Try.underlying34 hi1 hy0 hy1 hy2 rfl (by decide) (.slice (some ⟨w1.drew.heap.size, 0, none⟩) 0 0) 0 [] (by rfl) (owns_emptyZ HE1 (Nat.le_refl _)) (.slice r0 m k0) m ((lg.take m).flatMap rwC) (by rfl) (srcZ_rws _ ((z0.below HB0).below B1) hml) (by unfold maxLen; omega) (by omega) (by omega) ?_
    intro v w4 hown hgrow hat
    try simp only [Nat.zero_add, List.nil_append] at hown
    obtain ⟨av, cv, rfl⟩ := ownsZ_form hown
    have BB : Below w.heap.size w w4 := (stGr (stGr (stGr bB hB1) HB0) B1).grown hgrow (stGr (stGr (stGr bB hB1) HB0) B1).size (fun b hb => by simp [Value.ownBlock] at hb; have := (stGr (stGr bB hB1) HB0).size; omega)
    have kk4 : w4.cell? ⟨w.heap.size, 1, none⟩ = some (.int .i64 (f : Int)) ∧ w4.cell? ⟨w.heap.size, 3, none⟩ = some (.int .i64 (m : Int)) ∧ w4.cell? ⟨w.heap.size, 4, none⟩ = some (.slice (some ⟨K, O, none⟩) s.reps.length c1) ∧ w4.cell? ⟨K, O + f * 3, none⟩ = some (.slice r0 lg.length k0) := by
        have hbl : ∀ (b o : Nat) x, x1.cell? ⟨b, o, none⟩ = some x → b ≠ w1.drew.heap.size → w4.cell? ⟨b, o, none⟩ = some x := fun b o x hc hne => (World.cell?_of_block (a := ⟨b, o, none⟩) (hgrow.block b (lt_of_cell hc) (fun e => hne (by simpa [Value.ownBlock] using e)))).trans hc
        have hzw := (stGr (stGr bB hB1) HB0).size
        have hzu := lt_of_cell (celB (stGr hB1 HB0) q1)
        have hzk := lt_of_cell (celB HB0 e0)
        exact ⟨hbl _ _ _ kk1.1 (by have := lt_of_cell kk.1; simp at this; omega), hbl _ _ _ kk1.2.1 (by have := lt_of_cell kk.1; simp at this; omega), hbl _ _ _ kk1.2.2.1 (by have := lt_of_cell kk.1; simp at this; omega), hbl _ _ _ kk1.2.2.2 (by have := lt_of_cell kk.2.2.2; simp at this; omega)⟩
    have HO : Hid (Rws w4 av (lg.take m)) := by
        refine rws_of_owns (B := w1.drew.heap.size) (c := cv) ?_
        rw [hLm.out]
        exact hown
    refine hK.out _ _ kk4 (fun hHp => ?_)
    clear hK KK hHm hgrow hat hown
    try simp only [Act.put, List.setIfInBounds_toArray, List.set_cons_zero, List.set_cons_succ]
    refine wpAnyH_take (i := 12) (oi := ⟨_, _, _, _, _, _⟩) (v := ?vg12) rfl (by kernel_rfl) (by kernel_rfl) (by kernel_rfl) (fun _ _ _ h => h) (Or.inl ⟨by rfl, ?yg12⟩) (by assumption) ?rg12
    case yg12 => intro w hSw; (try dsimp only at hSw); go_simp; try with_reducible rfl
    try simp only [Act.put, List.setIfInBounds_toArray, List.set_cons_zero, List.set_cons_succ]
    refine wpAnyH_take (i := 13) (oi := ⟨_, _, _, _, _, _⟩) (v := ?vg13) rfl (by kernel_rfl) (by kernel_rfl) (by kernel_rfl) (fun _ _ _ h => h) (Or.inl ⟨by rfl, ?yg13⟩) (by assumption) ?rg13
    case yg13 => intro w hSw; (try dsimp only at hSw); go_simp; try with_reducible rfl
    try simp only [Act.put, List.setIfInBounds_toArray, List.set_cons_zero, List.set_cons_succ]
    refine wpAnyH_done (by kernel_rfl) (NoPanic.normal ?_) _
    go_wp2
    refine bodyPost_ret (v := .tuple #[.slice av m cv, .bool true]) (by simp [results, Try.results11, go_sem]) rfl ⟨av, cv, by rw [HM.out, hLm.out], by rw [HM.out]; exact HO.out, BB⟩

end Go.Proofs.Ytkhbgdnhkaeamaa
