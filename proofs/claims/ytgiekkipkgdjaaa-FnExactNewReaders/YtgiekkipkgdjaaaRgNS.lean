/-
  New readers, the specification's side: spec.NewReaders. Made by mkrgns.py.
-/
import Derived.Test.YtgiekkipkgdjaaaRgN
import Derived.Test.YtgiekkipkgdjaaaQSpec
import Derived.Deep.RegionHeld3
import Derived.WalkMore
namespace Go.Proofs.Ytgiekkipkgdjaaa
open Go.RowKit

theorem l1In_q (n lo hi : Int) (b : Bool) (w : World) (h : inB n lo hi = b) : Calls Try.prog 41 #[.int .i64 n, .int .i64 lo, .int .i64 hi] w fun e w' => e = .returned (.bool b) ∧ w' = w := by
  rw [← h]; exact l1In_any n lo hi w
structure BoxR (A : Prop) : Prop where
  out : A
theorem throughR {A G : Prop} (h : BoxR A → G) (k : A) : G := h ⟨k⟩
theorem ltH {x : World} {b : Nat} {o : Obj} (h : x.heap[b]? = some o) : b < x.heap.size := (Array.getElem?_eq_some_iff.1 h).1
theorem cellH {x : World} {b i : Nat} {cs : Array Value} {t : TypeId} {v : Value} (h : x.heap[b]? = some (.cells cs t (0, 0))) (hv : cs[i]? = some v) : x.cell? ⟨b, i, none⟩ = some v := by
  have hb := ltH h
  simp [World.cell?, h, hv]
theorem frzH {x : World} {b o : Nat} {cs : Array Value} {t : TypeId} (h : x.heap[b]? = some (.cells cs t (0, 0))) : x.frozen? ⟨b, o, none⟩ = false := by
  simp [World.frozen?, h]

theorem ints_rep {w : World} {b n : Nat} (h : w.rowIs b 3 n (fun _ => .int .i64 0)) : Ints w (some ⟨b, 0, none⟩) (List.replicate n 0) := fun i z hi => by
  rw [List.getElem?_replicate] at hi
  split at hi
  · rename_i hlt
    obtain rfl := Option.some.inj hi
    exact ⟨b, 0, rfl, by rw [Nat.zero_add]; exact h.cell hlt⟩
  · cases hi
theorem rowI_rep {w : World} {b n B : Nat} (h : w.rowIs b 3 n (fun _ => .int .i64 0)) (hB : B ≤ b) : RowI w B (some ⟨b, 0, none⟩) (List.replicate n (0 : Int)).length :=
  .inr ⟨b, n, _, rfl, hB, by simp, h⟩
theorem row_heap {w : World} {b n : Nat} {t : TypeId} {f : Nat → Value} {cs : Array Value} {t' : TypeId} (h : w.rowIs b t n f) (h' : w.heap[b]? = some (.cells cs t' (0, 0))) : t = t' := by
  obtain ⟨c, hc, -⟩ := h
  rw [hc] at h'
  simp only [Option.some.injEq, Obj.cells.injEq] at h'
  exact h'.2.1
theorem gm_ne {w : World} {gm gS n : Nat} {f : Nat → Value} {cs : Array Value} (h : w.rowIs gm 3 n f) (h' : w.heap[gS]? = some (.cells cs 25 (0, 0))) (e : gm = gS) : False := by
  subst e; exact absurd (row_heap h h') (by decide)
theorem row_ne {w : World} {B gS n b : Nat} {a : Option Addr} {cs : Array Value} (h : RowI w B a n) (h' : w.heap[gS]? = some (.cells cs 25 (0, 0))) (hb : InI a n b) (e : b = gS) : False := by
  subst e
  obtain ⟨t, m, f, hR, ht⟩ := h.typ (ts := [3]) (by simp) b hb
  simp at ht
  rw [ht] at hR
  exact absurd (row_heap hR h') (by decide)

set_option maxRecDepth 100000 in
set_option maxHeartbeats 16000000 in
theorem specNewRg_any (z : Int) (a : Option Addr) (c : Nat) (l : List Int) (w : World) (hs : Ints w a l) (hl : l.length ≤ maxLen) :
    Calls Try.prog 10 #[.int .i64 z, .slice a l.length c] w fun e w' => ∃ a0 a1 a2 c0 c1 c2, e = .returned (.tuple #[rgV (newRg z l) a0 c0 a1 c1 a2 c2, .bool (nrOk z l)]) ∧ RgR w' (newRg z l) a0 a1 a2 ∧ Below w.heap.size w w' := by
  obtain ⟨u1, hu1⟩ : ∃ u, (w.alloc (.cells #[.int .i64 0, .slice none 0 0, .slice none 0 0, .slice none 0 0] 25)) = u := ⟨_, rfl⟩
  have bB : Below w.heap.size w u1 := by rw [← hu1]; exact alRg _ _
  have q0 : u1.cell? ⟨w.heap.size, 0, none⟩ = some (.int .i64 0) := by rw [← hu1]; simp [go_sem]
  have q1 : u1.cell? ⟨w.heap.size, 1, none⟩ = some (.slice none 0 0) := by rw [← hu1]; simp [go_sem]
  have q2 : u1.cell? ⟨w.heap.size, 2, none⟩ = some (.slice none 0 0) := by rw [← hu1]; simp [go_sem]
  have q3 : u1.cell? ⟨w.heap.size, 3, none⟩ = some (.slice none 0 0) := by rw [← hu1]; simp [go_sem]
  have qf : ∀ o, u1.frozen? ⟨w.heap.size, o, none⟩ = false := fun o => by rw [← hu1]; simp [go_sem]
  have hS1 : u1.heap.size ≤ w.heap.size + 1 := by rw [← hu1]; simp
  have hS2 : w.heap.size + 1 ≤ u1.heap.size := by rw [← hu1]; simp
  cases g1 : inB z 1 5 with
  | false =>
    have hbad : nrOk z l = false := by unfold nrOk; rw [g1]; rfl
    have HE : Hid (newRg z l = ⟨0, [], [], []⟩ ∧ nrOk z l = false) := ⟨newRg_bad hbad, hbad⟩
    have HZ : Hid (RgS ⟨0, [], [], []⟩) := by have := (newRg_small z l).1; rw [HE.out.1] at this; exact this
    rw [HE.out.2]
    clear hbad
    go_enter Try.func10, Try.ntmps10
    go_wp2_with (go_at_call 41; refine (l1In_q _ _ _ _ _ (by first | exact g1 | exact g2)).mono ?_; rintro e w' ⟨rfl, hw⟩; rw [hw]; clear hw w')
    try rw [hu1]
    clear hu1
    refine bodyPost_ret (v := .tuple #[.agg #[.int .i64 0, .slice none 0 0, .slice none 0 0, .slice none 0 0], .bool false]) (by simp [results, Try.results10, go_sem, q0, q1, q2, q3]) rfl ⟨none, none, none, 0, 0, 0, by first | (rw [HE.out.1, HE.out.2]; rfl) | (rw [HE.out.1]; rfl), ?_, ?_⟩
    · rw [HE.out.1]; exact (newRg_zero _ 0).reads HZ.out
    · exact (((bB.setCell (Nat.le_refl _) _).setCell (Nat.le_refl _) _).setCell (Nat.le_refl _) _).setCell (Nat.le_refl _) _
  | true =>
    cases g2 : inB (l.length : Int) 1 6 with
    | false =>
      have hbad : nrOk z l = false := by unfold nrOk; rw [g1, g2]; rfl
      have HE : Hid (newRg z l = ⟨0, [], [], []⟩ ∧ nrOk z l = false) := ⟨newRg_bad hbad, hbad⟩
      have HZ : Hid (RgS ⟨0, [], [], []⟩) := by have := (newRg_small z l).1; rw [HE.out.1] at this; exact this
      rw [HE.out.2]
      clear hbad
      go_enter Try.func10, Try.ntmps10
      go_wp2_with (go_at_call 41; refine (l1In_q _ _ _ _ _ (by first | exact g1 | exact g2)).mono ?_; rintro e w' ⟨rfl, hw⟩; rw [hw]; clear hw w')
      try rw [hu1]
      clear hu1
      refine bodyPost_ret (v := .tuple #[.agg #[.int .i64 0, .slice none 0 0, .slice none 0 0, .slice none 0 0], .bool false]) (by simp [results, Try.results10, go_sem, q0, q1, q2, q3]) rfl ⟨none, none, none, 0, 0, 0, by first | (rw [HE.out.1, HE.out.2]; rfl) | (rw [HE.out.1]; rfl), ?_, ?_⟩
      · rw [HE.out.1]; exact (newRg_zero _ 0).reads HZ.out
      · exact (((bB.setCell (Nat.le_refl _) _).setCell (Nat.le_refl _) _).setCell (Nat.le_refl _) _).setCell (Nat.le_refl _) _
    | true =>
      have hml := hl
      unfold maxLen at hml
      obtain ⟨i0, hi, hz0, hz1, hz2⟩ := infoZ Try.infoInt
      have h6 : l.length ≤ 6 := by have := inB_t.1 g2; omega
      have hmk := run_make_row' (P := Try.prog) 22 3 (.int .i64 0) 8 Try.underlying22 Try.infoInt rfl .i64 .i64 l.length (by omega) (by omega)
      go_enter Try.func10, Try.ntmps10
      go_wp2_with (go_at_call 41; refine (l1In_q _ _ _ _ _ (by first | exact g1 | exact g2)).mono ?_; rintro e w' ⟨rfl, hw⟩; rw [hw]; clear hw w')
      try rw [hu1]
      clear hu1
      go_loop [22] (fun i => ∃ k : Nat, k ≤ l.length ∧ i = .int .i64 k ∧ Hid (allTo (fun n => inB n 0 100) l k)) (fun i => l.length - (intOf i).toNat)
      case atStart => exact ⟨0, Nat.zero_le _, rfl, allTo_zero _ _⟩
      case round =>
        obtain ⟨k, hk, rfl, HO⟩ := hrel
        by_cases hlt : k < l.length
        · obtain ⟨b, off, e5, c5⟩ := (hs.below bB) k _ (zA_get hlt)
          have HK : Hid (l[k]? = some (zA l k)) := zA_get hlt
          have hki : (k : Int) < (l.length : Int) := by omega
          subst e5
          generalize zA l k = y at *
          cases g3 : inB y 0 100 with
          | false =>
            have hbad : nrOk z l = false := by unfold nrOk; rw [g1, g2, all_bad HK.out g3]; rfl
            have HE : Hid (newRg z l = ⟨0, [], [], []⟩ ∧ nrOk z l = false) := ⟨newRg_bad hbad, hbad⟩
            have HZ : Hid (RgS ⟨0, [], [], []⟩) := by have := (newRg_small z l).1; rw [HE.out.1] at this; exact this
            clear hbad g1 g2 hmk
            go_wp2_with (go_at_call 41; refine (l1In_q _ _ _ _ _ g3).mono ?_; rintro e w' ⟨rfl, hw⟩; rw [hw]; clear hw w')
            refine bodyPost_ret (v := .tuple #[.agg #[.int .i64 0, .slice none 0 0, .slice none 0 0, .slice none 0 0], .bool false]) (by simp [results, Try.results10, go_sem, q0, q1, q2, q3]) rfl ⟨none, none, none, 0, 0, 0, by first | (rw [HE.out.1, HE.out.2]; rfl) | (rw [HE.out.1]; rfl), ?_, ?_⟩
            · rw [HE.out.1]; exact (newRg_zero _ 0).reads HZ.out
            · exact (((bB.setCell (Nat.le_refl _) _).setCell (Nat.le_refl _) _).setCell (Nat.le_refl _) _).setCell (Nat.le_refl _) _
          | true =>
            have HN : Hid (allTo (fun n => inB n 0 100) l (k + 1)) := allTo_succ HO.out HK.out g3
            clear g1 g2 hmk
            go_wp2_with (go_at_call 41; refine (l1In_q _ _ _ _ _ g3).mono ?_; rintro e w' ⟨rfl, hw⟩; rw [hw]; clear hw w')
            go_round
            case rel => exact ⟨k + 1, by omega, by go_num, HN.out⟩
            case measure => simp [intOf]; omega
        · obtain rfl : k = l.length := by omega
          have hgood : nrOk z l = true := by unfold nrOk; rw [g1, g2, all_done HO.out]; rfl
          have HG : Hid (nrOk z l = true) := hgood
          clear hgood
          go_wp2_with fail
          refine' throughR (A := _) (fun key => ?main) ?hkey
          case main =>
            obtain ⟨x0, hx0⟩ : ∃ x, u1.drew = x := ⟨_, rfl⟩
            have HB0 : Below u1.heap.size u1 x0 := by rw [← hx0]; exact (Below.refl _ _).drew
            refine wp_region_noPanic ?_
            refine wp_region_held_drew (S := fun _ => True) (by kernel_rfl) trivial (fun hHn => ?_)
            clear hHn
            rw [hx0]
            clear hx0
            refine wpAnyH_take (i := 0) (oi := ⟨_, _, _, _, _, _⟩) (v := ?vt1x0) rfl (by kernel_rfl) (by kernel_rfl) (by kernel_rfl) (fun _ _ _ h => h) (Or.inl ⟨by rfl, ?yt1x0⟩) trivial ?rt1x0
            case yt1x0 => intro w hSw; clear hSw; go_simp; try with_reducible rfl
            try simp only [Act.put, List.setIfInBounds_toArray, List.set_cons_zero, List.set_cons_succ]
            refine wpAnyH_take (i := 1) (oi := ⟨_, _, _, _, _, _⟩) (v := ?vt2x1) rfl (by kernel_rfl) (by kernel_rfl) (by kernel_rfl) (fun _ _ _ h => h) (Or.inl ⟨by rfl, ?yt2x1⟩) trivial ?rt2x1
            case yt2x1 => intro w hSw; clear hSw; go_simp; try with_reducible rfl
            try simp only [Act.put, List.setIfInBounds_toArray, List.set_cons_zero, List.set_cons_succ]
            refine wpAnyH_take (i := 4) (oi := ⟨_, _, _, _, _, _⟩) (v := ?vt3x4) rfl (by kernel_rfl) (by kernel_rfl) (by kernel_rfl) (fun _ _ _ h => h) (Or.inl ⟨by rfl, ?yt3x4⟩) trivial ?rt3x4
            case yt3x4 => intro w hSw; clear hSw; go_simp; try with_reducible rfl
            try simp only [Act.put, List.setIfInBounds_toArray, List.set_cons_zero, List.set_cons_succ]
            refine wpAnyH_ready (rs := [2, 3, 7]) (by kernel_rfl) (by simp) ?_
            refine AllReadyH.cons (o := ⟨_, _, _, _, _, _⟩) rfl (fun KK hK => ?b4n0) (AllReadyH.cons (o := ⟨_, _, _, _, _, _⟩) rfl (fun KK hK => ?b4n1) (AllReadyH.cons (o := ⟨_, _, _, _, _, _⟩) rfl (fun KK hK => ?b4n2) AllReadyH.nil))
            case b4n0 =>
              obtain ⟨x1, hx1⟩ : ∃ u, x0.alloc (.cells (madeCells #[Value.int .i64 0] l.length) 3) = u := ⟨_, rfl⟩
              have BE : Below x0.heap.size x0 x1 := by rw [← hx1]; exact alRg _ _
              have lM : u1.heap.size ≤ x0.heap.size := HB0.size
              have mM : x0.heap.size < x1.heap.size := by rw [← hx1]; simp
              have HR : x1.rowIs x0.heap.size 3 l.length (fun _ => .int .i64 0) := by rw [← hx1]; exact World.rowIs_made _ _ _ _
              have HB1 : Below u1.heap.size u1 x1 := stRg HB0 BE
              go_simp
              refine hK.out _ _ trivial (fun hHn => ?_)
              clear hK KK hHn
              try simp only [Act.put, List.setIfInBounds_toArray, List.set_cons_zero, List.set_cons_succ]
              clear hx1 BE
              refine wpAnyH_ready (rs := [3, 7]) (by kernel_rfl) (by simp) ?_
              refine AllReadyH.cons (o := ⟨_, _, _, _, _, _⟩) rfl (fun KK hK => ?b5n0) (AllReadyH.cons (o := ⟨_, _, _, _, _, _⟩) rfl (fun KK hK => ?b5n1) AllReadyH.nil)
              case b5n0 =>
                obtain ⟨x2, hx2⟩ : ∃ u, x1.alloc (.cells #[] 3) = u := ⟨_, rfl⟩
                have BE : Below x1.heap.size x1 x2 := by rw [← hx2]; exact alRg _ _
                have lE : u1.heap.size ≤ x1.heap.size := HB1.size
                have mE : x1.heap.size < x2.heap.size := by rw [← hx2]; simp
                replace HR := HR.of_block (BE.block _ HR.lt)
                have HE : x2.heap[x1.heap.size]? = some (.cells #[] 3 (0, 0)) := by rw [← hx2]; exact heap_alloc_new _ _
                have HB2 : Below u1.heap.size u1 x2 := stRg HB1 BE
                go_simp
                refine hK.out _ _ trivial (fun hHn => ?_)
                clear hK KK hHn
                try simp only [Act.put, List.setIfInBounds_toArray, List.set_cons_zero, List.set_cons_succ]
                clear hx2 BE
                refine wpAnyH_ready (rs := [5, 7]) (by kernel_rfl) (by simp) ?_
                refine AllReadyH.cons (o := ⟨_, _, _, _, _, _⟩) rfl (fun KK hK => ?b6n0) (AllReadyH.cons (o := ⟨_, _, _, _, _, _⟩) rfl (fun KK hK => ?b6n1) AllReadyH.nil)
                case b6n0 =>
                  have lA : x2.heap.size ≤ x2.heap.size := Nat.le_refl _
                  refine step_appZ _ (by rfl) _ _ 22 (by rfl) u1.heap.size 3 i0 _ 1 8 Try.underlying22 hi hz0 hz1 hz2 rfl (by decide) (.slice (some ⟨x1.heap.size, 0, none⟩) 0 0) 0 [] (by rfl) (owns_emptyZ HE (by omega)) (.slice a l.length c) l.length (zCells l) (by rfl) (srcZ_ints _ ((hs.below bB).below HB2)) (by unfold maxLen; omega) (by omega) (by have := HB2.size; omega) ?_
                  intro v1 x3 HV hgrow1 hat1
                  simp only [Nat.zero_add, List.nil_append] at HV
                  obtain ⟨a1, c1, rfl⟩ := ownsZ_form HV
                  have HB3 : Below u1.heap.size u1 x3 := HB2.grown hgrow1 (by have := HB2.size; omega) (fun q hq => by simp [Value.ownBlock] at hq; omega)
                  replace HR := HR.of_block (hgrow1.block _ HR.lt (fun e => by simp [Value.ownBlock] at e; omega))
                  have hne : ∀ b, InI a1 l.length b → b ≠ x0.heap.size := fun b hb e => by have h9 := (ints_of_owns HV).2.lt hb; rcases hat1 with h8 | h8 <;> (obtain ⟨-, o, s, e3⟩ := hb; subst e3; simp [Value.ownBlock] at h8; omega)
                  refine hK.out _ _ trivial (fun hHn => ?_)
                  clear hK KK hHn
                  try simp only [Act.put, List.setIfInBounds_toArray, List.set_cons_zero, List.set_cons_succ]
                  clear hgrow1 hat1 HE lA
                  refine wpAnyH_take (i := 6) (oi := ⟨_, _, _, _, _, _⟩) (v := ?vt7x6) rfl (by kernel_rfl) (by kernel_rfl) (by kernel_rfl) (fun _ _ _ h => h) (Or.inl ⟨by rfl, ?yt7x6⟩) trivial ?rt7x6
                  case yt7x6 => intro w hSw; clear hSw; go_simp; try with_reducible rfl
                  try simp only [Act.put, List.setIfInBounds_toArray, List.set_cons_zero, List.set_cons_succ]
                  refine wpAnyH_ready (rs := [7]) (by kernel_rfl) (by simp) ?_
                  refine AllReadyH.cons (o := ⟨_, _, _, _, _, _⟩) rfl (fun KK hK => ?b8n0) AllReadyH.nil
                  case b8n0 =>
                    obtain ⟨x4, hx4⟩ : ∃ u, x3.alloc (.cells #[.int .i64 0, .slice none 0 0, .slice none 0 0, .slice none 0 0] 25) = u := ⟨_, rfl⟩
                    have BE : Below x3.heap.size x3 x4 := by rw [← hx4]; exact alRg _ _
                    have lS : u1.heap.size ≤ x3.heap.size := HB3.size
                    have mS : x3.heap.size < x4.heap.size := by rw [← hx4]; simp
                    replace HR := HR.of_block (BE.block _ HR.lt)
                    replace HV := ownsZ_below HV BE
                    have HD : x4.heap[x3.heap.size]? = some (.cells #[.int .i64 0, .slice none 0 0, .slice none 0 0, .slice none 0 0] 25 (0, 0)) := by rw [← hx4]; exact heap_alloc_new _ _
                    have HB4 : Below u1.heap.size u1 x4 := stRg HB3 BE
                    go_simp
                    refine hK.out _ _ trivial (fun hHn => ?_)
                    clear hK KK hHn
                    try simp only [Act.put, List.setIfInBounds_toArray, List.set_cons_zero, List.set_cons_succ]
                    clear hx4 BE
                    refine wpAnyH_ready (rs := [8]) (by kernel_rfl) (by simp) ?_
                    refine AllReadyH.cons (o := ⟨_, _, _, _, _, _⟩) rfl (fun KK hK => ?b9n0) AllReadyH.nil
                    case b9n0 =>
                      have r0 := cellH (i := 0) HD rfl
                      have r1 := cellH (i := 1) HD rfl
                      have r2 := cellH (i := 2) HD rfl
                      have r3 := cellH (i := 3) HD rfl
                      have rf : ∀ o, x4.frozen? ⟨x3.heap.size, o, none⟩ = false := fun o => frzH HD
                      go_simp
                      refine hK.out _ _ trivial (fun hHn => ?_)
                      clear hK KK hHn
                      try simp only [Act.put, List.setIfInBounds_toArray, List.set_cons_zero, List.set_cons_succ]
                      refine wpAnyH_done (by kernel_rfl) (NoPanic.normal ?_) _
                      have K1 := HR.lt
                      have K2 := ltH HD
                      clear lE mE mM mS r0 r1 r2 r3 rf
                      generalize x0.heap.size = gm at HR hne lM K1 ⊢
                      generalize x3.heap.size = gS at HD lS K2 ⊢
                      generalize x1.heap.size = gE
                      revert K2; revert K1; revert lS; revert lM; revert HB4; revert hne; revert HV; revert HD; revert HR; revert c1; revert a1; revert gE; revert gS; revert gm; revert x4
                      exact key.out
                case b6n1 =>
                  obtain ⟨x3, hx3⟩ : ∃ u, x2.alloc (.cells #[.int .i64 0, .slice none 0 0, .slice none 0 0, .slice none 0 0] 25) = u := ⟨_, rfl⟩
                  have BE : Below x2.heap.size x2 x3 := by rw [← hx3]; exact alRg _ _
                  have lS : u1.heap.size ≤ x2.heap.size := HB2.size
                  have mS : x2.heap.size < x3.heap.size := by rw [← hx3]; simp
                  replace HR := HR.of_block (BE.block _ HR.lt)
                  replace HE := (BE.block _ (ltH HE)).trans HE
                  have HD : x3.heap[x2.heap.size]? = some (.cells #[.int .i64 0, .slice none 0 0, .slice none 0 0, .slice none 0 0] 25 (0, 0)) := by rw [← hx3]; exact heap_alloc_new _ _
                  have HB3 : Below u1.heap.size u1 x3 := stRg HB2 BE
                  go_simp
                  refine hK.out _ _ trivial (fun hHn => ?_)
                  clear hK KK hHn
                  try simp only [Act.put, List.setIfInBounds_toArray, List.set_cons_zero, List.set_cons_succ]
                  clear hx3 BE
                  refine wpAnyH_ready (rs := [5]) (by kernel_rfl) (by simp) ?_
                  refine AllReadyH.cons (o := ⟨_, _, _, _, _, _⟩) rfl (fun KK hK => ?b10n0) AllReadyH.nil
                  case b10n0 =>
                    have lA : x3.heap.size ≤ x3.heap.size := Nat.le_refl _
                    refine step_appZ _ (by rfl) _ _ 22 (by rfl) u1.heap.size 3 i0 _ 1 8 Try.underlying22 hi hz0 hz1 hz2 rfl (by decide) (.slice (some ⟨x1.heap.size, 0, none⟩) 0 0) 0 [] (by rfl) (owns_emptyZ HE (by omega)) (.slice a l.length c) l.length (zCells l) (by rfl) (srcZ_ints _ ((hs.below bB).below HB3)) (by unfold maxLen; omega) (by omega) (by have := HB3.size; omega) ?_
                    intro v1 x4 HV hgrow1 hat1
                    simp only [Nat.zero_add, List.nil_append] at HV
                    obtain ⟨a1, c1, rfl⟩ := ownsZ_form HV
                    have HB4 : Below u1.heap.size u1 x4 := HB3.grown hgrow1 (by have := HB3.size; omega) (fun q hq => by simp [Value.ownBlock] at hq; omega)
                    replace HR := HR.of_block (hgrow1.block _ HR.lt (fun e => by simp [Value.ownBlock] at e; omega))
                    replace HD := (hgrow1.block _ (ltH HD) (fun e => by simp [Value.ownBlock] at e; omega)).trans HD
                    have hne : ∀ b, InI a1 l.length b → b ≠ x0.heap.size := fun b hb e => by have h9 := (ints_of_owns HV).2.lt hb; rcases hat1 with h8 | h8 <;> (obtain ⟨-, o, s, e3⟩ := hb; subst e3; simp [Value.ownBlock] at h8; omega)
                    refine hK.out _ _ trivial (fun hHn => ?_)
                    clear hK KK hHn
                    try simp only [Act.put, List.setIfInBounds_toArray, List.set_cons_zero, List.set_cons_succ]
                    clear hgrow1 hat1 HE lA
                    refine wpAnyH_take (i := 6) (oi := ⟨_, _, _, _, _, _⟩) (v := ?vt11x6) rfl (by kernel_rfl) (by kernel_rfl) (by kernel_rfl) (fun _ _ _ h => h) (Or.inl ⟨by rfl, ?yt11x6⟩) trivial ?rt11x6
                    case yt11x6 => intro w hSw; clear hSw; go_simp; try with_reducible rfl
                    try simp only [Act.put, List.setIfInBounds_toArray, List.set_cons_zero, List.set_cons_succ]
                    refine wpAnyH_ready (rs := [8]) (by kernel_rfl) (by simp) ?_
                    refine AllReadyH.cons (o := ⟨_, _, _, _, _, _⟩) rfl (fun KK hK => ?b12n0) AllReadyH.nil
                    case b12n0 =>
                      have r0 := cellH (i := 0) HD rfl
                      have r1 := cellH (i := 1) HD rfl
                      have r2 := cellH (i := 2) HD rfl
                      have r3 := cellH (i := 3) HD rfl
                      have rf : ∀ o, x4.frozen? ⟨x2.heap.size, o, none⟩ = false := fun o => frzH HD
                      go_simp
                      refine hK.out _ _ trivial (fun hHn => ?_)
                      clear hK KK hHn
                      try simp only [Act.put, List.setIfInBounds_toArray, List.set_cons_zero, List.set_cons_succ]
                      refine wpAnyH_done (by kernel_rfl) (NoPanic.normal ?_) _
                      have K1 := HR.lt
                      have K2 := ltH HD
                      clear lE mE mM mS r0 r1 r2 r3 rf
                      generalize x0.heap.size = gm at HR hne lM K1 ⊢
                      generalize x2.heap.size = gS at HD lS K2 ⊢
                      generalize x1.heap.size = gE
                      revert K2; revert K1; revert lS; revert lM; revert HB4; revert hne; revert HV; revert HD; revert HR; revert c1; revert a1; revert gE; revert gS; revert gm; revert x4
                      exact key.out
              case b5n1 =>
                obtain ⟨x2, hx2⟩ : ∃ u, x1.alloc (.cells #[.int .i64 0, .slice none 0 0, .slice none 0 0, .slice none 0 0] 25) = u := ⟨_, rfl⟩
                have BE : Below x1.heap.size x1 x2 := by rw [← hx2]; exact alRg _ _
                have lS : u1.heap.size ≤ x1.heap.size := HB1.size
                have mS : x1.heap.size < x2.heap.size := by rw [← hx2]; simp
                replace HR := HR.of_block (BE.block _ HR.lt)
                have HD : x2.heap[x1.heap.size]? = some (.cells #[.int .i64 0, .slice none 0 0, .slice none 0 0, .slice none 0 0] 25 (0, 0)) := by rw [← hx2]; exact heap_alloc_new _ _
                have HB2 : Below u1.heap.size u1 x2 := stRg HB1 BE
                go_simp
                refine hK.out _ _ trivial (fun hHn => ?_)
                clear hK KK hHn
                try simp only [Act.put, List.setIfInBounds_toArray, List.set_cons_zero, List.set_cons_succ]
                clear hx2 BE
                refine wpAnyH_ready (rs := [3]) (by kernel_rfl) (by simp) ?_
                refine AllReadyH.cons (o := ⟨_, _, _, _, _, _⟩) rfl (fun KK hK => ?b13n0) AllReadyH.nil
                case b13n0 =>
                  obtain ⟨x3, hx3⟩ : ∃ u, x2.alloc (.cells #[] 3) = u := ⟨_, rfl⟩
                  have BE : Below x2.heap.size x2 x3 := by rw [← hx3]; exact alRg _ _
                  have lE : u1.heap.size ≤ x2.heap.size := HB2.size
                  have mE : x2.heap.size < x3.heap.size := by rw [← hx3]; simp
                  replace HR := HR.of_block (BE.block _ HR.lt)
                  replace HD := (BE.block _ (ltH HD)).trans HD
                  have HE : x3.heap[x2.heap.size]? = some (.cells #[] 3 (0, 0)) := by rw [← hx3]; exact heap_alloc_new _ _
                  have HB3 : Below u1.heap.size u1 x3 := stRg HB2 BE
                  go_simp
                  refine hK.out _ _ trivial (fun hHn => ?_)
                  clear hK KK hHn
                  try simp only [Act.put, List.setIfInBounds_toArray, List.set_cons_zero, List.set_cons_succ]
                  clear hx3 BE
                  refine wpAnyH_ready (rs := [5]) (by kernel_rfl) (by simp) ?_
                  refine AllReadyH.cons (o := ⟨_, _, _, _, _, _⟩) rfl (fun KK hK => ?b14n0) AllReadyH.nil
                  case b14n0 =>
                    have lA : x3.heap.size ≤ x3.heap.size := Nat.le_refl _
                    refine step_appZ _ (by rfl) _ _ 22 (by rfl) u1.heap.size 3 i0 _ 1 8 Try.underlying22 hi hz0 hz1 hz2 rfl (by decide) (.slice (some ⟨x2.heap.size, 0, none⟩) 0 0) 0 [] (by rfl) (owns_emptyZ HE (by omega)) (.slice a l.length c) l.length (zCells l) (by rfl) (srcZ_ints _ ((hs.below bB).below HB3)) (by unfold maxLen; omega) (by omega) (by have := HB3.size; omega) ?_
                    intro v1 x4 HV hgrow1 hat1
                    simp only [Nat.zero_add, List.nil_append] at HV
                    obtain ⟨a1, c1, rfl⟩ := ownsZ_form HV
                    have HB4 : Below u1.heap.size u1 x4 := HB3.grown hgrow1 (by have := HB3.size; omega) (fun q hq => by simp [Value.ownBlock] at hq; omega)
                    replace HR := HR.of_block (hgrow1.block _ HR.lt (fun e => by simp [Value.ownBlock] at e; omega))
                    replace HD := (hgrow1.block _ (ltH HD) (fun e => by simp [Value.ownBlock] at e; omega)).trans HD
                    have hne : ∀ b, InI a1 l.length b → b ≠ x0.heap.size := fun b hb e => by have h9 := (ints_of_owns HV).2.lt hb; rcases hat1 with h8 | h8 <;> (obtain ⟨-, o, s, e3⟩ := hb; subst e3; simp [Value.ownBlock] at h8; omega)
                    refine hK.out _ _ trivial (fun hHn => ?_)
                    clear hK KK hHn
                    try simp only [Act.put, List.setIfInBounds_toArray, List.set_cons_zero, List.set_cons_succ]
                    clear hgrow1 hat1 HE lA
                    refine wpAnyH_take (i := 6) (oi := ⟨_, _, _, _, _, _⟩) (v := ?vt15x6) rfl (by kernel_rfl) (by kernel_rfl) (by kernel_rfl) (fun _ _ _ h => h) (Or.inl ⟨by rfl, ?yt15x6⟩) trivial ?rt15x6
                    case yt15x6 => intro w hSw; clear hSw; go_simp; try with_reducible rfl
                    try simp only [Act.put, List.setIfInBounds_toArray, List.set_cons_zero, List.set_cons_succ]
                    refine wpAnyH_ready (rs := [8]) (by kernel_rfl) (by simp) ?_
                    refine AllReadyH.cons (o := ⟨_, _, _, _, _, _⟩) rfl (fun KK hK => ?b16n0) AllReadyH.nil
                    case b16n0 =>
                      have r0 := cellH (i := 0) HD rfl
                      have r1 := cellH (i := 1) HD rfl
                      have r2 := cellH (i := 2) HD rfl
                      have r3 := cellH (i := 3) HD rfl
                      have rf : ∀ o, x4.frozen? ⟨x1.heap.size, o, none⟩ = false := fun o => frzH HD
                      go_simp
                      refine hK.out _ _ trivial (fun hHn => ?_)
                      clear hK KK hHn
                      try simp only [Act.put, List.setIfInBounds_toArray, List.set_cons_zero, List.set_cons_succ]
                      refine wpAnyH_done (by kernel_rfl) (NoPanic.normal ?_) _
                      have K1 := HR.lt
                      have K2 := ltH HD
                      clear lE mE mM mS r0 r1 r2 r3 rf
                      generalize x0.heap.size = gm at HR hne lM K1 ⊢
                      generalize x1.heap.size = gS at HD lS K2 ⊢
                      generalize x2.heap.size = gE
                      revert K2; revert K1; revert lS; revert lM; revert HB4; revert hne; revert HV; revert HD; revert HR; revert c1; revert a1; revert gE; revert gS; revert gm; revert x4
                      exact key.out
            case b4n1 =>
              obtain ⟨x1, hx1⟩ : ∃ u, x0.alloc (.cells #[] 3) = u := ⟨_, rfl⟩
              have BE : Below x0.heap.size x0 x1 := by rw [← hx1]; exact alRg _ _
              have lE : u1.heap.size ≤ x0.heap.size := HB0.size
              have mE : x0.heap.size < x1.heap.size := by rw [← hx1]; simp
              have HE : x1.heap[x0.heap.size]? = some (.cells #[] 3 (0, 0)) := by rw [← hx1]; exact heap_alloc_new _ _
              have HB1 : Below u1.heap.size u1 x1 := stRg HB0 BE
              go_simp
              refine hK.out _ _ trivial (fun hHn => ?_)
              clear hK KK hHn
              try simp only [Act.put, List.setIfInBounds_toArray, List.set_cons_zero, List.set_cons_succ]
              clear hx1 BE
              refine wpAnyH_ready (rs := [2, 5, 7]) (by kernel_rfl) (by simp) ?_
              refine AllReadyH.cons (o := ⟨_, _, _, _, _, _⟩) rfl (fun KK hK => ?b17n0) (AllReadyH.cons (o := ⟨_, _, _, _, _, _⟩) rfl (fun KK hK => ?b17n1) (AllReadyH.cons (o := ⟨_, _, _, _, _, _⟩) rfl (fun KK hK => ?b17n2) AllReadyH.nil))
              case b17n0 =>
                obtain ⟨x2, hx2⟩ : ∃ u, x1.alloc (.cells (madeCells #[Value.int .i64 0] l.length) 3) = u := ⟨_, rfl⟩
                have BE : Below x1.heap.size x1 x2 := by rw [← hx2]; exact alRg _ _
                have lM : u1.heap.size ≤ x1.heap.size := HB1.size
                have mM : x1.heap.size < x2.heap.size := by rw [← hx2]; simp
                replace HE := (BE.block _ (ltH HE)).trans HE
                have HR : x2.rowIs x1.heap.size 3 l.length (fun _ => .int .i64 0) := by rw [← hx2]; exact World.rowIs_made _ _ _ _
                have HB2 : Below u1.heap.size u1 x2 := stRg HB1 BE
                go_simp
                refine hK.out _ _ trivial (fun hHn => ?_)
                clear hK KK hHn
                try simp only [Act.put, List.setIfInBounds_toArray, List.set_cons_zero, List.set_cons_succ]
                clear hx2 BE
                refine wpAnyH_ready (rs := [5, 7]) (by kernel_rfl) (by simp) ?_
                refine AllReadyH.cons (o := ⟨_, _, _, _, _, _⟩) rfl (fun KK hK => ?b18n0) (AllReadyH.cons (o := ⟨_, _, _, _, _, _⟩) rfl (fun KK hK => ?b18n1) AllReadyH.nil)
                case b18n0 =>
                  have lA : x2.heap.size ≤ x2.heap.size := Nat.le_refl _
                  refine step_appZ _ (by rfl) _ _ 22 (by rfl) u1.heap.size 3 i0 _ 1 8 Try.underlying22 hi hz0 hz1 hz2 rfl (by decide) (.slice (some ⟨x0.heap.size, 0, none⟩) 0 0) 0 [] (by rfl) (owns_emptyZ HE (by omega)) (.slice a l.length c) l.length (zCells l) (by rfl) (srcZ_ints _ ((hs.below bB).below HB2)) (by unfold maxLen; omega) (by omega) (by have := HB2.size; omega) ?_
                  intro v1 x3 HV hgrow1 hat1
                  simp only [Nat.zero_add, List.nil_append] at HV
                  obtain ⟨a1, c1, rfl⟩ := ownsZ_form HV
                  have HB3 : Below u1.heap.size u1 x3 := HB2.grown hgrow1 (by have := HB2.size; omega) (fun q hq => by simp [Value.ownBlock] at hq; omega)
                  replace HR := HR.of_block (hgrow1.block _ HR.lt (fun e => by simp [Value.ownBlock] at e; omega))
                  have hne : ∀ b, InI a1 l.length b → b ≠ x1.heap.size := fun b hb e => by have h9 := (ints_of_owns HV).2.lt hb; rcases hat1 with h8 | h8 <;> (obtain ⟨-, o, s, e3⟩ := hb; subst e3; simp [Value.ownBlock] at h8; omega)
                  refine hK.out _ _ trivial (fun hHn => ?_)
                  clear hK KK hHn
                  try simp only [Act.put, List.setIfInBounds_toArray, List.set_cons_zero, List.set_cons_succ]
                  clear hgrow1 hat1 HE lA
                  refine wpAnyH_take (i := 6) (oi := ⟨_, _, _, _, _, _⟩) (v := ?vt19x6) rfl (by kernel_rfl) (by kernel_rfl) (by kernel_rfl) (fun _ _ _ h => h) (Or.inl ⟨by rfl, ?yt19x6⟩) trivial ?rt19x6
                  case yt19x6 => intro w hSw; clear hSw; go_simp; try with_reducible rfl
                  try simp only [Act.put, List.setIfInBounds_toArray, List.set_cons_zero, List.set_cons_succ]
                  refine wpAnyH_ready (rs := [7]) (by kernel_rfl) (by simp) ?_
                  refine AllReadyH.cons (o := ⟨_, _, _, _, _, _⟩) rfl (fun KK hK => ?b20n0) AllReadyH.nil
                  case b20n0 =>
                    obtain ⟨x4, hx4⟩ : ∃ u, x3.alloc (.cells #[.int .i64 0, .slice none 0 0, .slice none 0 0, .slice none 0 0] 25) = u := ⟨_, rfl⟩
                    have BE : Below x3.heap.size x3 x4 := by rw [← hx4]; exact alRg _ _
                    have lS : u1.heap.size ≤ x3.heap.size := HB3.size
                    have mS : x3.heap.size < x4.heap.size := by rw [← hx4]; simp
                    replace HR := HR.of_block (BE.block _ HR.lt)
                    replace HV := ownsZ_below HV BE
                    have HD : x4.heap[x3.heap.size]? = some (.cells #[.int .i64 0, .slice none 0 0, .slice none 0 0, .slice none 0 0] 25 (0, 0)) := by rw [← hx4]; exact heap_alloc_new _ _
                    have HB4 : Below u1.heap.size u1 x4 := stRg HB3 BE
                    go_simp
                    refine hK.out _ _ trivial (fun hHn => ?_)
                    clear hK KK hHn
                    try simp only [Act.put, List.setIfInBounds_toArray, List.set_cons_zero, List.set_cons_succ]
                    clear hx4 BE
                    refine wpAnyH_ready (rs := [8]) (by kernel_rfl) (by simp) ?_
                    refine AllReadyH.cons (o := ⟨_, _, _, _, _, _⟩) rfl (fun KK hK => ?b21n0) AllReadyH.nil
                    case b21n0 =>
                      have r0 := cellH (i := 0) HD rfl
                      have r1 := cellH (i := 1) HD rfl
                      have r2 := cellH (i := 2) HD rfl
                      have r3 := cellH (i := 3) HD rfl
                      have rf : ∀ o, x4.frozen? ⟨x3.heap.size, o, none⟩ = false := fun o => frzH HD
                      go_simp
                      refine hK.out _ _ trivial (fun hHn => ?_)
                      clear hK KK hHn
                      try simp only [Act.put, List.setIfInBounds_toArray, List.set_cons_zero, List.set_cons_succ]
                      refine wpAnyH_done (by kernel_rfl) (NoPanic.normal ?_) _
                      have K1 := HR.lt
                      have K2 := ltH HD
                      clear lE mE mM mS r0 r1 r2 r3 rf
                      generalize x1.heap.size = gm at HR hne lM K1 ⊢
                      generalize x3.heap.size = gS at HD lS K2 ⊢
                      generalize x0.heap.size = gE
                      revert K2; revert K1; revert lS; revert lM; revert HB4; revert hne; revert HV; revert HD; revert HR; revert c1; revert a1; revert gE; revert gS; revert gm; revert x4
                      exact key.out
                case b18n1 =>
                  obtain ⟨x3, hx3⟩ : ∃ u, x2.alloc (.cells #[.int .i64 0, .slice none 0 0, .slice none 0 0, .slice none 0 0] 25) = u := ⟨_, rfl⟩
                  have BE : Below x2.heap.size x2 x3 := by rw [← hx3]; exact alRg _ _
                  have lS : u1.heap.size ≤ x2.heap.size := HB2.size
                  have mS : x2.heap.size < x3.heap.size := by rw [← hx3]; simp
                  replace HR := HR.of_block (BE.block _ HR.lt)
                  replace HE := (BE.block _ (ltH HE)).trans HE
                  have HD : x3.heap[x2.heap.size]? = some (.cells #[.int .i64 0, .slice none 0 0, .slice none 0 0, .slice none 0 0] 25 (0, 0)) := by rw [← hx3]; exact heap_alloc_new _ _
                  have HB3 : Below u1.heap.size u1 x3 := stRg HB2 BE
                  go_simp
                  refine hK.out _ _ trivial (fun hHn => ?_)
                  clear hK KK hHn
                  try simp only [Act.put, List.setIfInBounds_toArray, List.set_cons_zero, List.set_cons_succ]
                  clear hx3 BE
                  refine wpAnyH_ready (rs := [5]) (by kernel_rfl) (by simp) ?_
                  refine AllReadyH.cons (o := ⟨_, _, _, _, _, _⟩) rfl (fun KK hK => ?b22n0) AllReadyH.nil
                  case b22n0 =>
                    have lA : x3.heap.size ≤ x3.heap.size := Nat.le_refl _
                    refine step_appZ _ (by rfl) _ _ 22 (by rfl) u1.heap.size 3 i0 _ 1 8 Try.underlying22 hi hz0 hz1 hz2 rfl (by decide) (.slice (some ⟨x0.heap.size, 0, none⟩) 0 0) 0 [] (by rfl) (owns_emptyZ HE (by omega)) (.slice a l.length c) l.length (zCells l) (by rfl) (srcZ_ints _ ((hs.below bB).below HB3)) (by unfold maxLen; omega) (by omega) (by have := HB3.size; omega) ?_
                    intro v1 x4 HV hgrow1 hat1
                    simp only [Nat.zero_add, List.nil_append] at HV
                    obtain ⟨a1, c1, rfl⟩ := ownsZ_form HV
                    have HB4 : Below u1.heap.size u1 x4 := HB3.grown hgrow1 (by have := HB3.size; omega) (fun q hq => by simp [Value.ownBlock] at hq; omega)
                    replace HR := HR.of_block (hgrow1.block _ HR.lt (fun e => by simp [Value.ownBlock] at e; omega))
                    replace HD := (hgrow1.block _ (ltH HD) (fun e => by simp [Value.ownBlock] at e; omega)).trans HD
                    have hne : ∀ b, InI a1 l.length b → b ≠ x1.heap.size := fun b hb e => by have h9 := (ints_of_owns HV).2.lt hb; rcases hat1 with h8 | h8 <;> (obtain ⟨-, o, s, e3⟩ := hb; subst e3; simp [Value.ownBlock] at h8; omega)
                    refine hK.out _ _ trivial (fun hHn => ?_)
                    clear hK KK hHn
                    try simp only [Act.put, List.setIfInBounds_toArray, List.set_cons_zero, List.set_cons_succ]
                    clear hgrow1 hat1 HE lA
                    refine wpAnyH_take (i := 6) (oi := ⟨_, _, _, _, _, _⟩) (v := ?vt23x6) rfl (by kernel_rfl) (by kernel_rfl) (by kernel_rfl) (fun _ _ _ h => h) (Or.inl ⟨by rfl, ?yt23x6⟩) trivial ?rt23x6
                    case yt23x6 => intro w hSw; clear hSw; go_simp; try with_reducible rfl
                    try simp only [Act.put, List.setIfInBounds_toArray, List.set_cons_zero, List.set_cons_succ]
                    refine wpAnyH_ready (rs := [8]) (by kernel_rfl) (by simp) ?_
                    refine AllReadyH.cons (o := ⟨_, _, _, _, _, _⟩) rfl (fun KK hK => ?b24n0) AllReadyH.nil
                    case b24n0 =>
                      have r0 := cellH (i := 0) HD rfl
                      have r1 := cellH (i := 1) HD rfl
                      have r2 := cellH (i := 2) HD rfl
                      have r3 := cellH (i := 3) HD rfl
                      have rf : ∀ o, x4.frozen? ⟨x2.heap.size, o, none⟩ = false := fun o => frzH HD
                      go_simp
                      refine hK.out _ _ trivial (fun hHn => ?_)
                      clear hK KK hHn
                      try simp only [Act.put, List.setIfInBounds_toArray, List.set_cons_zero, List.set_cons_succ]
                      refine wpAnyH_done (by kernel_rfl) (NoPanic.normal ?_) _
                      have K1 := HR.lt
                      have K2 := ltH HD
                      clear lE mE mM mS r0 r1 r2 r3 rf
                      generalize x1.heap.size = gm at HR hne lM K1 ⊢
                      generalize x2.heap.size = gS at HD lS K2 ⊢
                      generalize x0.heap.size = gE
                      revert K2; revert K1; revert lS; revert lM; revert HB4; revert hne; revert HV; revert HD; revert HR; revert c1; revert a1; revert gE; revert gS; revert gm; revert x4
                      exact key.out
              case b17n1 =>
                have lA : x1.heap.size ≤ x1.heap.size := Nat.le_refl _
                refine step_appZ _ (by rfl) _ _ 22 (by rfl) u1.heap.size 3 i0 _ 1 8 Try.underlying22 hi hz0 hz1 hz2 rfl (by decide) (.slice (some ⟨x0.heap.size, 0, none⟩) 0 0) 0 [] (by rfl) (owns_emptyZ HE (by omega)) (.slice a l.length c) l.length (zCells l) (by rfl) (srcZ_ints _ ((hs.below bB).below HB1)) (by unfold maxLen; omega) (by omega) (by have := HB1.size; omega) ?_
                intro v1 x2 HV hgrow1 hat1
                simp only [Nat.zero_add, List.nil_append] at HV
                obtain ⟨a1, c1, rfl⟩ := ownsZ_form HV
                have HB2 : Below u1.heap.size u1 x2 := HB1.grown hgrow1 (by have := HB1.size; omega) (fun q hq => by simp [Value.ownBlock] at hq; omega)
                refine hK.out _ _ trivial (fun hHn => ?_)
                clear hK KK hHn
                try simp only [Act.put, List.setIfInBounds_toArray, List.set_cons_zero, List.set_cons_succ]
                clear hgrow1 hat1 HE lA
                refine wpAnyH_ready (rs := [2, 7]) (by kernel_rfl) (by simp) ?_
                refine AllReadyH.cons (o := ⟨_, _, _, _, _, _⟩) rfl (fun KK hK => ?b25n0) (AllReadyH.cons (o := ⟨_, _, _, _, _, _⟩) rfl (fun KK hK => ?b25n1) AllReadyH.nil)
                case b25n0 =>
                  have hne : ∀ b, InI a1 l.length b → b ≠ x2.heap.size := fun b hb e => by have := (ints_of_owns HV).2.lt hb; omega
                  obtain ⟨x3, hx3⟩ : ∃ u, x2.alloc (.cells (madeCells #[Value.int .i64 0] l.length) 3) = u := ⟨_, rfl⟩
                  have BE : Below x2.heap.size x2 x3 := by rw [← hx3]; exact alRg _ _
                  have lM : u1.heap.size ≤ x2.heap.size := HB2.size
                  have mM : x2.heap.size < x3.heap.size := by rw [← hx3]; simp
                  replace HV := ownsZ_below HV BE
                  have HR : x3.rowIs x2.heap.size 3 l.length (fun _ => .int .i64 0) := by rw [← hx3]; exact World.rowIs_made _ _ _ _
                  have HB3 : Below u1.heap.size u1 x3 := stRg HB2 BE
                  go_simp
                  refine hK.out _ _ trivial (fun hHn => ?_)
                  clear hK KK hHn
                  try simp only [Act.put, List.setIfInBounds_toArray, List.set_cons_zero, List.set_cons_succ]
                  clear hx3 BE
                  refine wpAnyH_take (i := 6) (oi := ⟨_, _, _, _, _, _⟩) (v := ?vt26x6) rfl (by kernel_rfl) (by kernel_rfl) (by kernel_rfl) (fun _ _ _ h => h) (Or.inl ⟨by rfl, ?yt26x6⟩) trivial ?rt26x6
                  case yt26x6 => intro w hSw; clear hSw; go_simp; try with_reducible rfl
                  try simp only [Act.put, List.setIfInBounds_toArray, List.set_cons_zero, List.set_cons_succ]
                  refine wpAnyH_ready (rs := [7]) (by kernel_rfl) (by simp) ?_
                  refine AllReadyH.cons (o := ⟨_, _, _, _, _, _⟩) rfl (fun KK hK => ?b27n0) AllReadyH.nil
                  case b27n0 =>
                    obtain ⟨x4, hx4⟩ : ∃ u, x3.alloc (.cells #[.int .i64 0, .slice none 0 0, .slice none 0 0, .slice none 0 0] 25) = u := ⟨_, rfl⟩
                    have BE : Below x3.heap.size x3 x4 := by rw [← hx4]; exact alRg _ _
                    have lS : u1.heap.size ≤ x3.heap.size := HB3.size
                    have mS : x3.heap.size < x4.heap.size := by rw [← hx4]; simp
                    replace HR := HR.of_block (BE.block _ HR.lt)
                    replace HV := ownsZ_below HV BE
                    have HD : x4.heap[x3.heap.size]? = some (.cells #[.int .i64 0, .slice none 0 0, .slice none 0 0, .slice none 0 0] 25 (0, 0)) := by rw [← hx4]; exact heap_alloc_new _ _
                    have HB4 : Below u1.heap.size u1 x4 := stRg HB3 BE
                    go_simp
                    refine hK.out _ _ trivial (fun hHn => ?_)
                    clear hK KK hHn
                    try simp only [Act.put, List.setIfInBounds_toArray, List.set_cons_zero, List.set_cons_succ]
                    clear hx4 BE
                    refine wpAnyH_ready (rs := [8]) (by kernel_rfl) (by simp) ?_
                    refine AllReadyH.cons (o := ⟨_, _, _, _, _, _⟩) rfl (fun KK hK => ?b28n0) AllReadyH.nil
                    case b28n0 =>
                      have r0 := cellH (i := 0) HD rfl
                      have r1 := cellH (i := 1) HD rfl
                      have r2 := cellH (i := 2) HD rfl
                      have r3 := cellH (i := 3) HD rfl
                      have rf : ∀ o, x4.frozen? ⟨x3.heap.size, o, none⟩ = false := fun o => frzH HD
                      go_simp
                      refine hK.out _ _ trivial (fun hHn => ?_)
                      clear hK KK hHn
                      try simp only [Act.put, List.setIfInBounds_toArray, List.set_cons_zero, List.set_cons_succ]
                      refine wpAnyH_done (by kernel_rfl) (NoPanic.normal ?_) _
                      have K1 := HR.lt
                      have K2 := ltH HD
                      clear lE mE mM mS r0 r1 r2 r3 rf
                      generalize x2.heap.size = gm at HR hne lM K1 ⊢
                      generalize x3.heap.size = gS at HD lS K2 ⊢
                      generalize x0.heap.size = gE
                      revert K2; revert K1; revert lS; revert lM; revert HB4; revert hne; revert HV; revert HD; revert HR; revert c1; revert a1; revert gE; revert gS; revert gm; revert x4
                      exact key.out
                case b25n1 =>
                  obtain ⟨x3, hx3⟩ : ∃ u, x2.alloc (.cells #[.int .i64 0, .slice none 0 0, .slice none 0 0, .slice none 0 0] 25) = u := ⟨_, rfl⟩
                  have BE : Below x2.heap.size x2 x3 := by rw [← hx3]; exact alRg _ _
                  have lS : u1.heap.size ≤ x2.heap.size := HB2.size
                  have mS : x2.heap.size < x3.heap.size := by rw [← hx3]; simp
                  replace HV := ownsZ_below HV BE
                  have HD : x3.heap[x2.heap.size]? = some (.cells #[.int .i64 0, .slice none 0 0, .slice none 0 0, .slice none 0 0] 25 (0, 0)) := by rw [← hx3]; exact heap_alloc_new _ _
                  have HB3 : Below u1.heap.size u1 x3 := stRg HB2 BE
                  go_simp
                  refine hK.out _ _ trivial (fun hHn => ?_)
                  clear hK KK hHn
                  try simp only [Act.put, List.setIfInBounds_toArray, List.set_cons_zero, List.set_cons_succ]
                  clear hx3 BE
                  refine wpAnyH_ready (rs := [2]) (by kernel_rfl) (by simp) ?_
                  refine AllReadyH.cons (o := ⟨_, _, _, _, _, _⟩) rfl (fun KK hK => ?b29n0) AllReadyH.nil
                  case b29n0 =>
                    have hne : ∀ b, InI a1 l.length b → b ≠ x3.heap.size := fun b hb e => by have := (ints_of_owns HV).2.lt hb; omega
                    obtain ⟨x4, hx4⟩ : ∃ u, x3.alloc (.cells (madeCells #[Value.int .i64 0] l.length) 3) = u := ⟨_, rfl⟩
                    have BE : Below x3.heap.size x3 x4 := by rw [← hx4]; exact alRg _ _
                    have lM : u1.heap.size ≤ x3.heap.size := HB3.size
                    have mM : x3.heap.size < x4.heap.size := by rw [← hx4]; simp
                    replace HD := (BE.block _ (ltH HD)).trans HD
                    replace HV := ownsZ_below HV BE
                    have HR : x4.rowIs x3.heap.size 3 l.length (fun _ => .int .i64 0) := by rw [← hx4]; exact World.rowIs_made _ _ _ _
                    have HB4 : Below u1.heap.size u1 x4 := stRg HB3 BE
                    go_simp
                    refine hK.out _ _ trivial (fun hHn => ?_)
                    clear hK KK hHn
                    try simp only [Act.put, List.setIfInBounds_toArray, List.set_cons_zero, List.set_cons_succ]
                    clear hx4 BE
                    refine wpAnyH_take (i := 6) (oi := ⟨_, _, _, _, _, _⟩) (v := ?vt30x6) rfl (by kernel_rfl) (by kernel_rfl) (by kernel_rfl) (fun _ _ _ h => h) (Or.inl ⟨by rfl, ?yt30x6⟩) trivial ?rt30x6
                    case yt30x6 => intro w hSw; clear hSw; go_simp; try with_reducible rfl
                    try simp only [Act.put, List.setIfInBounds_toArray, List.set_cons_zero, List.set_cons_succ]
                    refine wpAnyH_ready (rs := [8]) (by kernel_rfl) (by simp) ?_
                    refine AllReadyH.cons (o := ⟨_, _, _, _, _, _⟩) rfl (fun KK hK => ?b31n0) AllReadyH.nil
                    case b31n0 =>
                      have r0 := cellH (i := 0) HD rfl
                      have r1 := cellH (i := 1) HD rfl
                      have r2 := cellH (i := 2) HD rfl
                      have r3 := cellH (i := 3) HD rfl
                      have rf : ∀ o, x4.frozen? ⟨x2.heap.size, o, none⟩ = false := fun o => frzH HD
                      go_simp
                      refine hK.out _ _ trivial (fun hHn => ?_)
                      clear hK KK hHn
                      try simp only [Act.put, List.setIfInBounds_toArray, List.set_cons_zero, List.set_cons_succ]
                      refine wpAnyH_done (by kernel_rfl) (NoPanic.normal ?_) _
                      have K1 := HR.lt
                      have K2 := ltH HD
                      clear lE mE mM mS r0 r1 r2 r3 rf
                      generalize x3.heap.size = gm at HR hne lM K1 ⊢
                      generalize x2.heap.size = gS at HD lS K2 ⊢
                      generalize x0.heap.size = gE
                      revert K2; revert K1; revert lS; revert lM; revert HB4; revert hne; revert HV; revert HD; revert HR; revert c1; revert a1; revert gE; revert gS; revert gm; revert x4
                      exact key.out
              case b17n2 =>
                obtain ⟨x2, hx2⟩ : ∃ u, x1.alloc (.cells #[.int .i64 0, .slice none 0 0, .slice none 0 0, .slice none 0 0] 25) = u := ⟨_, rfl⟩
                have BE : Below x1.heap.size x1 x2 := by rw [← hx2]; exact alRg _ _
                have lS : u1.heap.size ≤ x1.heap.size := HB1.size
                have mS : x1.heap.size < x2.heap.size := by rw [← hx2]; simp
                replace HE := (BE.block _ (ltH HE)).trans HE
                have HD : x2.heap[x1.heap.size]? = some (.cells #[.int .i64 0, .slice none 0 0, .slice none 0 0, .slice none 0 0] 25 (0, 0)) := by rw [← hx2]; exact heap_alloc_new _ _
                have HB2 : Below u1.heap.size u1 x2 := stRg HB1 BE
                go_simp
                refine hK.out _ _ trivial (fun hHn => ?_)
                clear hK KK hHn
                try simp only [Act.put, List.setIfInBounds_toArray, List.set_cons_zero, List.set_cons_succ]
                clear hx2 BE
                refine wpAnyH_ready (rs := [2, 5]) (by kernel_rfl) (by simp) ?_
                refine AllReadyH.cons (o := ⟨_, _, _, _, _, _⟩) rfl (fun KK hK => ?b32n0) (AllReadyH.cons (o := ⟨_, _, _, _, _, _⟩) rfl (fun KK hK => ?b32n1) AllReadyH.nil)
                case b32n0 =>
                  obtain ⟨x3, hx3⟩ : ∃ u, x2.alloc (.cells (madeCells #[Value.int .i64 0] l.length) 3) = u := ⟨_, rfl⟩
                  have BE : Below x2.heap.size x2 x3 := by rw [← hx3]; exact alRg _ _
                  have lM : u1.heap.size ≤ x2.heap.size := HB2.size
                  have mM : x2.heap.size < x3.heap.size := by rw [← hx3]; simp
                  replace HE := (BE.block _ (ltH HE)).trans HE
                  replace HD := (BE.block _ (ltH HD)).trans HD
                  have HR : x3.rowIs x2.heap.size 3 l.length (fun _ => .int .i64 0) := by rw [← hx3]; exact World.rowIs_made _ _ _ _
                  have HB3 : Below u1.heap.size u1 x3 := stRg HB2 BE
                  go_simp
                  refine hK.out _ _ trivial (fun hHn => ?_)
                  clear hK KK hHn
                  try simp only [Act.put, List.setIfInBounds_toArray, List.set_cons_zero, List.set_cons_succ]
                  clear hx3 BE
                  refine wpAnyH_ready (rs := [5]) (by kernel_rfl) (by simp) ?_
                  refine AllReadyH.cons (o := ⟨_, _, _, _, _, _⟩) rfl (fun KK hK => ?b33n0) AllReadyH.nil
                  case b33n0 =>
                    have lA : x3.heap.size ≤ x3.heap.size := Nat.le_refl _
                    refine step_appZ _ (by rfl) _ _ 22 (by rfl) u1.heap.size 3 i0 _ 1 8 Try.underlying22 hi hz0 hz1 hz2 rfl (by decide) (.slice (some ⟨x0.heap.size, 0, none⟩) 0 0) 0 [] (by rfl) (owns_emptyZ HE (by omega)) (.slice a l.length c) l.length (zCells l) (by rfl) (srcZ_ints _ ((hs.below bB).below HB3)) (by unfold maxLen; omega) (by omega) (by have := HB3.size; omega) ?_
                    intro v1 x4 HV hgrow1 hat1
                    simp only [Nat.zero_add, List.nil_append] at HV
                    obtain ⟨a1, c1, rfl⟩ := ownsZ_form HV
                    have HB4 : Below u1.heap.size u1 x4 := HB3.grown hgrow1 (by have := HB3.size; omega) (fun q hq => by simp [Value.ownBlock] at hq; omega)
                    replace HR := HR.of_block (hgrow1.block _ HR.lt (fun e => by simp [Value.ownBlock] at e; omega))
                    replace HD := (hgrow1.block _ (ltH HD) (fun e => by simp [Value.ownBlock] at e; omega)).trans HD
                    have hne : ∀ b, InI a1 l.length b → b ≠ x2.heap.size := fun b hb e => by have h9 := (ints_of_owns HV).2.lt hb; rcases hat1 with h8 | h8 <;> (obtain ⟨-, o, s, e3⟩ := hb; subst e3; simp [Value.ownBlock] at h8; omega)
                    refine hK.out _ _ trivial (fun hHn => ?_)
                    clear hK KK hHn
                    try simp only [Act.put, List.setIfInBounds_toArray, List.set_cons_zero, List.set_cons_succ]
                    clear hgrow1 hat1 HE lA
                    refine wpAnyH_take (i := 6) (oi := ⟨_, _, _, _, _, _⟩) (v := ?vt34x6) rfl (by kernel_rfl) (by kernel_rfl) (by kernel_rfl) (fun _ _ _ h => h) (Or.inl ⟨by rfl, ?yt34x6⟩) trivial ?rt34x6
                    case yt34x6 => intro w hSw; clear hSw; go_simp; try with_reducible rfl
                    try simp only [Act.put, List.setIfInBounds_toArray, List.set_cons_zero, List.set_cons_succ]
                    refine wpAnyH_ready (rs := [8]) (by kernel_rfl) (by simp) ?_
                    refine AllReadyH.cons (o := ⟨_, _, _, _, _, _⟩) rfl (fun KK hK => ?b35n0) AllReadyH.nil
                    case b35n0 =>
                      have r0 := cellH (i := 0) HD rfl
                      have r1 := cellH (i := 1) HD rfl
                      have r2 := cellH (i := 2) HD rfl
                      have r3 := cellH (i := 3) HD rfl
                      have rf : ∀ o, x4.frozen? ⟨x1.heap.size, o, none⟩ = false := fun o => frzH HD
                      go_simp
                      refine hK.out _ _ trivial (fun hHn => ?_)
                      clear hK KK hHn
                      try simp only [Act.put, List.setIfInBounds_toArray, List.set_cons_zero, List.set_cons_succ]
                      refine wpAnyH_done (by kernel_rfl) (NoPanic.normal ?_) _
                      have K1 := HR.lt
                      have K2 := ltH HD
                      clear lE mE mM mS r0 r1 r2 r3 rf
                      generalize x2.heap.size = gm at HR hne lM K1 ⊢
                      generalize x1.heap.size = gS at HD lS K2 ⊢
                      generalize x0.heap.size = gE
                      revert K2; revert K1; revert lS; revert lM; revert HB4; revert hne; revert HV; revert HD; revert HR; revert c1; revert a1; revert gE; revert gS; revert gm; revert x4
                      exact key.out
                case b32n1 =>
                  have lA : x2.heap.size ≤ x2.heap.size := Nat.le_refl _
                  refine step_appZ _ (by rfl) _ _ 22 (by rfl) u1.heap.size 3 i0 _ 1 8 Try.underlying22 hi hz0 hz1 hz2 rfl (by decide) (.slice (some ⟨x0.heap.size, 0, none⟩) 0 0) 0 [] (by rfl) (owns_emptyZ HE (by omega)) (.slice a l.length c) l.length (zCells l) (by rfl) (srcZ_ints _ ((hs.below bB).below HB2)) (by unfold maxLen; omega) (by omega) (by have := HB2.size; omega) ?_
                  intro v1 x3 HV hgrow1 hat1
                  simp only [Nat.zero_add, List.nil_append] at HV
                  obtain ⟨a1, c1, rfl⟩ := ownsZ_form HV
                  have HB3 : Below u1.heap.size u1 x3 := HB2.grown hgrow1 (by have := HB2.size; omega) (fun q hq => by simp [Value.ownBlock] at hq; omega)
                  replace HD := (hgrow1.block _ (ltH HD) (fun e => by simp [Value.ownBlock] at e; omega)).trans HD
                  refine hK.out _ _ trivial (fun hHn => ?_)
                  clear hK KK hHn
                  try simp only [Act.put, List.setIfInBounds_toArray, List.set_cons_zero, List.set_cons_succ]
                  clear hgrow1 hat1 HE lA
                  refine wpAnyH_ready (rs := [2]) (by kernel_rfl) (by simp) ?_
                  refine AllReadyH.cons (o := ⟨_, _, _, _, _, _⟩) rfl (fun KK hK => ?b36n0) AllReadyH.nil
                  case b36n0 =>
                    have hne : ∀ b, InI a1 l.length b → b ≠ x3.heap.size := fun b hb e => by have := (ints_of_owns HV).2.lt hb; omega
                    obtain ⟨x4, hx4⟩ : ∃ u, x3.alloc (.cells (madeCells #[Value.int .i64 0] l.length) 3) = u := ⟨_, rfl⟩
                    have BE : Below x3.heap.size x3 x4 := by rw [← hx4]; exact alRg _ _
                    have lM : u1.heap.size ≤ x3.heap.size := HB3.size
                    have mM : x3.heap.size < x4.heap.size := by rw [← hx4]; simp
                    replace HD := (BE.block _ (ltH HD)).trans HD
                    replace HV := ownsZ_below HV BE
                    have HR : x4.rowIs x3.heap.size 3 l.length (fun _ => .int .i64 0) := by rw [← hx4]; exact World.rowIs_made _ _ _ _
                    have HB4 : Below u1.heap.size u1 x4 := stRg HB3 BE
                    go_simp
                    refine hK.out _ _ trivial (fun hHn => ?_)
                    clear hK KK hHn
                    try simp only [Act.put, List.setIfInBounds_toArray, List.set_cons_zero, List.set_cons_succ]
                    clear hx4 BE
                    refine wpAnyH_take (i := 6) (oi := ⟨_, _, _, _, _, _⟩) (v := ?vt37x6) rfl (by kernel_rfl) (by kernel_rfl) (by kernel_rfl) (fun _ _ _ h => h) (Or.inl ⟨by rfl, ?yt37x6⟩) trivial ?rt37x6
                    case yt37x6 => intro w hSw; clear hSw; go_simp; try with_reducible rfl
                    try simp only [Act.put, List.setIfInBounds_toArray, List.set_cons_zero, List.set_cons_succ]
                    refine wpAnyH_ready (rs := [8]) (by kernel_rfl) (by simp) ?_
                    refine AllReadyH.cons (o := ⟨_, _, _, _, _, _⟩) rfl (fun KK hK => ?b38n0) AllReadyH.nil
                    case b38n0 =>
                      have r0 := cellH (i := 0) HD rfl
                      have r1 := cellH (i := 1) HD rfl
                      have r2 := cellH (i := 2) HD rfl
                      have r3 := cellH (i := 3) HD rfl
                      have rf : ∀ o, x4.frozen? ⟨x1.heap.size, o, none⟩ = false := fun o => frzH HD
                      go_simp
                      refine hK.out _ _ trivial (fun hHn => ?_)
                      clear hK KK hHn
                      try simp only [Act.put, List.setIfInBounds_toArray, List.set_cons_zero, List.set_cons_succ]
                      refine wpAnyH_done (by kernel_rfl) (NoPanic.normal ?_) _
                      have K1 := HR.lt
                      have K2 := ltH HD
                      clear lE mE mM mS r0 r1 r2 r3 rf
                      generalize x3.heap.size = gm at HR hne lM K1 ⊢
                      generalize x1.heap.size = gS at HD lS K2 ⊢
                      generalize x0.heap.size = gE
                      revert K2; revert K1; revert lS; revert lM; revert HB4; revert hne; revert HV; revert HD; revert HR; revert c1; revert a1; revert gE; revert gS; revert gm; revert x4
                      exact key.out
            case b4n2 =>
              obtain ⟨x1, hx1⟩ : ∃ u, x0.alloc (.cells #[.int .i64 0, .slice none 0 0, .slice none 0 0, .slice none 0 0] 25) = u := ⟨_, rfl⟩
              have BE : Below x0.heap.size x0 x1 := by rw [← hx1]; exact alRg _ _
              have lS : u1.heap.size ≤ x0.heap.size := HB0.size
              have mS : x0.heap.size < x1.heap.size := by rw [← hx1]; simp
              have HD : x1.heap[x0.heap.size]? = some (.cells #[.int .i64 0, .slice none 0 0, .slice none 0 0, .slice none 0 0] 25 (0, 0)) := by rw [← hx1]; exact heap_alloc_new _ _
              have HB1 : Below u1.heap.size u1 x1 := stRg HB0 BE
              go_simp
              refine hK.out _ _ trivial (fun hHn => ?_)
              clear hK KK hHn
              try simp only [Act.put, List.setIfInBounds_toArray, List.set_cons_zero, List.set_cons_succ]
              clear hx1 BE
              refine wpAnyH_ready (rs := [2, 3]) (by kernel_rfl) (by simp) ?_
              refine AllReadyH.cons (o := ⟨_, _, _, _, _, _⟩) rfl (fun KK hK => ?b39n0) (AllReadyH.cons (o := ⟨_, _, _, _, _, _⟩) rfl (fun KK hK => ?b39n1) AllReadyH.nil)
              case b39n0 =>
                obtain ⟨x2, hx2⟩ : ∃ u, x1.alloc (.cells (madeCells #[Value.int .i64 0] l.length) 3) = u := ⟨_, rfl⟩
                have BE : Below x1.heap.size x1 x2 := by rw [← hx2]; exact alRg _ _
                have lM : u1.heap.size ≤ x1.heap.size := HB1.size
                have mM : x1.heap.size < x2.heap.size := by rw [← hx2]; simp
                replace HD := (BE.block _ (ltH HD)).trans HD
                have HR : x2.rowIs x1.heap.size 3 l.length (fun _ => .int .i64 0) := by rw [← hx2]; exact World.rowIs_made _ _ _ _
                have HB2 : Below u1.heap.size u1 x2 := stRg HB1 BE
                go_simp
                refine hK.out _ _ trivial (fun hHn => ?_)
                clear hK KK hHn
                try simp only [Act.put, List.setIfInBounds_toArray, List.set_cons_zero, List.set_cons_succ]
                clear hx2 BE
                refine wpAnyH_ready (rs := [3]) (by kernel_rfl) (by simp) ?_
                refine AllReadyH.cons (o := ⟨_, _, _, _, _, _⟩) rfl (fun KK hK => ?b40n0) AllReadyH.nil
                case b40n0 =>
                  obtain ⟨x3, hx3⟩ : ∃ u, x2.alloc (.cells #[] 3) = u := ⟨_, rfl⟩
                  have BE : Below x2.heap.size x2 x3 := by rw [← hx3]; exact alRg _ _
                  have lE : u1.heap.size ≤ x2.heap.size := HB2.size
                  have mE : x2.heap.size < x3.heap.size := by rw [← hx3]; simp
                  replace HR := HR.of_block (BE.block _ HR.lt)
                  replace HD := (BE.block _ (ltH HD)).trans HD
                  have HE : x3.heap[x2.heap.size]? = some (.cells #[] 3 (0, 0)) := by rw [← hx3]; exact heap_alloc_new _ _
                  have HB3 : Below u1.heap.size u1 x3 := stRg HB2 BE
                  go_simp
                  refine hK.out _ _ trivial (fun hHn => ?_)
                  clear hK KK hHn
                  try simp only [Act.put, List.setIfInBounds_toArray, List.set_cons_zero, List.set_cons_succ]
                  clear hx3 BE
                  refine wpAnyH_ready (rs := [5]) (by kernel_rfl) (by simp) ?_
                  refine AllReadyH.cons (o := ⟨_, _, _, _, _, _⟩) rfl (fun KK hK => ?b41n0) AllReadyH.nil
                  case b41n0 =>
                    have lA : x3.heap.size ≤ x3.heap.size := Nat.le_refl _
                    refine step_appZ _ (by rfl) _ _ 22 (by rfl) u1.heap.size 3 i0 _ 1 8 Try.underlying22 hi hz0 hz1 hz2 rfl (by decide) (.slice (some ⟨x2.heap.size, 0, none⟩) 0 0) 0 [] (by rfl) (owns_emptyZ HE (by omega)) (.slice a l.length c) l.length (zCells l) (by rfl) (srcZ_ints _ ((hs.below bB).below HB3)) (by unfold maxLen; omega) (by omega) (by have := HB3.size; omega) ?_
                    intro v1 x4 HV hgrow1 hat1
                    simp only [Nat.zero_add, List.nil_append] at HV
                    obtain ⟨a1, c1, rfl⟩ := ownsZ_form HV
                    have HB4 : Below u1.heap.size u1 x4 := HB3.grown hgrow1 (by have := HB3.size; omega) (fun q hq => by simp [Value.ownBlock] at hq; omega)
                    replace HR := HR.of_block (hgrow1.block _ HR.lt (fun e => by simp [Value.ownBlock] at e; omega))
                    replace HD := (hgrow1.block _ (ltH HD) (fun e => by simp [Value.ownBlock] at e; omega)).trans HD
                    have hne : ∀ b, InI a1 l.length b → b ≠ x1.heap.size := fun b hb e => by have h9 := (ints_of_owns HV).2.lt hb; rcases hat1 with h8 | h8 <;> (obtain ⟨-, o, s, e3⟩ := hb; subst e3; simp [Value.ownBlock] at h8; omega)
                    refine hK.out _ _ trivial (fun hHn => ?_)
                    clear hK KK hHn
                    try simp only [Act.put, List.setIfInBounds_toArray, List.set_cons_zero, List.set_cons_succ]
                    clear hgrow1 hat1 HE lA
                    refine wpAnyH_take (i := 6) (oi := ⟨_, _, _, _, _, _⟩) (v := ?vt42x6) rfl (by kernel_rfl) (by kernel_rfl) (by kernel_rfl) (fun _ _ _ h => h) (Or.inl ⟨by rfl, ?yt42x6⟩) trivial ?rt42x6
                    case yt42x6 => intro w hSw; clear hSw; go_simp; try with_reducible rfl
                    try simp only [Act.put, List.setIfInBounds_toArray, List.set_cons_zero, List.set_cons_succ]
                    refine wpAnyH_ready (rs := [8]) (by kernel_rfl) (by simp) ?_
                    refine AllReadyH.cons (o := ⟨_, _, _, _, _, _⟩) rfl (fun KK hK => ?b43n0) AllReadyH.nil
                    case b43n0 =>
                      have r0 := cellH (i := 0) HD rfl
                      have r1 := cellH (i := 1) HD rfl
                      have r2 := cellH (i := 2) HD rfl
                      have r3 := cellH (i := 3) HD rfl
                      have rf : ∀ o, x4.frozen? ⟨x0.heap.size, o, none⟩ = false := fun o => frzH HD
                      go_simp
                      refine hK.out _ _ trivial (fun hHn => ?_)
                      clear hK KK hHn
                      try simp only [Act.put, List.setIfInBounds_toArray, List.set_cons_zero, List.set_cons_succ]
                      refine wpAnyH_done (by kernel_rfl) (NoPanic.normal ?_) _
                      have K1 := HR.lt
                      have K2 := ltH HD
                      clear lE mE mM mS r0 r1 r2 r3 rf
                      generalize x1.heap.size = gm at HR hne lM K1 ⊢
                      generalize x0.heap.size = gS at HD lS K2 ⊢
                      generalize x2.heap.size = gE
                      revert K2; revert K1; revert lS; revert lM; revert HB4; revert hne; revert HV; revert HD; revert HR; revert c1; revert a1; revert gE; revert gS; revert gm; revert x4
                      exact key.out
              case b39n1 =>
                obtain ⟨x2, hx2⟩ : ∃ u, x1.alloc (.cells #[] 3) = u := ⟨_, rfl⟩
                have BE : Below x1.heap.size x1 x2 := by rw [← hx2]; exact alRg _ _
                have lE : u1.heap.size ≤ x1.heap.size := HB1.size
                have mE : x1.heap.size < x2.heap.size := by rw [← hx2]; simp
                replace HD := (BE.block _ (ltH HD)).trans HD
                have HE : x2.heap[x1.heap.size]? = some (.cells #[] 3 (0, 0)) := by rw [← hx2]; exact heap_alloc_new _ _
                have HB2 : Below u1.heap.size u1 x2 := stRg HB1 BE
                go_simp
                refine hK.out _ _ trivial (fun hHn => ?_)
                clear hK KK hHn
                try simp only [Act.put, List.setIfInBounds_toArray, List.set_cons_zero, List.set_cons_succ]
                clear hx2 BE
                refine wpAnyH_ready (rs := [2, 5]) (by kernel_rfl) (by simp) ?_
                refine AllReadyH.cons (o := ⟨_, _, _, _, _, _⟩) rfl (fun KK hK => ?b44n0) (AllReadyH.cons (o := ⟨_, _, _, _, _, _⟩) rfl (fun KK hK => ?b44n1) AllReadyH.nil)
                case b44n0 =>
                  obtain ⟨x3, hx3⟩ : ∃ u, x2.alloc (.cells (madeCells #[Value.int .i64 0] l.length) 3) = u := ⟨_, rfl⟩
                  have BE : Below x2.heap.size x2 x3 := by rw [← hx3]; exact alRg _ _
                  have lM : u1.heap.size ≤ x2.heap.size := HB2.size
                  have mM : x2.heap.size < x3.heap.size := by rw [← hx3]; simp
                  replace HE := (BE.block _ (ltH HE)).trans HE
                  replace HD := (BE.block _ (ltH HD)).trans HD
                  have HR : x3.rowIs x2.heap.size 3 l.length (fun _ => .int .i64 0) := by rw [← hx3]; exact World.rowIs_made _ _ _ _
                  have HB3 : Below u1.heap.size u1 x3 := stRg HB2 BE
                  go_simp
                  refine hK.out _ _ trivial (fun hHn => ?_)
                  clear hK KK hHn
                  try simp only [Act.put, List.setIfInBounds_toArray, List.set_cons_zero, List.set_cons_succ]
                  clear hx3 BE
                  refine wpAnyH_ready (rs := [5]) (by kernel_rfl) (by simp) ?_
                  refine AllReadyH.cons (o := ⟨_, _, _, _, _, _⟩) rfl (fun KK hK => ?b45n0) AllReadyH.nil
                  case b45n0 =>
                    have lA : x3.heap.size ≤ x3.heap.size := Nat.le_refl _
                    refine step_appZ _ (by rfl) _ _ 22 (by rfl) u1.heap.size 3 i0 _ 1 8 Try.underlying22 hi hz0 hz1 hz2 rfl (by decide) (.slice (some ⟨x1.heap.size, 0, none⟩) 0 0) 0 [] (by rfl) (owns_emptyZ HE (by omega)) (.slice a l.length c) l.length (zCells l) (by rfl) (srcZ_ints _ ((hs.below bB).below HB3)) (by unfold maxLen; omega) (by omega) (by have := HB3.size; omega) ?_
                    intro v1 x4 HV hgrow1 hat1
                    simp only [Nat.zero_add, List.nil_append] at HV
                    obtain ⟨a1, c1, rfl⟩ := ownsZ_form HV
                    have HB4 : Below u1.heap.size u1 x4 := HB3.grown hgrow1 (by have := HB3.size; omega) (fun q hq => by simp [Value.ownBlock] at hq; omega)
                    replace HR := HR.of_block (hgrow1.block _ HR.lt (fun e => by simp [Value.ownBlock] at e; omega))
                    replace HD := (hgrow1.block _ (ltH HD) (fun e => by simp [Value.ownBlock] at e; omega)).trans HD
                    have hne : ∀ b, InI a1 l.length b → b ≠ x2.heap.size := fun b hb e => by have h9 := (ints_of_owns HV).2.lt hb; rcases hat1 with h8 | h8 <;> (obtain ⟨-, o, s, e3⟩ := hb; subst e3; simp [Value.ownBlock] at h8; omega)
                    refine hK.out _ _ trivial (fun hHn => ?_)
                    clear hK KK hHn
                    try simp only [Act.put, List.setIfInBounds_toArray, List.set_cons_zero, List.set_cons_succ]
                    clear hgrow1 hat1 HE lA
                    refine wpAnyH_take (i := 6) (oi := ⟨_, _, _, _, _, _⟩) (v := ?vt46x6) rfl (by kernel_rfl) (by kernel_rfl) (by kernel_rfl) (fun _ _ _ h => h) (Or.inl ⟨by rfl, ?yt46x6⟩) trivial ?rt46x6
                    case yt46x6 => intro w hSw; clear hSw; go_simp; try with_reducible rfl
                    try simp only [Act.put, List.setIfInBounds_toArray, List.set_cons_zero, List.set_cons_succ]
                    refine wpAnyH_ready (rs := [8]) (by kernel_rfl) (by simp) ?_
                    refine AllReadyH.cons (o := ⟨_, _, _, _, _, _⟩) rfl (fun KK hK => ?b47n0) AllReadyH.nil
                    case b47n0 =>
                      have r0 := cellH (i := 0) HD rfl
                      have r1 := cellH (i := 1) HD rfl
                      have r2 := cellH (i := 2) HD rfl
                      have r3 := cellH (i := 3) HD rfl
                      have rf : ∀ o, x4.frozen? ⟨x0.heap.size, o, none⟩ = false := fun o => frzH HD
                      go_simp
                      refine hK.out _ _ trivial (fun hHn => ?_)
                      clear hK KK hHn
                      try simp only [Act.put, List.setIfInBounds_toArray, List.set_cons_zero, List.set_cons_succ]
                      refine wpAnyH_done (by kernel_rfl) (NoPanic.normal ?_) _
                      have K1 := HR.lt
                      have K2 := ltH HD
                      clear lE mE mM mS r0 r1 r2 r3 rf
                      generalize x2.heap.size = gm at HR hne lM K1 ⊢
                      generalize x0.heap.size = gS at HD lS K2 ⊢
                      generalize x1.heap.size = gE
                      revert K2; revert K1; revert lS; revert lM; revert HB4; revert hne; revert HV; revert HD; revert HR; revert c1; revert a1; revert gE; revert gS; revert gm; revert x4
                      exact key.out
                case b44n1 =>
                  have lA : x2.heap.size ≤ x2.heap.size := Nat.le_refl _
                  refine step_appZ _ (by rfl) _ _ 22 (by rfl) u1.heap.size 3 i0 _ 1 8 Try.underlying22 hi hz0 hz1 hz2 rfl (by decide) (.slice (some ⟨x1.heap.size, 0, none⟩) 0 0) 0 [] (by rfl) (owns_emptyZ HE (by omega)) (.slice a l.length c) l.length (zCells l) (by rfl) (srcZ_ints _ ((hs.below bB).below HB2)) (by unfold maxLen; omega) (by omega) (by have := HB2.size; omega) ?_
                  intro v1 x3 HV hgrow1 hat1
                  simp only [Nat.zero_add, List.nil_append] at HV
                  obtain ⟨a1, c1, rfl⟩ := ownsZ_form HV
                  have HB3 : Below u1.heap.size u1 x3 := HB2.grown hgrow1 (by have := HB2.size; omega) (fun q hq => by simp [Value.ownBlock] at hq; omega)
                  replace HD := (hgrow1.block _ (ltH HD) (fun e => by simp [Value.ownBlock] at e; omega)).trans HD
                  refine hK.out _ _ trivial (fun hHn => ?_)
                  clear hK KK hHn
                  try simp only [Act.put, List.setIfInBounds_toArray, List.set_cons_zero, List.set_cons_succ]
                  clear hgrow1 hat1 HE lA
                  refine wpAnyH_ready (rs := [2]) (by kernel_rfl) (by simp) ?_
                  refine AllReadyH.cons (o := ⟨_, _, _, _, _, _⟩) rfl (fun KK hK => ?b48n0) AllReadyH.nil
                  case b48n0 =>
                    have hne : ∀ b, InI a1 l.length b → b ≠ x3.heap.size := fun b hb e => by have := (ints_of_owns HV).2.lt hb; omega
                    obtain ⟨x4, hx4⟩ : ∃ u, x3.alloc (.cells (madeCells #[Value.int .i64 0] l.length) 3) = u := ⟨_, rfl⟩
                    have BE : Below x3.heap.size x3 x4 := by rw [← hx4]; exact alRg _ _
                    have lM : u1.heap.size ≤ x3.heap.size := HB3.size
                    have mM : x3.heap.size < x4.heap.size := by rw [← hx4]; simp
                    replace HD := (BE.block _ (ltH HD)).trans HD
                    replace HV := ownsZ_below HV BE
                    have HR : x4.rowIs x3.heap.size 3 l.length (fun _ => .int .i64 0) := by rw [← hx4]; exact World.rowIs_made _ _ _ _
                    have HB4 : Below u1.heap.size u1 x4 := stRg HB3 BE
                    go_simp
                    refine hK.out _ _ trivial (fun hHn => ?_)
                    clear hK KK hHn
                    try simp only [Act.put, List.setIfInBounds_toArray, List.set_cons_zero, List.set_cons_succ]
                    clear hx4 BE
                    refine wpAnyH_take (i := 6) (oi := ⟨_, _, _, _, _, _⟩) (v := ?vt49x6) rfl (by kernel_rfl) (by kernel_rfl) (by kernel_rfl) (fun _ _ _ h => h) (Or.inl ⟨by rfl, ?yt49x6⟩) trivial ?rt49x6
                    case yt49x6 => intro w hSw; clear hSw; go_simp; try with_reducible rfl
                    try simp only [Act.put, List.setIfInBounds_toArray, List.set_cons_zero, List.set_cons_succ]
                    refine wpAnyH_ready (rs := [8]) (by kernel_rfl) (by simp) ?_
                    refine AllReadyH.cons (o := ⟨_, _, _, _, _, _⟩) rfl (fun KK hK => ?b50n0) AllReadyH.nil
                    case b50n0 =>
                      have r0 := cellH (i := 0) HD rfl
                      have r1 := cellH (i := 1) HD rfl
                      have r2 := cellH (i := 2) HD rfl
                      have r3 := cellH (i := 3) HD rfl
                      have rf : ∀ o, x4.frozen? ⟨x0.heap.size, o, none⟩ = false := fun o => frzH HD
                      go_simp
                      refine hK.out _ _ trivial (fun hHn => ?_)
                      clear hK KK hHn
                      try simp only [Act.put, List.setIfInBounds_toArray, List.set_cons_zero, List.set_cons_succ]
                      refine wpAnyH_done (by kernel_rfl) (NoPanic.normal ?_) _
                      have K1 := HR.lt
                      have K2 := ltH HD
                      clear lE mE mM mS r0 r1 r2 r3 rf
                      generalize x3.heap.size = gm at HR hne lM K1 ⊢
                      generalize x0.heap.size = gS at HD lS K2 ⊢
                      generalize x1.heap.size = gE
                      revert K2; revert K1; revert lS; revert lM; revert HB4; revert hne; revert HV; revert HD; revert HR; revert c1; revert a1; revert gE; revert gS; revert gm; revert x4
                      exact key.out
          case hkey =>
            intro x gm gS gE a1 c1 HR HD HV hne HB lM lS K1 K2
            have hr1 := inB_t.1 g1
            obtain ⟨n, rfl⟩ : ∃ n : Nat, z = n := ⟨z.toNat, by omega⟩
            have hn5 : n ≤ 5 := by omega
            have HEq : Hid (newRg (n : Int) l = ⟨0, (List.replicate n (List.replicate l.length 0)).map rxN, List.replicate l.length 0, l⟩) := newRg_good HG.out
            obtain ⟨i1, hi1, hy0, hy1, hy2⟩ := infoZ Try.infoRx
            obtain ⟨y, hy⟩ : ∃ y, (((x.setCell ⟨gS, 0, none⟩ (.int .i64 0)).setCell ⟨gS, 1, none⟩ (.slice none 0 0)).setCell ⟨gS, 2, none⟩ (.slice (some ⟨gm, 0, none⟩) l.length l.length)).setCell ⟨gS, 3, none⟩ (.slice a1 l.length c1) = y := ⟨_, rfl⟩
            rw [hy]
            have r0 := cellH (i := 0) HD rfl
            have r1 := cellH (i := 1) HD rfl
            have r2 := cellH (i := 2) HD rfl
            have r3 := cellH (i := 3) HD rfl
            have rf : ∀ o, x.frozen? ⟨gS, o, none⟩ = false := fun o => frzH HD
            have hyb : ∀ b, b ≠ gS → y.heap[b]? = x.heap[b]? := fun b hb => by rw [← hy, Below.heap_setCell _ ⟨gS, _, none⟩ _ b (by simpa using hb), Below.heap_setCell _ ⟨gS, _, none⟩ _ b (by simpa using hb), Below.heap_setCell _ ⟨gS, _, none⟩ _ b (by simpa using hb), Below.heap_setCell _ ⟨gS, _, none⟩ _ b (by simpa using hb)]
            have hst0 : RxSt x.heap.size gS u1 y (.slice none 0 0) (.slice (some ⟨gm, 0, none⟩) l.length l.length) (.slice a1 l.length c1) [] := ⟨World.ownsRow_nil _ _ _ _, QIn.nil _ _, by rw [← hy]; simp [go_sem, r1], by rw [← hy]; simp [go_sem, r0], by rw [← hy]; simp [go_sem, r2], by rw [← hy]; simp [go_sem, r3], fun o => by rw [← hy]; simp [go_sem, rf], by rw [← hy]; exact (((HB.setCell lS _).setCell lS _).setCell lS _).setCell lS _, K2, lS, by rw [← hy]; simp⟩
            have hKB0 : ∀ b, b < x.heap.size → b ≠ gS → y.heap[b]? = x.heap[b]? := fun b _ hb => hyb b hb
            clear hy hyb r0 r1 r2 r3 rf hr1 g1 g2
            go_wp2
            go_loopw [9] (fun i wr => ∃ (k : Nat) (v : Value) (qs : List QI), k ≤ n ∧ i = .int .i64 k ∧ Hid (qs.map QI.zs = List.replicate k (List.replicate l.length 0)) ∧ Hid (∀ b, b < x.heap.size → b ≠ gS → wr.heap[b]? = x.heap[b]?) ∧ RxSt x.heap.size gS u1 wr v (.slice (some ⟨gm, 0, none⟩) l.length l.length) (.slice a1 l.length c1) qs) (fun i _ => n - (intOf i).toNat)
            case atStart => exact ⟨0, _, [], Nat.zero_le _, rfl, rfl, hKB0, hst0⟩
            case round =>
              clear hst0 hKB0
              obtain ⟨k, v, qs, hk', rfl, HQ, HKB, hst⟩ := hrel
              have hB := hst.bel
              have hlw := hst.Bw
              have p0 := celB hB q0
              have p1 := celB hB q1
              have p2 := celB hB q2
              have p3 := celB hB q3
              have pf : ∀ o, wr.frozen? ⟨w.heap.size, o, none⟩ = false := fun o => frzB hB (by omega) (qf o)
              have hql : qs.length ≤ k := by have h9 := congrArg List.length HQ.out; simp at h9; omega
              by_cases hlt2 : k < n
              · have hki : (k : Int) < (n : Int) := by omega
                go_wp2_with fail
                obtain ⟨y0, hy0'⟩ : ∃ y, wr.drew = y := ⟨_, rfl⟩
                have HC0 : Below wr.heap.size wr y0 := by rw [← hy0']; exact (Below.refl _ _).drew
                refine wp_region_noPanic ?_
                refine wp_region_held_drew (S := fun _ => True) (by kernel_rfl) trivial (fun hHn => ?_)
                clear hHn
                rw [hy0']
                clear hy0'
                refine wpAnyH_take (i := 0) (oi := ⟨_, _, _, _, _, _⟩) (v := ?vt51x0) rfl (by kernel_rfl) (by kernel_rfl) (by kernel_rfl) (fun _ _ _ h => h) (Or.inl ⟨by rfl, ?yt51x0⟩) trivial ?rt51x0
                case yt51x0 => intro w hSw; clear hSw; go_simp; try with_reducible rfl
                try simp only [Act.put, List.setIfInBounds_toArray, List.set_cons_zero, List.set_cons_succ]
                refine wpAnyH_take (i := 2) (oi := ⟨_, _, _, _, _, _⟩) (v := ?vt52x2) rfl (by kernel_rfl) (by kernel_rfl) (by kernel_rfl) (fun _ _ _ h => h) (Or.inl ⟨by rfl, ?yt52x2⟩) trivial ?rt52x2
                case yt52x2 => intro w hSw; clear hSw; go_simp; try with_reducible rfl
                try simp only [Act.put, List.setIfInBounds_toArray, List.set_cons_zero, List.set_cons_succ]
                refine wpAnyH_take (i := 3) (oi := ⟨_, _, _, _, _, _⟩) (v := ?vt53x3) rfl (by kernel_rfl) (by kernel_rfl) (by kernel_rfl) (fun _ _ _ h => h) (Or.inl ⟨by rfl, ?yt53x3⟩) trivial ?rt53x3
                case yt53x3 => intro w hSw; clear hSw; go_simp; try with_reducible rfl
                try simp only [Act.put, List.setIfInBounds_toArray, List.set_cons_zero, List.set_cons_succ]
                refine wpAnyH_ready (rs := [1, 4]) (by kernel_rfl) (by simp) ?_
                refine AllReadyH.cons (o := ⟨_, _, _, _, _, _⟩) rfl (fun KK hK => ?b54n0) (AllReadyH.cons (o := ⟨_, _, _, _, _, _⟩) rfl (fun KK hK => ?b54n1) AllReadyH.nil)
                case b54n0 =>
                  have cL : y0.cell? ⟨gS, 1, none⟩ = some v := celB HC0 hst.c0
                  go_simp
                  refine hK.out _ _ trivial (fun hHn => ?_)
                  clear hK KK hHn
                  try simp only [Act.put, List.setIfInBounds_toArray, List.set_cons_zero, List.set_cons_succ]
                  clear cL
                  refine wpAnyH_ready (rs := [4]) (by kernel_rfl) (by simp) ?_
                  refine AllReadyH.cons (o := ⟨_, _, _, _, _, _⟩) rfl (fun KK hK => ?b55n0) AllReadyH.nil
                  case b55n0 =>
                    obtain ⟨y1, hy1⟩ : ∃ u, y0.alloc (.cells (madeCells #[Value.int .i64 0] l.length) 3) = u := ⟨_, rfl⟩
                    have HR2 : y1.rowIs y0.heap.size 3 l.length (fun _ => .int .i64 0) := by rw [← hy1]; exact World.rowIs_made _ _ _ _
                    have lE2 : wr.heap.size ≤ y0.heap.size := HC0.size
                    have BE : Below y0.heap.size y0 y1 := by rw [← hy1]; exact alRg _ _
                    have HC1 : Below wr.heap.size wr y1 := stRg HC0 BE
                    go_simp
                    refine hK.out _ _ trivial (fun hHn => ?_)
                    clear hK KK hHn
                    try simp only [Act.put, List.setIfInBounds_toArray, List.set_cons_zero, List.set_cons_succ]
                    clear hy1 BE
                    refine wpAnyH_take (i := 5) (oi := ⟨_, _, _, _, _, _⟩) (v := ?vt56x5) rfl (by kernel_rfl) (by kernel_rfl) (by kernel_rfl) (fun _ _ _ h => h) (Or.inl ⟨by rfl, ?yt56x5⟩) trivial ?rt56x5
                    case yt56x5 => intro w hSw; clear hSw; go_simp; try with_reducible rfl
                    try simp only [Act.put, List.setIfInBounds_toArray, List.set_cons_zero, List.set_cons_succ]
                    refine wpAnyH_ready (rs := [6]) (by kernel_rfl) (by simp) ?_
                    refine AllReadyH.cons (o := ⟨_, _, _, _, _, _⟩) rfl (fun KK hK => ?b57n0) AllReadyH.nil
                    case b57n0 =>
                      obtain ⟨y2, hy2⟩ : ∃ u, y1.alloc (.cells #[.bool false, .int .i64 0, .slice none 0 0, .slice (some ⟨y0.heap.size, 0, none⟩) l.length l.length] 67) = u := ⟨_, rfl⟩
                      have HD2 : y2.heap[y1.heap.size]? = some (.cells #[.bool false, .int .i64 0, .slice none 0 0, .slice (some ⟨y0.heap.size, 0, none⟩) l.length l.length] 67 (0, 0)) := by rw [← hy2]; exact heap_alloc_new _ _
                      have BE : Below y1.heap.size y1 y2 := by rw [← hy2]; exact alRg _ _
                      have HC2 : Below wr.heap.size wr y2 := stRg HC1 BE
                      replace HR2 := HR2.of_block (BE.block _ HR2.lt)
                      go_simp
                      refine hK.out _ _ trivial (fun hHn => ?_)
                      clear hK KK hHn
                      try simp only [Act.put, List.setIfInBounds_toArray, List.set_cons_zero, List.set_cons_succ]
                      clear hy2 BE
                      refine wpAnyH_ready (rs := [7]) (by kernel_rfl) (by simp) ?_
                      refine AllReadyH.cons (o := ⟨_, _, _, _, _, _⟩) rfl (fun KK hK => ?b58n0) AllReadyH.nil
                      case b58n0 =>
                        have hin := ints_rep HR2
                        have hir : RowI y2 wr.heap.size (some ⟨y0.heap.size, 0, none⟩) (List.replicate l.length (0 : Int)).length := rowI_rep HR2 lE2
                        have hstx := hst.below HC2
                        have HC : Hid (rxC ⟨List.replicate l.length 0, some ⟨y0.heap.size, 0, none⟩, l.length⟩ = [.bool false, .int .i64 0, .slice none 0 0, .slice (some ⟨y0.heap.size, 0, none⟩) l.length l.length]) := by show _ = _; simp [rxC]
                        have HC1' : Hid (∀ u ∈ ([.bool false, .int .i64 0, .slice none 0 0, .slice (some ⟨y0.heap.size, 0, none⟩) l.length l.length] : List Value), u.oneCell' = true) := by show ∀ u ∈ _, _; rw [← HC.out]; exact rxC_one _
                        refine step_append_lies _ (by rfl) _ _ 23 (by rfl) x.heap.size 67 i1 _ 4 64 Try.underlying23 hi1 hy0 hy1 hy2 rfl (by omega) v qs.length (qs.flatMap rxC) (by rfl) hstx.own ⟨y1.heap.size, 0, none⟩ 1 1 [.bool false, .int .i64 0, .slice none 0 0, .slice (some ⟨y0.heap.size, 0, none⟩) l.length l.length] (by rfl) (by rfl) (World.news_of_block (cs := #[.bool false, .int .i64 0, .slice none 0 0, .slice (some ⟨y0.heap.size, 0, none⟩) l.length l.length]) (t := 67) (fr := (0, 0)) HD2) HC1'.out (by omega) (by unfold maxLen; omega) (by omega) (by have := HC2.size; omega) (y2.heap.size) rfl ?_
                        intro g2 cap2 w5 HO2 hgrow2 hat2 hlt2
                        rw [← HC.out] at HO2
                        have HN : Hid (RxSt x.heap.size gS u1 (w5.setCell ⟨gS, 1, none⟩ (.slice (some ⟨g2, 0, none⟩) (qs.length + 1) cap2)) (.slice (some ⟨g2, 0, none⟩) (qs.length + 1) cap2) (.slice (some ⟨gm, 0, none⟩) l.length l.length) (.slice a1 l.length c1) (qs ++ [⟨List.replicate l.length 0, some ⟨y0.heap.size, 0, none⟩, l.length⟩])) := hst.step HC2 hin hir hgrow2 HO2 hat2
                        have HM : Hid ((qs ++ [(⟨List.replicate l.length 0, some ⟨y0.heap.size, 0, none⟩, l.length⟩ : QI)]).map QI.zs = List.replicate (k + 1) (List.replicate l.length 0)) := by show _ = _; rw [List.map_append, HQ.out, List.replicate_succ']; rfl
                        have hvb : ∀ b, v.ownBlock = some b → x.heap.size ≤ b := fun b hb => (hst.own.lt b hb).1
                        have HKN : Hid (∀ b, b < x.heap.size → b ≠ gS → (w5.setCell ⟨gS, 1, none⟩ (.slice (some ⟨g2, 0, none⟩) (qs.length + 1) cap2)).heap[b]? = x.heap[b]?) := fun b hb hne => by
                          rw [Below.heap_setCell _ ⟨gS, _, none⟩ _ b (by simpa using hne), hgrow2.block b (by have := HC2.size; have := hst.Bw; omega) (fun e => by have := hvb b e.symm; omega), HC2.block b (by have := hst.Bw; omega)]
                          exact HKB.out b hb hne
                        have hvS : some gS ≠ v.ownBlock := fun e => by have := (hstx.own.lt gS e.symm).1; omega
                        have zc : w5.cell? ⟨gS, 1, none⟩ = some v := (World.cell?_of_block (a := ⟨gS, 1, none⟩) (hgrow2.block gS (lt_of_cell hstx.c0) hvS)).trans hstx.c0
                        have zf : ∀ o, w5.frozen? ⟨gS, o, none⟩ = false := fun o => (World.frozen?_of_block (a := ⟨gS, o, none⟩) (hgrow2.block gS (lt_of_cell hstx.c0) hvS)).trans (hstx.fr o)
                        refine hK.out _ _ trivial (fun hHn => ?_)
                        clear hK KK hHn
                        try simp only [Act.put, List.setIfInBounds_toArray, List.set_cons_zero, List.set_cons_succ]
                        clear hgrow2 hat2 HR2 HD2 hin hir hstx HO2 hvS hlt2 HC HC1' hvb
                        refine wpAnyH_take (i := 8) (oi := ⟨_, _, _, _, _, _⟩) (v := ?vt59x8) rfl (by kernel_rfl) (by kernel_rfl) (by kernel_rfl) (fun _ _ _ h => h) (Or.inl ⟨by rfl, ?yt59x8⟩) trivial ?rt59x8
                        case yt59x8 => intro w hSw; clear hSw; go_simp; try with_reducible rfl
                        try simp only [Act.put, List.setIfInBounds_toArray, List.set_cons_zero, List.set_cons_succ]
                        refine wpAnyH_ready (rs := [9]) (by kernel_rfl) (by simp) ?_
                        refine AllReadyH.cons (o := ⟨_, _, _, _, _, _⟩) rfl (fun KK hK => ?b60n0) AllReadyH.nil
                        case b60n0 =>
                          go_simp
                          refine hK.out _ _ trivial (fun hHn => ?_)
                          clear hK KK hHn
                          try simp only [Act.put, List.setIfInBounds_toArray, List.set_cons_zero, List.set_cons_succ]
                          refine wpAnyH_done (by kernel_rfl) (NoPanic.normal ?_) _
                          clear zc zf hst
                          go_wp2
                          go_roundw
                          case rel => exact ⟨k + 1, _, _, by omega, by go_num, HM.out, HKN.out, HN.out⟩
                          case measure => simp [intOf]; omega
                case b54n1 =>
                  obtain ⟨y1, hy1⟩ : ∃ u, y0.alloc (.cells (madeCells #[Value.int .i64 0] l.length) 3) = u := ⟨_, rfl⟩
                  have HR2 : y1.rowIs y0.heap.size 3 l.length (fun _ => .int .i64 0) := by rw [← hy1]; exact World.rowIs_made _ _ _ _
                  have lE2 : wr.heap.size ≤ y0.heap.size := HC0.size
                  have BE : Below y0.heap.size y0 y1 := by rw [← hy1]; exact alRg _ _
                  have HC1 : Below wr.heap.size wr y1 := stRg HC0 BE
                  go_simp
                  refine hK.out _ _ trivial (fun hHn => ?_)
                  clear hK KK hHn
                  try simp only [Act.put, List.setIfInBounds_toArray, List.set_cons_zero, List.set_cons_succ]
                  clear hy1 BE
                  refine wpAnyH_take (i := 5) (oi := ⟨_, _, _, _, _, _⟩) (v := ?vt61x5) rfl (by kernel_rfl) (by kernel_rfl) (by kernel_rfl) (fun _ _ _ h => h) (Or.inl ⟨by rfl, ?yt61x5⟩) trivial ?rt61x5
                  case yt61x5 => intro w hSw; clear hSw; go_simp; try with_reducible rfl
                  try simp only [Act.put, List.setIfInBounds_toArray, List.set_cons_zero, List.set_cons_succ]
                  refine wpAnyH_ready (rs := [1, 6]) (by kernel_rfl) (by simp) ?_
                  refine AllReadyH.cons (o := ⟨_, _, _, _, _, _⟩) rfl (fun KK hK => ?b62n0) (AllReadyH.cons (o := ⟨_, _, _, _, _, _⟩) rfl (fun KK hK => ?b62n1) AllReadyH.nil)
                  case b62n0 =>
                    have cL : y1.cell? ⟨gS, 1, none⟩ = some v := celB HC1 hst.c0
                    go_simp
                    refine hK.out _ _ trivial (fun hHn => ?_)
                    clear hK KK hHn
                    try simp only [Act.put, List.setIfInBounds_toArray, List.set_cons_zero, List.set_cons_succ]
                    clear cL
                    refine wpAnyH_ready (rs := [6]) (by kernel_rfl) (by simp) ?_
                    refine AllReadyH.cons (o := ⟨_, _, _, _, _, _⟩) rfl (fun KK hK => ?b63n0) AllReadyH.nil
                    case b63n0 =>
                      obtain ⟨y2, hy2⟩ : ∃ u, y1.alloc (.cells #[.bool false, .int .i64 0, .slice none 0 0, .slice (some ⟨y0.heap.size, 0, none⟩) l.length l.length] 67) = u := ⟨_, rfl⟩
                      have HD2 : y2.heap[y1.heap.size]? = some (.cells #[.bool false, .int .i64 0, .slice none 0 0, .slice (some ⟨y0.heap.size, 0, none⟩) l.length l.length] 67 (0, 0)) := by rw [← hy2]; exact heap_alloc_new _ _
                      have BE : Below y1.heap.size y1 y2 := by rw [← hy2]; exact alRg _ _
                      have HC2 : Below wr.heap.size wr y2 := stRg HC1 BE
                      replace HR2 := HR2.of_block (BE.block _ HR2.lt)
                      go_simp
                      refine hK.out _ _ trivial (fun hHn => ?_)
                      clear hK KK hHn
                      try simp only [Act.put, List.setIfInBounds_toArray, List.set_cons_zero, List.set_cons_succ]
                      clear hy2 BE
                      refine wpAnyH_ready (rs := [7]) (by kernel_rfl) (by simp) ?_
                      refine AllReadyH.cons (o := ⟨_, _, _, _, _, _⟩) rfl (fun KK hK => ?b64n0) AllReadyH.nil
                      case b64n0 =>
                        have hin := ints_rep HR2
                        have hir : RowI y2 wr.heap.size (some ⟨y0.heap.size, 0, none⟩) (List.replicate l.length (0 : Int)).length := rowI_rep HR2 lE2
                        have hstx := hst.below HC2
                        have HC : Hid (rxC ⟨List.replicate l.length 0, some ⟨y0.heap.size, 0, none⟩, l.length⟩ = [.bool false, .int .i64 0, .slice none 0 0, .slice (some ⟨y0.heap.size, 0, none⟩) l.length l.length]) := by show _ = _; simp [rxC]
                        have HC1' : Hid (∀ u ∈ ([.bool false, .int .i64 0, .slice none 0 0, .slice (some ⟨y0.heap.size, 0, none⟩) l.length l.length] : List Value), u.oneCell' = true) := by show ∀ u ∈ _, _; rw [← HC.out]; exact rxC_one _
                        refine step_append_lies _ (by rfl) _ _ 23 (by rfl) x.heap.size 67 i1 _ 4 64 Try.underlying23 hi1 hy0 hy1 hy2 rfl (by omega) v qs.length (qs.flatMap rxC) (by rfl) hstx.own ⟨y1.heap.size, 0, none⟩ 1 1 [.bool false, .int .i64 0, .slice none 0 0, .slice (some ⟨y0.heap.size, 0, none⟩) l.length l.length] (by rfl) (by rfl) (World.news_of_block (cs := #[.bool false, .int .i64 0, .slice none 0 0, .slice (some ⟨y0.heap.size, 0, none⟩) l.length l.length]) (t := 67) (fr := (0, 0)) HD2) HC1'.out (by omega) (by unfold maxLen; omega) (by omega) (by have := HC2.size; omega) (y2.heap.size) rfl ?_
                        intro g2 cap2 w5 HO2 hgrow2 hat2 hlt2
                        rw [← HC.out] at HO2
                        have HN : Hid (RxSt x.heap.size gS u1 (w5.setCell ⟨gS, 1, none⟩ (.slice (some ⟨g2, 0, none⟩) (qs.length + 1) cap2)) (.slice (some ⟨g2, 0, none⟩) (qs.length + 1) cap2) (.slice (some ⟨gm, 0, none⟩) l.length l.length) (.slice a1 l.length c1) (qs ++ [⟨List.replicate l.length 0, some ⟨y0.heap.size, 0, none⟩, l.length⟩])) := hst.step HC2 hin hir hgrow2 HO2 hat2
                        have HM : Hid ((qs ++ [(⟨List.replicate l.length 0, some ⟨y0.heap.size, 0, none⟩, l.length⟩ : QI)]).map QI.zs = List.replicate (k + 1) (List.replicate l.length 0)) := by show _ = _; rw [List.map_append, HQ.out, List.replicate_succ']; rfl
                        have hvb : ∀ b, v.ownBlock = some b → x.heap.size ≤ b := fun b hb => (hst.own.lt b hb).1
                        have HKN : Hid (∀ b, b < x.heap.size → b ≠ gS → (w5.setCell ⟨gS, 1, none⟩ (.slice (some ⟨g2, 0, none⟩) (qs.length + 1) cap2)).heap[b]? = x.heap[b]?) := fun b hb hne => by
                          rw [Below.heap_setCell _ ⟨gS, _, none⟩ _ b (by simpa using hne), hgrow2.block b (by have := HC2.size; have := hst.Bw; omega) (fun e => by have := hvb b e.symm; omega), HC2.block b (by have := hst.Bw; omega)]
                          exact HKB.out b hb hne
                        have hvS : some gS ≠ v.ownBlock := fun e => by have := (hstx.own.lt gS e.symm).1; omega
                        have zc : w5.cell? ⟨gS, 1, none⟩ = some v := (World.cell?_of_block (a := ⟨gS, 1, none⟩) (hgrow2.block gS (lt_of_cell hstx.c0) hvS)).trans hstx.c0
                        have zf : ∀ o, w5.frozen? ⟨gS, o, none⟩ = false := fun o => (World.frozen?_of_block (a := ⟨gS, o, none⟩) (hgrow2.block gS (lt_of_cell hstx.c0) hvS)).trans (hstx.fr o)
                        refine hK.out _ _ trivial (fun hHn => ?_)
                        clear hK KK hHn
                        try simp only [Act.put, List.setIfInBounds_toArray, List.set_cons_zero, List.set_cons_succ]
                        clear hgrow2 hat2 HR2 HD2 hin hir hstx HO2 hvS hlt2 HC HC1' hvb
                        refine wpAnyH_take (i := 8) (oi := ⟨_, _, _, _, _, _⟩) (v := ?vt65x8) rfl (by kernel_rfl) (by kernel_rfl) (by kernel_rfl) (fun _ _ _ h => h) (Or.inl ⟨by rfl, ?yt65x8⟩) trivial ?rt65x8
                        case yt65x8 => intro w hSw; clear hSw; go_simp; try with_reducible rfl
                        try simp only [Act.put, List.setIfInBounds_toArray, List.set_cons_zero, List.set_cons_succ]
                        refine wpAnyH_ready (rs := [9]) (by kernel_rfl) (by simp) ?_
                        refine AllReadyH.cons (o := ⟨_, _, _, _, _, _⟩) rfl (fun KK hK => ?b66n0) AllReadyH.nil
                        case b66n0 =>
                          go_simp
                          refine hK.out _ _ trivial (fun hHn => ?_)
                          clear hK KK hHn
                          try simp only [Act.put, List.setIfInBounds_toArray, List.set_cons_zero, List.set_cons_succ]
                          refine wpAnyH_done (by kernel_rfl) (NoPanic.normal ?_) _
                          clear zc zf hst
                          go_wp2
                          go_roundw
                          case rel => exact ⟨k + 1, _, _, by omega, by go_num, HM.out, HKN.out, HN.out⟩
                          case measure => simp [intOf]; omega
                  case b62n1 =>
                    obtain ⟨y2, hy2⟩ : ∃ u, y1.alloc (.cells #[.bool false, .int .i64 0, .slice none 0 0, .slice (some ⟨y0.heap.size, 0, none⟩) l.length l.length] 67) = u := ⟨_, rfl⟩
                    have HD2 : y2.heap[y1.heap.size]? = some (.cells #[.bool false, .int .i64 0, .slice none 0 0, .slice (some ⟨y0.heap.size, 0, none⟩) l.length l.length] 67 (0, 0)) := by rw [← hy2]; exact heap_alloc_new _ _
                    have BE : Below y1.heap.size y1 y2 := by rw [← hy2]; exact alRg _ _
                    have HC2 : Below wr.heap.size wr y2 := stRg HC1 BE
                    replace HR2 := HR2.of_block (BE.block _ HR2.lt)
                    go_simp
                    refine hK.out _ _ trivial (fun hHn => ?_)
                    clear hK KK hHn
                    try simp only [Act.put, List.setIfInBounds_toArray, List.set_cons_zero, List.set_cons_succ]
                    clear hy2 BE
                    refine wpAnyH_ready (rs := [1]) (by kernel_rfl) (by simp) ?_
                    refine AllReadyH.cons (o := ⟨_, _, _, _, _, _⟩) rfl (fun KK hK => ?b67n0) AllReadyH.nil
                    case b67n0 =>
                      have cL : y2.cell? ⟨gS, 1, none⟩ = some v := celB HC2 hst.c0
                      go_simp
                      refine hK.out _ _ trivial (fun hHn => ?_)
                      clear hK KK hHn
                      try simp only [Act.put, List.setIfInBounds_toArray, List.set_cons_zero, List.set_cons_succ]
                      clear cL
                      refine wpAnyH_ready (rs := [7]) (by kernel_rfl) (by simp) ?_
                      refine AllReadyH.cons (o := ⟨_, _, _, _, _, _⟩) rfl (fun KK hK => ?b68n0) AllReadyH.nil
                      case b68n0 =>
                        have hin := ints_rep HR2
                        have hir : RowI y2 wr.heap.size (some ⟨y0.heap.size, 0, none⟩) (List.replicate l.length (0 : Int)).length := rowI_rep HR2 lE2
                        have hstx := hst.below HC2
                        have HC : Hid (rxC ⟨List.replicate l.length 0, some ⟨y0.heap.size, 0, none⟩, l.length⟩ = [.bool false, .int .i64 0, .slice none 0 0, .slice (some ⟨y0.heap.size, 0, none⟩) l.length l.length]) := by show _ = _; simp [rxC]
                        have HC1' : Hid (∀ u ∈ ([.bool false, .int .i64 0, .slice none 0 0, .slice (some ⟨y0.heap.size, 0, none⟩) l.length l.length] : List Value), u.oneCell' = true) := by show ∀ u ∈ _, _; rw [← HC.out]; exact rxC_one _
                        refine step_append_lies _ (by rfl) _ _ 23 (by rfl) x.heap.size 67 i1 _ 4 64 Try.underlying23 hi1 hy0 hy1 hy2 rfl (by omega) v qs.length (qs.flatMap rxC) (by rfl) hstx.own ⟨y1.heap.size, 0, none⟩ 1 1 [.bool false, .int .i64 0, .slice none 0 0, .slice (some ⟨y0.heap.size, 0, none⟩) l.length l.length] (by rfl) (by rfl) (World.news_of_block (cs := #[.bool false, .int .i64 0, .slice none 0 0, .slice (some ⟨y0.heap.size, 0, none⟩) l.length l.length]) (t := 67) (fr := (0, 0)) HD2) HC1'.out (by omega) (by unfold maxLen; omega) (by omega) (by have := HC2.size; omega) (y2.heap.size) rfl ?_
                        intro g2 cap2 w5 HO2 hgrow2 hat2 hlt2
                        rw [← HC.out] at HO2
                        have HN : Hid (RxSt x.heap.size gS u1 (w5.setCell ⟨gS, 1, none⟩ (.slice (some ⟨g2, 0, none⟩) (qs.length + 1) cap2)) (.slice (some ⟨g2, 0, none⟩) (qs.length + 1) cap2) (.slice (some ⟨gm, 0, none⟩) l.length l.length) (.slice a1 l.length c1) (qs ++ [⟨List.replicate l.length 0, some ⟨y0.heap.size, 0, none⟩, l.length⟩])) := hst.step HC2 hin hir hgrow2 HO2 hat2
                        have HM : Hid ((qs ++ [(⟨List.replicate l.length 0, some ⟨y0.heap.size, 0, none⟩, l.length⟩ : QI)]).map QI.zs = List.replicate (k + 1) (List.replicate l.length 0)) := by show _ = _; rw [List.map_append, HQ.out, List.replicate_succ']; rfl
                        have hvb : ∀ b, v.ownBlock = some b → x.heap.size ≤ b := fun b hb => (hst.own.lt b hb).1
                        have HKN : Hid (∀ b, b < x.heap.size → b ≠ gS → (w5.setCell ⟨gS, 1, none⟩ (.slice (some ⟨g2, 0, none⟩) (qs.length + 1) cap2)).heap[b]? = x.heap[b]?) := fun b hb hne => by
                          rw [Below.heap_setCell _ ⟨gS, _, none⟩ _ b (by simpa using hne), hgrow2.block b (by have := HC2.size; have := hst.Bw; omega) (fun e => by have := hvb b e.symm; omega), HC2.block b (by have := hst.Bw; omega)]
                          exact HKB.out b hb hne
                        have hvS : some gS ≠ v.ownBlock := fun e => by have := (hstx.own.lt gS e.symm).1; omega
                        have zc : w5.cell? ⟨gS, 1, none⟩ = some v := (World.cell?_of_block (a := ⟨gS, 1, none⟩) (hgrow2.block gS (lt_of_cell hstx.c0) hvS)).trans hstx.c0
                        have zf : ∀ o, w5.frozen? ⟨gS, o, none⟩ = false := fun o => (World.frozen?_of_block (a := ⟨gS, o, none⟩) (hgrow2.block gS (lt_of_cell hstx.c0) hvS)).trans (hstx.fr o)
                        refine hK.out _ _ trivial (fun hHn => ?_)
                        clear hK KK hHn
                        try simp only [Act.put, List.setIfInBounds_toArray, List.set_cons_zero, List.set_cons_succ]
                        clear hgrow2 hat2 HR2 HD2 hin hir hstx HO2 hvS hlt2 HC HC1' hvb
                        refine wpAnyH_take (i := 8) (oi := ⟨_, _, _, _, _, _⟩) (v := ?vt69x8) rfl (by kernel_rfl) (by kernel_rfl) (by kernel_rfl) (fun _ _ _ h => h) (Or.inl ⟨by rfl, ?yt69x8⟩) trivial ?rt69x8
                        case yt69x8 => intro w hSw; clear hSw; go_simp; try with_reducible rfl
                        try simp only [Act.put, List.setIfInBounds_toArray, List.set_cons_zero, List.set_cons_succ]
                        refine wpAnyH_ready (rs := [9]) (by kernel_rfl) (by simp) ?_
                        refine AllReadyH.cons (o := ⟨_, _, _, _, _, _⟩) rfl (fun KK hK => ?b70n0) AllReadyH.nil
                        case b70n0 =>
                          go_simp
                          refine hK.out _ _ trivial (fun hHn => ?_)
                          clear hK KK hHn
                          try simp only [Act.put, List.setIfInBounds_toArray, List.set_cons_zero, List.set_cons_succ]
                          refine wpAnyH_done (by kernel_rfl) (NoPanic.normal ?_) _
                          clear zc zf hst
                          go_wp2
                          go_roundw
                          case rel => exact ⟨k + 1, _, _, by omega, by go_num, HM.out, HKN.out, HN.out⟩
                          case measure => simp [intOf]; omega
              · obtain rfl : k = n := by omega
                obtain ⟨av, cv, ev⟩ := ownsZ_form hst.own
                subst ev
                have gmne : gm ≠ gS := fun e => gm_ne HR HD e
                have HRw : wr.rowIs gm 3 l.length (fun _ => .int .i64 0) := HR.of_block (HKB.out gm K1 gmne)
                have hIV := ints_of_owns HV
                have hVb : ∀ b, InI a1 l.length b → wr.heap[b]? = x.heap[b]? := fun b hb => HKB.out b (hIV.2.lt hb).2 (fun e => row_ne hIV.2 HD hb e)
                have HDn : Hid (RgO wr u1.heap.size ⟨0, (List.replicate k (List.replicate l.length 0)).map rxN, List.replicate l.length 0, l⟩ av (some ⟨gm, 0, none⟩) a1 (fun _ => none) (fun j => (qs.getD j ⟨[], none, 0⟩).a) (fun _ => 0) (fun j => (qs.getD j ⟨[], none, 0⟩).c)) := hst.done HQ.out HB.size (ints_rep HRw) (rowI_rep HRw lM) (hIV.1.of_block hVb) (hIV.2.of_block hVb) (fun b hb => by obtain ⟨-, o, s, e⟩ := hb; simp only [Option.some.injEq, Addr.mk.injEq] at e; omega) (fun b hb => (hIV.2.lt hb).2) (fun b hb hb2 => by obtain ⟨-, o, s, e⟩ := hb; simp only [Option.some.injEq, Addr.mk.injEq] at e; exact hne b hb2 e.1.symm)
                have e1 := hst.c0
                have e0 := hst.e0
                have e2 := hst.e2
                have e3 := hst.e3
                have ef := hst.fr
                have hLq : Hid (((List.replicate k (List.replicate l.length (0 : Int))).map rxN).length = qs.length) := by show _ = _; rw [← HQ.out]; simp
                clear hst HQ hmk hIV hVb HRw
                go_wp2
                have E1 : Ending.returned (.tuple #[.agg #[.int .i64 0, .slice av qs.length cv, .slice (some ⟨gm, 0, none⟩) l.length l.length, .slice a1 l.length c1], .bool true]) = Ending.returned (.tuple #[rgV (newRg (k : Int) l) av cv (some ⟨gm, 0, none⟩) l.length a1 c1, .bool (nrOk (k : Int) l)]) := by rw [HEq.out, HG.out]; simp only [rgV]; rw [hLq.out, List.length_replicate]
                refine bodyPost_ret (v := .tuple #[.agg #[.int .i64 0, .slice av qs.length cv, .slice (some ⟨gm, 0, none⟩) l.length l.length, .slice a1 l.length c1], .bool true]) (by simp [results, Try.results10, go_sem, p0, p1, p2, p3]) rfl ?_
                have E2 : RgR ((((wr.setCell ⟨w.heap.size, 0, none⟩ (.int .i64 0)).setCell ⟨w.heap.size, 1, none⟩ (.slice av qs.length cv)).setCell ⟨w.heap.size, 2, none⟩ (.slice (some ⟨gm, 0, none⟩) l.length l.length)).setCell ⟨w.heap.size, 3, none⟩ (.slice a1 l.length c1)) (newRg (k : Int) l) av (some ⟨gm, 0, none⟩) a1 := by
                  rw [HEq.out]
                  exact (HDn.out.of_block (fun b hb => by have := (HDn.out.lt hb).1; rw [Below.heap_setCell _ ⟨w.heap.size, _, none⟩ _ b (by simp; omega), Below.heap_setCell _ ⟨w.heap.size, _, none⟩ _ b (by simp; omega), Below.heap_setCell _ ⟨w.heap.size, _, none⟩ _ b (by simp; omega), Below.heap_setCell _ ⟨w.heap.size, _, none⟩ _ b (by simp; omega)])).reads (by have := (newRg_small (k : Int) l).1; rw [HEq.out] at this; exact this)
                have E3 := ((((bB.trans (hB.mono (by omega))).setCell (Nat.le_refl _) (.int .i64 0) (p := ⟨w.heap.size, 0, none⟩)).setCell (Nat.le_refl _) (.slice av qs.length cv) (p := ⟨w.heap.size, 1, none⟩)).setCell (Nat.le_refl _) (.slice (some ⟨gm, 0, none⟩) l.length l.length) (p := ⟨w.heap.size, 2, none⟩)).setCell (Nat.le_refl _) (.slice a1 l.length c1) (p := ⟨w.heap.size, 3, none⟩)
                first | exact ⟨av, _, a1, cv, _, c1, E1, E2, E3⟩ | exact ⟨av, _, a1, ⟨cv, _, c1, E1⟩, E2, E3⟩

end Go.Proofs.Ytgiekkipkgdjaaa
