/-
  New readers, the program's side: impl.NewReaders. Made by mkrgni.py.
-/
import Derived.Test.YtgiekkipkgdjaaaRgNS
import Derived.Test.YtgiekkipkgdjaaaRgI1
namespace Go.Proofs.Ytgiekkipkgdjaaa
open Go.RowKit

theorem RgO.mono {w : World} {B B' : Nat} {s : Rg} {a0 a1 a2 : Option Addr} {r02 r03 : Nat → Option Addr} {k02 k03 : Nat → Nat} (h : RgO w B s a0 a1 a2 r02 r03 k02 k03) (hb : B' ≤ B) : RgO w B' s a0 a1 a2 r02 r03 k02 k03 :=
  ⟨h.rds.mono hb, h.rdsD, h.com, h.comR.mono hb, h.ends, h.endsR.mono hb, h.dj01, h.dj02, h.dj12⟩
theorem ownsZ_low {w : World} {B B' : Nat} {e : TypeId} {size : Nat} {v : Value} {n : Nat} {xs : List Value} (h : w.ownsRow B e size v n xs) (hb : B' ≤ B) : w.ownsRow B' e size v n xs := by
  obtain ⟨h1, h2 | ⟨g, cap, cur, hv, hg, r⟩⟩ := h
  · exact ⟨h1, .inl h2⟩
  · exact ⟨h1, .inr ⟨g, cap, cur, hv, Nat.le_trans hb hg, r⟩⟩

set_option maxRecDepth 100000 in
set_option maxHeartbeats 4000000 in
theorem ownListR_any (a : Option Addr) (c : Nat) (l : List Int) (w : World) (hs : Ints w a l) (hl : l.length ≤ 1000) :
    Calls Try.prog 44 #[.slice a l.length c] w fun e w' => ∃ a' c', e = .returned (.slice a' l.length c') ∧ w'.ownsRow w.heap.size 3 1 (.slice a' l.length c') l.length (zCells l) ∧ Below w.heap.size w w' := by
  obtain ⟨i1, hi1, hy0, hy1, hy2⟩ := infoZ Try.infoInt
  go_enter Try.func44, Try.ntmps44
  go_wp2_with (at_builtin; refine wpList_appZ _ rfl _ _ 22 rfl w.heap.size 3 i1 _ 1 8 Try.underlying22 hi1 hy0 hy1 hy2 rfl (by decide) (.slice none 0 0) 0 [] rfl (World.ownsRow_nil _ _ _ _) (.slice a l.length c) l.length (zCells l) rfl (srcZ_ints _ hs) ?c3 ?c4 ?c5 ?_)
  case c3 => unfold maxLen; omega
  case c4 => omega
  case c5 => omega
  intro v w4 hown hgrow hat
  try simp only [Nat.zero_add, List.nil_append] at hown
  obtain ⟨av, cv, rfl⟩ := ownsZ_form hown
  have B4 : Below w.heap.size w w4 := (Below.refl _ _).grown hgrow (Nat.le_refl _) (fun b hb => by simp [Value.ownBlock] at hb)
  clear hgrow hat
  go_wp2
  refine bodyPost_ret (v := .slice av l.length cv) (by simp [results, Try.results44, go_sem]) rfl ⟨av, cv, rfl, hown, B4⟩

set_option maxRecDepth 100000 in
set_option maxHeartbeats 4000000 in
theorem freshReader_any (n : Nat) (w : World) (hn : n ≤ 6) :
    Calls Try.prog 45 #[.bool false, .int .i64 (n : Int)] w fun e w' => ∃ g, e = .returned (.agg #[.bool false, .int .i64 0, .slice none 0 0, .slice (some ⟨g, 0, none⟩) n n]) ∧ w'.rowIs g 3 n (fun _ => .int .i64 0) ∧ w.heap.size ≤ g ∧ Below w.heap.size w w' := by
  have hmk := run_make_row' (P := Try.prog) 22 3 (.int .i64 0) 8 Try.underlying22 Try.infoInt rfl .i64 .i64 n (by omega) (by omega)
  obtain ⟨u1, hu1⟩ : ∃ u, (w.alloc (.cells #[.bool false, .int .i64 0, .slice none 0 0, .slice none 0 0] 67)) = u := ⟨_, rfl⟩
  have s1 : u1.heap.size = w.heap.size + 1 := by rw [← hu1]; simp
  have bB : Below w.heap.size w u1 := by rw [← hu1]; exact alRg _ _
  have HR0 : (u1.alloc (.cells (madeCells #[Value.int .i64 0] n) 3)).rowIs u1.heap.size 3 n (fun _ => .int .i64 0) := World.rowIs_made _ _ _ _
  obtain ⟨u2, hu2⟩ : ∃ u, (u1.alloc (.cells (madeCells #[Value.int .i64 0] n) 3)) = u := ⟨_, rfl⟩
  have b2 : Below u1.heap.size u1 u2 := by rw [← hu2]; exact alRg _ _
  rw [hu2] at HR0
  have q0 : u2.cell? ⟨w.heap.size, 0, none⟩ = some (.bool false) := celB b2 (by rw [← hu1]; simp [go_sem])
  have q1 : u2.cell? ⟨w.heap.size, 1, none⟩ = some (.int .i64 0) := celB b2 (by rw [← hu1]; simp [go_sem])
  have q2 : u2.cell? ⟨w.heap.size, 2, none⟩ = some (.slice none 0 0) := celB b2 (by rw [← hu1]; simp [go_sem])
  have q3 : u2.cell? ⟨w.heap.size, 3, none⟩ = some (.slice none 0 0) := celB b2 (by rw [← hu1]; simp [go_sem])
  have qf : ∀ o, u2.frozen? ⟨w.heap.size, o, none⟩ = false := fun o => frzB b2 (by omega) (by rw [← hu1]; simp [go_sem])
  have HR : Hid (u2.rowIs u1.heap.size 3 n (fun _ => .int .i64 0)) := HR0
  have hne : u1.heap.size ≠ w.heap.size := by omega
  have HS : Hid (w.heap.size ≤ u1.heap.size) := by show _ ≤ _; omega
  have HB : Hid (Below w.heap.size w u2) := stRg bB b2
  have HNE : Hid (u1.heap.size ≠ w.heap.size) := hne
  clear s1 HR0 bB b2 hne
  go_enter Try.func45, Try.ntmps45
  go_wp2
  refine bodyPost_ret (v := .agg #[.bool false, .int .i64 0, .slice none 0 0, .slice (some ⟨u1.heap.size, 0, none⟩) n n]) (by simp [results, Try.results45, go_sem, q0, q1, q2, q3]) rfl ⟨u1.heap.size, rfl, ?_, HS.out, ?_⟩
  · exact (((HR.out.setOther HNE.out _).setOther HNE.out _).setOther HNE.out _).setOther HNE.out _
  · exact (((HB.out.setCell (Nat.le_refl _) _).setCell (Nat.le_refl _) _).setCell (Nat.le_refl _) _).setCell (Nat.le_refl _) _

theorem nrOk_is (z : Int) (l : List Int) : nrOk z l = (inB z 1 5 && pEnds l) := rfl

set_option maxRecDepth 100000 in
set_option maxHeartbeats 16000000 in
theorem implNewRg_any (z : Int) (a : Option Addr) (c : Nat) (l : List Int) (w : World) (hs : Ints w a l) (hl : l.length ≤ maxLen) :
    Calls Try.prog 12 #[.int .i64 z, .slice a l.length c] w fun e w' => ∃ a0 a1 a2 c0 c1 c2 r02 r03 k02 k03, e = .returned (.tuple #[rgV (newRg z l) a0 c0 a1 c1 a2 c2, .bool (nrOk z l)]) ∧ RgO w' w.heap.size (newRg z l) a0 a1 a2 r02 r03 k02 k03 ∧ Below w.heap.size w w' := by
  obtain ⟨u1, hu1⟩ : ∃ u, (w.alloc (.cells #[.int .i64 0, .slice none 0 0, .slice none 0 0, .slice none 0 0] 25)) = u := ⟨_, rfl⟩
  have bB : Below w.heap.size w u1 := by rw [← hu1]; exact alRg _ _
  have q0 : u1.cell? ⟨w.heap.size, 0, none⟩ = some (.int .i64 0) := by rw [← hu1]; simp [go_sem]
  have q1 : u1.cell? ⟨w.heap.size, 1, none⟩ = some (.slice none 0 0) := by rw [← hu1]; simp [go_sem]
  have q2 : u1.cell? ⟨w.heap.size, 2, none⟩ = some (.slice none 0 0) := by rw [← hu1]; simp [go_sem]
  have q3 : u1.cell? ⟨w.heap.size, 3, none⟩ = some (.slice none 0 0) := by rw [← hu1]; simp [go_sem]
  have qf : ∀ o, u1.frozen? ⟨w.heap.size, o, none⟩ = false := fun o => by rw [← hu1]; simp [go_sem]
  have hS1 : u1.heap.size ≤ w.heap.size + 1 := by rw [← hu1]; simp
  have hS2 : w.heap.size + 1 ≤ u1.heap.size := by rw [← hu1]; simp
  have hsx := hs.below bB
  cases g1 : inB z 1 5 with
  | false =>
    have hbad : nrOk z l = false := by rw [nrOk_is, g1]; rfl
    have HE : Hid (newRg z l = ⟨0, [], [], []⟩ ∧ nrOk z l = false) := ⟨newRg_bad hbad, hbad⟩
    rw [HE.out.2]
    clear hbad
    go_enter Try.func12, Try.ntmps12
    go_wp2_with (first | (go_at_call 42; refine (oneUpTo_c _ _ _ _ g1).mono ?_; rintro e w' ⟨rfl, hw⟩; rw [hw]; clear hw w') | (go_at_call 43; refine (goodPartEnds_c _ _ _ _ _ hsx hl g2).mono ?_; rintro e w' ⟨rfl, hw⟩; rw [hw]; clear hw w'))
    try rw [hu1]
    clear hu1
    refine bodyPost_ret (v := .tuple #[.agg #[.int .i64 0, .slice none 0 0, .slice none 0 0, .slice none 0 0], .bool false]) (by simp [results, Try.results12, go_sem, q0, q1, q2, q3]) rfl ⟨none, none, none, 0, 0, 0, fun _ => none, fun _ => none, fun _ => 0, fun _ => 0, by first | (rw [HE.out.1, HE.out.2]; rfl) | (rw [HE.out.1]; rfl), ?_, ?_⟩
    · rw [HE.out.1]; exact newRg_zero _ _
    · exact (((bB.setCell (Nat.le_refl _) _).setCell (Nat.le_refl _) _).setCell (Nat.le_refl _) _).setCell (Nat.le_refl _) _
  | true =>
    cases g2 : pEnds l with
    | false =>
      have hbad : nrOk z l = false := by rw [nrOk_is, g1, g2]; rfl
      have HE : Hid (newRg z l = ⟨0, [], [], []⟩ ∧ nrOk z l = false) := ⟨newRg_bad hbad, hbad⟩
      rw [HE.out.2]
      clear hbad
      go_enter Try.func12, Try.ntmps12
      go_wp2_with (first | (go_at_call 42; refine (oneUpTo_c _ _ _ _ g1).mono ?_; rintro e w' ⟨rfl, hw⟩; rw [hw]; clear hw w') | (go_at_call 43; refine (goodPartEnds_c _ _ _ _ _ hsx hl g2).mono ?_; rintro e w' ⟨rfl, hw⟩; rw [hw]; clear hw w'))
      try rw [hu1]
      clear hu1
      refine bodyPost_ret (v := .tuple #[.agg #[.int .i64 0, .slice none 0 0, .slice none 0 0, .slice none 0 0], .bool false]) (by simp [results, Try.results12, go_sem, q0, q1, q2, q3]) rfl ⟨none, none, none, 0, 0, 0, fun _ => none, fun _ => none, fun _ => 0, fun _ => 0, by first | (rw [HE.out.1, HE.out.2]; rfl) | (rw [HE.out.1]; rfl), ?_, ?_⟩
      · rw [HE.out.1]; exact newRg_zero _ _
      · exact (((bB.setCell (Nat.le_refl _) _).setCell (Nat.le_refl _) _).setCell (Nat.le_refl _) _).setCell (Nat.le_refl _) _
    | true =>
      have hml := hl
      unfold maxLen at hml
      obtain ⟨i0, hi, hz0, hz1, hz2⟩ := infoZ Try.infoInt
      have h6 : l.length ≤ 6 := by have h9 := g2; simp only [pEnds, Bool.and_eq_true] at h9; have := inB_t.1 h9.1; omega
      have h1k : l.length ≤ 1000 := by omega
      have hmk := run_make_row' (P := Try.prog) 22 3 (.int .i64 0) 8 Try.underlying22 Try.infoInt rfl .i64 .i64 l.length (by omega) (by omega)
      have HG : Hid (nrOk z l = true) := by show _ = _; rw [nrOk_is, g1, g2]; rfl
      go_enter Try.func12, Try.ntmps12
      go_wp2_with (first | (go_at_call 42; refine (oneUpTo_c _ _ _ _ g1).mono ?_; rintro e w' ⟨rfl, hw⟩; rw [hw]; clear hw w') | (go_at_call 43; refine (goodPartEnds_c _ _ _ _ _ hsx hl g2).mono ?_; rintro e w' ⟨rfl, hw⟩; rw [hw]; clear hw w'))
      try rw [hu1]
      clear hu1
      refine' throughR (A := _) (fun key => ?main) ?hkey
      case main =>
        obtain ⟨x0, hx0⟩ : ∃ x, u1.drew = x := ⟨_, rfl⟩
        have HB0 : Below u1.heap.size u1 x0 := by rw [← hx0]; exact (Below.refl _ _).drew
        refine wp_region_noPanic ?_
        refine wp_region_held_drew (S := fun _ => True) (by kernel_rfl) trivial (fun hHn => ?_)
        clear hHn
        rw [hx0]
        clear hx0
        refine wpAnyH_take (i := 0) (oi := ⟨_, _, _, _, _, _⟩) (v := ?vt51x0) rfl (by kernel_rfl) (by kernel_rfl) (by kernel_rfl) (fun _ _ _ h => h) (Or.inl ⟨by rfl, ?yt51x0⟩) trivial ?rt51x0
        case yt51x0 => intro w hSw; clear hSw; go_simp; try with_reducible rfl
        try simp only [Act.put, List.setIfInBounds_toArray, List.set_cons_zero, List.set_cons_succ]
        refine wpAnyH_take (i := 1) (oi := ⟨_, _, _, _, _, _⟩) (v := ?vt52x1) rfl (by kernel_rfl) (by kernel_rfl) (by kernel_rfl) (fun _ _ _ h => h) (Or.inl ⟨by rfl, ?yt52x1⟩) trivial ?rt52x1
        case yt52x1 => intro w hSw; clear hSw; go_simp; try with_reducible rfl
        try simp only [Act.put, List.setIfInBounds_toArray, List.set_cons_zero, List.set_cons_succ]
        refine wpAnyH_take (i := 3) (oi := ⟨_, _, _, _, _, _⟩) (v := ?vt53x3) rfl (by kernel_rfl) (by kernel_rfl) (by kernel_rfl) (fun _ _ _ h => h) (Or.inl ⟨by rfl, ?yt53x3⟩) trivial ?rt53x3
        case yt53x3 => intro w hSw; clear hSw; go_simp; try with_reducible rfl
        try simp only [Act.put, List.setIfInBounds_toArray, List.set_cons_zero, List.set_cons_succ]
        refine wpAnyH_ready (rs := [2, 4, 6]) (by kernel_rfl) (by simp) ?_
        refine AllReadyH.cons (o := ⟨_, _, _, _, _, _⟩) rfl (fun KK hK => ?b54n0) (AllReadyH.cons (o := ⟨_, _, _, _, _, _⟩) rfl (fun KK hK => ?b54n1) (AllReadyH.cons (o := ⟨_, _, _, _, _, _⟩) rfl (fun KK hK => ?b54n2) AllReadyH.nil))
        case b54n0 =>
          obtain ⟨x1, hx1⟩ : ∃ u, x0.alloc (.cells (madeCells #[Value.int .i64 0] l.length) 3) = u := ⟨_, rfl⟩
          have BE : Below x0.heap.size x0 x1 := by rw [← hx1]; exact alRg _ _
          have lM : u1.heap.size ≤ x0.heap.size := HB0.size
          have mM : x0.heap.size < x1.heap.size := by rw [← hx1]; simp
          have HR : x1.rowIs x0.heap.size 3 l.length (fun _ => .int .i64 0) := by rw [← hx1]; exact World.rowIs_made _ _ _ _
          have HB1 : Below u1.heap.size u1 x1 := stRg HB0 BE
          go_simp
          refine hK.out _ _ trivial (fun hHn => ?_)
          clear hK KK hHn
          try simp only [Act.put, List.setIfInBounds_toArray, List.set_cons_zero, List.set_cons_succ]
          clear hx1 BE
          refine wpAnyH_ready (rs := [4, 6]) (by kernel_rfl) (by simp) ?_
          refine AllReadyH.cons (o := ⟨_, _, _, _, _, _⟩) rfl (fun KK hK => ?b55n0) (AllReadyH.cons (o := ⟨_, _, _, _, _, _⟩) rfl (fun KK hK => ?b55n1) AllReadyH.nil)
          case b55n0 =>
            go_simp
            refine (ownListR_any _ _ _ _ ((hs.below bB).below HB1) h1k).mono ?_
            rintro r x2 ⟨a1, c1, rfl, HV0, hBk⟩
            have lA : u1.heap.size ≤ x1.heap.size := HB1.size
            have hne : ∀ b, InI a1 l.length b → b ≠ x0.heap.size := fun b hb e => by have := (ints_of_owns HV0).2.lt hb; omega
            have HV := ownsZ_low HV0 lA
            clear HV0
            replace HR := HR.of_block (hBk.block _ HR.lt)
            have HB2 : Below u1.heap.size u1 x2 := stRg HB1 hBk
            clear hBk lA
            go_wp2_with fail
            refine hK.out _ _ trivial (fun hHn => ?_)
            clear hK KK hHn
            try simp only [Act.put, List.setIfInBounds_toArray, List.set_cons_zero, List.set_cons_succ]
            refine wpAnyH_take (i := 5) (oi := ⟨_, _, _, _, _, _⟩) (v := ?vt56x5) rfl (by kernel_rfl) (by kernel_rfl) (by kernel_rfl) (fun _ _ _ h => h) (Or.inl ⟨by rfl, ?yt56x5⟩) trivial ?rt56x5
            case yt56x5 => intro w hSw; clear hSw; go_simp; try with_reducible rfl
            try simp only [Act.put, List.setIfInBounds_toArray, List.set_cons_zero, List.set_cons_succ]
            refine wpAnyH_ready (rs := [6]) (by kernel_rfl) (by simp) ?_
            refine AllReadyH.cons (o := ⟨_, _, _, _, _, _⟩) rfl (fun KK hK => ?b57n0) AllReadyH.nil
            case b57n0 =>
              obtain ⟨x3, hx3⟩ : ∃ u, x2.alloc (.cells #[.int .i64 0, .slice none 0 0, .slice none 0 0, .slice none 0 0] 25) = u := ⟨_, rfl⟩
              have BE : Below x2.heap.size x2 x3 := by rw [← hx3]; exact alRg _ _
              have lS : u1.heap.size ≤ x2.heap.size := HB2.size
              have mS : x2.heap.size < x3.heap.size := by rw [← hx3]; simp
              replace HR := HR.of_block (BE.block _ HR.lt)
              replace HV := ownsZ_below HV BE
              have HD : x3.heap[x2.heap.size]? = some (.cells #[.int .i64 0, .slice none 0 0, .slice none 0 0, .slice none 0 0] 25 (0, 0)) := by rw [← hx3]; exact heap_alloc_new _ _
              have HB3 : Below u1.heap.size u1 x3 := stRg HB2 BE
              go_simp
              refine hK.out _ _ trivial (fun hHn => ?_)
              clear hK KK hHn
              try simp only [Act.put, List.setIfInBounds_toArray, List.set_cons_zero, List.set_cons_succ]
              clear hx3 BE
              refine wpAnyH_ready (rs := [7]) (by kernel_rfl) (by simp) ?_
              refine AllReadyH.cons (o := ⟨_, _, _, _, _, _⟩) rfl (fun KK hK => ?b58n0) AllReadyH.nil
              case b58n0 =>
                have r0 := cellH (i := 0) HD rfl
                have r1 := cellH (i := 1) HD rfl
                have r2 := cellH (i := 2) HD rfl
                have r3 := cellH (i := 3) HD rfl
                have rf : ∀ o, x3.frozen? ⟨x2.heap.size, o, none⟩ = false := fun o => frzH HD
                go_simp
                refine hK.out _ _ trivial (fun hHn => ?_)
                clear hK KK hHn
                try simp only [Act.put, List.setIfInBounds_toArray, List.set_cons_zero, List.set_cons_succ]
                refine wpAnyH_done (by kernel_rfl) (NoPanic.normal ?_) _
                have K1 := HR.lt
                have K2 := ltH HD
                clear mM mS r0 r1 r2 r3 rf
                generalize x0.heap.size = gm at HR hne lM K1 ⊢
                generalize x2.heap.size = gS at HD lS K2 ⊢
                revert K2; revert K1; revert lS; revert lM; revert HB3; revert hne; revert HV; revert HD; revert HR; revert c1; revert a1; revert gS; revert gm; revert x3
                exact key.out
          case b55n1 =>
            obtain ⟨x2, hx2⟩ : ∃ u, x1.alloc (.cells #[.int .i64 0, .slice none 0 0, .slice none 0 0, .slice none 0 0] 25) = u := ⟨_, rfl⟩
            have BE : Below x1.heap.size x1 x2 := by rw [← hx2]; exact alRg _ _
            have lS : u1.heap.size ≤ x1.heap.size := HB1.size
            have mS : x1.heap.size < x2.heap.size := by rw [← hx2]; simp
            replace HR := HR.of_block (BE.block _ HR.lt)
            have HD : x2.heap[x1.heap.size]? = some (.cells #[.int .i64 0, .slice none 0 0, .slice none 0 0, .slice none 0 0] 25 (0, 0)) := by rw [← hx2]; exact heap_alloc_new _ _
            have HB2 : Below u1.heap.size u1 x2 := stRg HB1 BE
            go_simp
            refine hK.out _ _ trivial (fun hHn => ?_)
            clear hK KK hHn
            try simp only [Act.put, List.setIfInBounds_toArray, List.set_cons_zero, List.set_cons_succ]
            clear hx2 BE
            refine wpAnyH_ready (rs := [4]) (by kernel_rfl) (by simp) ?_
            refine AllReadyH.cons (o := ⟨_, _, _, _, _, _⟩) rfl (fun KK hK => ?b59n0) AllReadyH.nil
            case b59n0 =>
              go_simp
              refine (ownListR_any _ _ _ _ ((hs.below bB).below HB2) h1k).mono ?_
              rintro r x3 ⟨a1, c1, rfl, HV0, hBk⟩
              have lA : u1.heap.size ≤ x2.heap.size := HB2.size
              have hne : ∀ b, InI a1 l.length b → b ≠ x0.heap.size := fun b hb e => by have := (ints_of_owns HV0).2.lt hb; omega
              have HV := ownsZ_low HV0 lA
              clear HV0
              replace HR := HR.of_block (hBk.block _ HR.lt)
              replace HD := (hBk.block _ (ltH HD)).trans HD
              have HB3 : Below u1.heap.size u1 x3 := stRg HB2 hBk
              clear hBk lA
              go_wp2_with fail
              refine hK.out _ _ trivial (fun hHn => ?_)
              clear hK KK hHn
              try simp only [Act.put, List.setIfInBounds_toArray, List.set_cons_zero, List.set_cons_succ]
              refine wpAnyH_take (i := 5) (oi := ⟨_, _, _, _, _, _⟩) (v := ?vt60x5) rfl (by kernel_rfl) (by kernel_rfl) (by kernel_rfl) (fun _ _ _ h => h) (Or.inl ⟨by rfl, ?yt60x5⟩) trivial ?rt60x5
              case yt60x5 => intro w hSw; clear hSw; go_simp; try with_reducible rfl
              try simp only [Act.put, List.setIfInBounds_toArray, List.set_cons_zero, List.set_cons_succ]
              refine wpAnyH_ready (rs := [7]) (by kernel_rfl) (by simp) ?_
              refine AllReadyH.cons (o := ⟨_, _, _, _, _, _⟩) rfl (fun KK hK => ?b61n0) AllReadyH.nil
              case b61n0 =>
                have r0 := cellH (i := 0) HD rfl
                have r1 := cellH (i := 1) HD rfl
                have r2 := cellH (i := 2) HD rfl
                have r3 := cellH (i := 3) HD rfl
                have rf : ∀ o, x3.frozen? ⟨x1.heap.size, o, none⟩ = false := fun o => frzH HD
                go_simp
                refine hK.out _ _ trivial (fun hHn => ?_)
                clear hK KK hHn
                try simp only [Act.put, List.setIfInBounds_toArray, List.set_cons_zero, List.set_cons_succ]
                refine wpAnyH_done (by kernel_rfl) (NoPanic.normal ?_) _
                have K1 := HR.lt
                have K2 := ltH HD
                clear mM mS r0 r1 r2 r3 rf
                generalize x0.heap.size = gm at HR hne lM K1 ⊢
                generalize x1.heap.size = gS at HD lS K2 ⊢
                revert K2; revert K1; revert lS; revert lM; revert HB3; revert hne; revert HV; revert HD; revert HR; revert c1; revert a1; revert gS; revert gm; revert x3
                exact key.out
        case b54n1 =>
          go_simp
          refine (ownListR_any _ _ _ _ ((hs.below bB).below HB0) h1k).mono ?_
          rintro r x1 ⟨a1, c1, rfl, HV0, hBk⟩
          have lA : u1.heap.size ≤ x0.heap.size := HB0.size
          have HV := ownsZ_low HV0 lA
          clear HV0
          have HB1 : Below u1.heap.size u1 x1 := stRg HB0 hBk
          clear hBk lA
          go_wp2_with fail
          refine hK.out _ _ trivial (fun hHn => ?_)
          clear hK KK hHn
          try simp only [Act.put, List.setIfInBounds_toArray, List.set_cons_zero, List.set_cons_succ]
          refine wpAnyH_ready (rs := [2, 6]) (by kernel_rfl) (by simp) ?_
          refine AllReadyH.cons (o := ⟨_, _, _, _, _, _⟩) rfl (fun KK hK => ?b62n0) (AllReadyH.cons (o := ⟨_, _, _, _, _, _⟩) rfl (fun KK hK => ?b62n1) AllReadyH.nil)
          case b62n0 =>
            have hne : ∀ b, InI a1 l.length b → b ≠ x1.heap.size := fun b hb e => by have := (ints_of_owns HV).2.lt hb; omega
            obtain ⟨x2, hx2⟩ : ∃ u, x1.alloc (.cells (madeCells #[Value.int .i64 0] l.length) 3) = u := ⟨_, rfl⟩
            have BE : Below x1.heap.size x1 x2 := by rw [← hx2]; exact alRg _ _
            have lM : u1.heap.size ≤ x1.heap.size := HB1.size
            have mM : x1.heap.size < x2.heap.size := by rw [← hx2]; simp
            replace HV := ownsZ_below HV BE
            have HR : x2.rowIs x1.heap.size 3 l.length (fun _ => .int .i64 0) := by rw [← hx2]; exact World.rowIs_made _ _ _ _
            have HB2 : Below u1.heap.size u1 x2 := stRg HB1 BE
            go_simp
            refine hK.out _ _ trivial (fun hHn => ?_)
            clear hK KK hHn
            try simp only [Act.put, List.setIfInBounds_toArray, List.set_cons_zero, List.set_cons_succ]
            clear hx2 BE
            refine wpAnyH_take (i := 5) (oi := ⟨_, _, _, _, _, _⟩) (v := ?vt63x5) rfl (by kernel_rfl) (by kernel_rfl) (by kernel_rfl) (fun _ _ _ h => h) (Or.inl ⟨by rfl, ?yt63x5⟩) trivial ?rt63x5
            case yt63x5 => intro w hSw; clear hSw; go_simp; try with_reducible rfl
            try simp only [Act.put, List.setIfInBounds_toArray, List.set_cons_zero, List.set_cons_succ]
            refine wpAnyH_ready (rs := [6]) (by kernel_rfl) (by simp) ?_
            refine AllReadyH.cons (o := ⟨_, _, _, _, _, _⟩) rfl (fun KK hK => ?b64n0) AllReadyH.nil
            case b64n0 =>
              obtain ⟨x3, hx3⟩ : ∃ u, x2.alloc (.cells #[.int .i64 0, .slice none 0 0, .slice none 0 0, .slice none 0 0] 25) = u := ⟨_, rfl⟩
              have BE : Below x2.heap.size x2 x3 := by rw [← hx3]; exact alRg _ _
              have lS : u1.heap.size ≤ x2.heap.size := HB2.size
              have mS : x2.heap.size < x3.heap.size := by rw [← hx3]; simp
              replace HR := HR.of_block (BE.block _ HR.lt)
              replace HV := ownsZ_below HV BE
              have HD : x3.heap[x2.heap.size]? = some (.cells #[.int .i64 0, .slice none 0 0, .slice none 0 0, .slice none 0 0] 25 (0, 0)) := by rw [← hx3]; exact heap_alloc_new _ _
              have HB3 : Below u1.heap.size u1 x3 := stRg HB2 BE
              go_simp
              refine hK.out _ _ trivial (fun hHn => ?_)
              clear hK KK hHn
              try simp only [Act.put, List.setIfInBounds_toArray, List.set_cons_zero, List.set_cons_succ]
              clear hx3 BE
              refine wpAnyH_ready (rs := [7]) (by kernel_rfl) (by simp) ?_
              refine AllReadyH.cons (o := ⟨_, _, _, _, _, _⟩) rfl (fun KK hK => ?b65n0) AllReadyH.nil
              case b65n0 =>
                have r0 := cellH (i := 0) HD rfl
                have r1 := cellH (i := 1) HD rfl
                have r2 := cellH (i := 2) HD rfl
                have r3 := cellH (i := 3) HD rfl
                have rf : ∀ o, x3.frozen? ⟨x2.heap.size, o, none⟩ = false := fun o => frzH HD
                go_simp
                refine hK.out _ _ trivial (fun hHn => ?_)
                clear hK KK hHn
                try simp only [Act.put, List.setIfInBounds_toArray, List.set_cons_zero, List.set_cons_succ]
                refine wpAnyH_done (by kernel_rfl) (NoPanic.normal ?_) _
                have K1 := HR.lt
                have K2 := ltH HD
                clear mM mS r0 r1 r2 r3 rf
                generalize x1.heap.size = gm at HR hne lM K1 ⊢
                generalize x2.heap.size = gS at HD lS K2 ⊢
                revert K2; revert K1; revert lS; revert lM; revert HB3; revert hne; revert HV; revert HD; revert HR; revert c1; revert a1; revert gS; revert gm; revert x3
                exact key.out
          case b62n1 =>
            obtain ⟨x2, hx2⟩ : ∃ u, x1.alloc (.cells #[.int .i64 0, .slice none 0 0, .slice none 0 0, .slice none 0 0] 25) = u := ⟨_, rfl⟩
            have BE : Below x1.heap.size x1 x2 := by rw [← hx2]; exact alRg _ _
            have lS : u1.heap.size ≤ x1.heap.size := HB1.size
            have mS : x1.heap.size < x2.heap.size := by rw [← hx2]; simp
            replace HV := ownsZ_below HV BE
            have HD : x2.heap[x1.heap.size]? = some (.cells #[.int .i64 0, .slice none 0 0, .slice none 0 0, .slice none 0 0] 25 (0, 0)) := by rw [← hx2]; exact heap_alloc_new _ _
            have HB2 : Below u1.heap.size u1 x2 := stRg HB1 BE
            go_simp
            refine hK.out _ _ trivial (fun hHn => ?_)
            clear hK KK hHn
            try simp only [Act.put, List.setIfInBounds_toArray, List.set_cons_zero, List.set_cons_succ]
            clear hx2 BE
            refine wpAnyH_ready (rs := [2]) (by kernel_rfl) (by simp) ?_
            refine AllReadyH.cons (o := ⟨_, _, _, _, _, _⟩) rfl (fun KK hK => ?b66n0) AllReadyH.nil
            case b66n0 =>
              have hne : ∀ b, InI a1 l.length b → b ≠ x2.heap.size := fun b hb e => by have := (ints_of_owns HV).2.lt hb; omega
              obtain ⟨x3, hx3⟩ : ∃ u, x2.alloc (.cells (madeCells #[Value.int .i64 0] l.length) 3) = u := ⟨_, rfl⟩
              have BE : Below x2.heap.size x2 x3 := by rw [← hx3]; exact alRg _ _
              have lM : u1.heap.size ≤ x2.heap.size := HB2.size
              have mM : x2.heap.size < x3.heap.size := by rw [← hx3]; simp
              replace HD := (BE.block _ (ltH HD)).trans HD
              replace HV := ownsZ_below HV BE
              have HR : x3.rowIs x2.heap.size 3 l.length (fun _ => .int .i64 0) := by rw [← hx3]; exact World.rowIs_made _ _ _ _
              have HB3 : Below u1.heap.size u1 x3 := stRg HB2 BE
              go_simp
              refine hK.out _ _ trivial (fun hHn => ?_)
              clear hK KK hHn
              try simp only [Act.put, List.setIfInBounds_toArray, List.set_cons_zero, List.set_cons_succ]
              clear hx3 BE
              refine wpAnyH_take (i := 5) (oi := ⟨_, _, _, _, _, _⟩) (v := ?vt67x5) rfl (by kernel_rfl) (by kernel_rfl) (by kernel_rfl) (fun _ _ _ h => h) (Or.inl ⟨by rfl, ?yt67x5⟩) trivial ?rt67x5
              case yt67x5 => intro w hSw; clear hSw; go_simp; try with_reducible rfl
              try simp only [Act.put, List.setIfInBounds_toArray, List.set_cons_zero, List.set_cons_succ]
              refine wpAnyH_ready (rs := [7]) (by kernel_rfl) (by simp) ?_
              refine AllReadyH.cons (o := ⟨_, _, _, _, _, _⟩) rfl (fun KK hK => ?b68n0) AllReadyH.nil
              case b68n0 =>
                have r0 := cellH (i := 0) HD rfl
                have r1 := cellH (i := 1) HD rfl
                have r2 := cellH (i := 2) HD rfl
                have r3 := cellH (i := 3) HD rfl
                have rf : ∀ o, x3.frozen? ⟨x1.heap.size, o, none⟩ = false := fun o => frzH HD
                go_simp
                refine hK.out _ _ trivial (fun hHn => ?_)
                clear hK KK hHn
                try simp only [Act.put, List.setIfInBounds_toArray, List.set_cons_zero, List.set_cons_succ]
                refine wpAnyH_done (by kernel_rfl) (NoPanic.normal ?_) _
                have K1 := HR.lt
                have K2 := ltH HD
                clear mM mS r0 r1 r2 r3 rf
                generalize x2.heap.size = gm at HR hne lM K1 ⊢
                generalize x1.heap.size = gS at HD lS K2 ⊢
                revert K2; revert K1; revert lS; revert lM; revert HB3; revert hne; revert HV; revert HD; revert HR; revert c1; revert a1; revert gS; revert gm; revert x3
                exact key.out
        case b54n2 =>
          obtain ⟨x1, hx1⟩ : ∃ u, x0.alloc (.cells #[.int .i64 0, .slice none 0 0, .slice none 0 0, .slice none 0 0] 25) = u := ⟨_, rfl⟩
          have BE : Below x0.heap.size x0 x1 := by rw [← hx1]; exact alRg _ _
          have lS : u1.heap.size ≤ x0.heap.size := HB0.size
          have mS : x0.heap.size < x1.heap.size := by rw [← hx1]; simp
          have HD : x1.heap[x0.heap.size]? = some (.cells #[.int .i64 0, .slice none 0 0, .slice none 0 0, .slice none 0 0] 25 (0, 0)) := by rw [← hx1]; exact heap_alloc_new _ _
          have HB1 : Below u1.heap.size u1 x1 := stRg HB0 BE
          go_simp
          refine hK.out _ _ trivial (fun hHn => ?_)
          clear hK KK hHn
          try simp only [Act.put, List.setIfInBounds_toArray, List.set_cons_zero, List.set_cons_succ]
          clear hx1 BE
          refine wpAnyH_ready (rs := [2, 4]) (by kernel_rfl) (by simp) ?_
          refine AllReadyH.cons (o := ⟨_, _, _, _, _, _⟩) rfl (fun KK hK => ?b69n0) (AllReadyH.cons (o := ⟨_, _, _, _, _, _⟩) rfl (fun KK hK => ?b69n1) AllReadyH.nil)
          case b69n0 =>
            obtain ⟨x2, hx2⟩ : ∃ u, x1.alloc (.cells (madeCells #[Value.int .i64 0] l.length) 3) = u := ⟨_, rfl⟩
            have BE : Below x1.heap.size x1 x2 := by rw [← hx2]; exact alRg _ _
            have lM : u1.heap.size ≤ x1.heap.size := HB1.size
            have mM : x1.heap.size < x2.heap.size := by rw [← hx2]; simp
            replace HD := (BE.block _ (ltH HD)).trans HD
            have HR : x2.rowIs x1.heap.size 3 l.length (fun _ => .int .i64 0) := by rw [← hx2]; exact World.rowIs_made _ _ _ _
            have HB2 : Below u1.heap.size u1 x2 := stRg HB1 BE
            go_simp
            refine hK.out _ _ trivial (fun hHn => ?_)
            clear hK KK hHn
            try simp only [Act.put, List.setIfInBounds_toArray, List.set_cons_zero, List.set_cons_succ]
            clear hx2 BE
            refine wpAnyH_ready (rs := [4]) (by kernel_rfl) (by simp) ?_
            refine AllReadyH.cons (o := ⟨_, _, _, _, _, _⟩) rfl (fun KK hK => ?b70n0) AllReadyH.nil
            case b70n0 =>
              go_simp
              refine (ownListR_any _ _ _ _ ((hs.below bB).below HB2) h1k).mono ?_
              rintro r x3 ⟨a1, c1, rfl, HV0, hBk⟩
              have lA : u1.heap.size ≤ x2.heap.size := HB2.size
              have hne : ∀ b, InI a1 l.length b → b ≠ x1.heap.size := fun b hb e => by have := (ints_of_owns HV0).2.lt hb; omega
              have HV := ownsZ_low HV0 lA
              clear HV0
              replace HR := HR.of_block (hBk.block _ HR.lt)
              replace HD := (hBk.block _ (ltH HD)).trans HD
              have HB3 : Below u1.heap.size u1 x3 := stRg HB2 hBk
              clear hBk lA
              go_wp2_with fail
              refine hK.out _ _ trivial (fun hHn => ?_)
              clear hK KK hHn
              try simp only [Act.put, List.setIfInBounds_toArray, List.set_cons_zero, List.set_cons_succ]
              refine wpAnyH_take (i := 5) (oi := ⟨_, _, _, _, _, _⟩) (v := ?vt71x5) rfl (by kernel_rfl) (by kernel_rfl) (by kernel_rfl) (fun _ _ _ h => h) (Or.inl ⟨by rfl, ?yt71x5⟩) trivial ?rt71x5
              case yt71x5 => intro w hSw; clear hSw; go_simp; try with_reducible rfl
              try simp only [Act.put, List.setIfInBounds_toArray, List.set_cons_zero, List.set_cons_succ]
              refine wpAnyH_ready (rs := [7]) (by kernel_rfl) (by simp) ?_
              refine AllReadyH.cons (o := ⟨_, _, _, _, _, _⟩) rfl (fun KK hK => ?b72n0) AllReadyH.nil
              case b72n0 =>
                have r0 := cellH (i := 0) HD rfl
                have r1 := cellH (i := 1) HD rfl
                have r2 := cellH (i := 2) HD rfl
                have r3 := cellH (i := 3) HD rfl
                have rf : ∀ o, x3.frozen? ⟨x0.heap.size, o, none⟩ = false := fun o => frzH HD
                go_simp
                refine hK.out _ _ trivial (fun hHn => ?_)
                clear hK KK hHn
                try simp only [Act.put, List.setIfInBounds_toArray, List.set_cons_zero, List.set_cons_succ]
                refine wpAnyH_done (by kernel_rfl) (NoPanic.normal ?_) _
                have K1 := HR.lt
                have K2 := ltH HD
                clear mM mS r0 r1 r2 r3 rf
                generalize x1.heap.size = gm at HR hne lM K1 ⊢
                generalize x0.heap.size = gS at HD lS K2 ⊢
                revert K2; revert K1; revert lS; revert lM; revert HB3; revert hne; revert HV; revert HD; revert HR; revert c1; revert a1; revert gS; revert gm; revert x3
                exact key.out
          case b69n1 =>
            go_simp
            refine (ownListR_any _ _ _ _ ((hs.below bB).below HB1) h1k).mono ?_
            rintro r x2 ⟨a1, c1, rfl, HV0, hBk⟩
            have lA : u1.heap.size ≤ x1.heap.size := HB1.size
            have HV := ownsZ_low HV0 lA
            clear HV0
            replace HD := (hBk.block _ (ltH HD)).trans HD
            have HB2 : Below u1.heap.size u1 x2 := stRg HB1 hBk
            clear hBk lA
            go_wp2_with fail
            refine hK.out _ _ trivial (fun hHn => ?_)
            clear hK KK hHn
            try simp only [Act.put, List.setIfInBounds_toArray, List.set_cons_zero, List.set_cons_succ]
            refine wpAnyH_ready (rs := [2]) (by kernel_rfl) (by simp) ?_
            refine AllReadyH.cons (o := ⟨_, _, _, _, _, _⟩) rfl (fun KK hK => ?b73n0) AllReadyH.nil
            case b73n0 =>
              have hne : ∀ b, InI a1 l.length b → b ≠ x2.heap.size := fun b hb e => by have := (ints_of_owns HV).2.lt hb; omega
              obtain ⟨x3, hx3⟩ : ∃ u, x2.alloc (.cells (madeCells #[Value.int .i64 0] l.length) 3) = u := ⟨_, rfl⟩
              have BE : Below x2.heap.size x2 x3 := by rw [← hx3]; exact alRg _ _
              have lM : u1.heap.size ≤ x2.heap.size := HB2.size
              have mM : x2.heap.size < x3.heap.size := by rw [← hx3]; simp
              replace HD := (BE.block _ (ltH HD)).trans HD
              replace HV := ownsZ_below HV BE
              have HR : x3.rowIs x2.heap.size 3 l.length (fun _ => .int .i64 0) := by rw [← hx3]; exact World.rowIs_made _ _ _ _
              have HB3 : Below u1.heap.size u1 x3 := stRg HB2 BE
              go_simp
              refine hK.out _ _ trivial (fun hHn => ?_)
              clear hK KK hHn
              try simp only [Act.put, List.setIfInBounds_toArray, List.set_cons_zero, List.set_cons_succ]
              clear hx3 BE
              refine wpAnyH_take (i := 5) (oi := ⟨_, _, _, _, _, _⟩) (v := ?vt74x5) rfl (by kernel_rfl) (by kernel_rfl) (by kernel_rfl) (fun _ _ _ h => h) (Or.inl ⟨by rfl, ?yt74x5⟩) trivial ?rt74x5
              case yt74x5 => intro w hSw; clear hSw; go_simp; try with_reducible rfl
              try simp only [Act.put, List.setIfInBounds_toArray, List.set_cons_zero, List.set_cons_succ]
              refine wpAnyH_ready (rs := [7]) (by kernel_rfl) (by simp) ?_
              refine AllReadyH.cons (o := ⟨_, _, _, _, _, _⟩) rfl (fun KK hK => ?b75n0) AllReadyH.nil
              case b75n0 =>
                have r0 := cellH (i := 0) HD rfl
                have r1 := cellH (i := 1) HD rfl
                have r2 := cellH (i := 2) HD rfl
                have r3 := cellH (i := 3) HD rfl
                have rf : ∀ o, x3.frozen? ⟨x0.heap.size, o, none⟩ = false := fun o => frzH HD
                go_simp
                refine hK.out _ _ trivial (fun hHn => ?_)
                clear hK KK hHn
                try simp only [Act.put, List.setIfInBounds_toArray, List.set_cons_zero, List.set_cons_succ]
                refine wpAnyH_done (by kernel_rfl) (NoPanic.normal ?_) _
                have K1 := HR.lt
                have K2 := ltH HD
                clear mM mS r0 r1 r2 r3 rf
                generalize x2.heap.size = gm at HR hne lM K1 ⊢
                generalize x0.heap.size = gS at HD lS K2 ⊢
                revert K2; revert K1; revert lS; revert lM; revert HB3; revert hne; revert HV; revert HD; revert HR; revert c1; revert a1; revert gS; revert gm; revert x3
                exact key.out
      case hkey =>
        intro x gm gS a1 c1 HR HD HV hne HB lM lS K1 K2
        have hr1 := inB_t.1 g1
        obtain ⟨n, rfl⟩ : ∃ n : Nat, z = n := ⟨z.toNat, by omega⟩
        have hn5 : n ≤ 5 := by omega
        have HEq : Hid (newRg (n : Int) l = ⟨0, (List.replicate n (List.replicate l.length 0)).map rxN, List.replicate l.length 0, l⟩) := newRg_good HG.out
        obtain ⟨i1, hi1, hy0, hy1, hy2⟩ := infoZ Try.infoRx
        obtain ⟨y, hy⟩ : ∃ y, (((x.setCell ⟨gS, 0, none⟩ (.int .i64 0)).setCell ⟨gS, 1, none⟩ (.slice none 0 0)).setCell ⟨gS, 2, none⟩ (.slice (some ⟨gm, 0, none⟩) l.length l.length)).setCell ⟨gS, 3, none⟩ (.slice a1 l.length c1) = y := ⟨_, rfl⟩
        rw [hy]
        have r0 := cellH (i := 0) HD rfl
        have r1 := cellH (i := 1) HD rfl
        have r2 := cellH (i := 2) HD rfl
        have r3 := cellH (i := 3) HD rfl
        have rf : ∀ o, x.frozen? ⟨gS, o, none⟩ = false := fun o => frzH HD
        have hyb : ∀ b, b ≠ gS → y.heap[b]? = x.heap[b]? := fun b hb => by rw [← hy, Below.heap_setCell _ ⟨gS, _, none⟩ _ b (by simpa using hb), Below.heap_setCell _ ⟨gS, _, none⟩ _ b (by simpa using hb), Below.heap_setCell _ ⟨gS, _, none⟩ _ b (by simpa using hb), Below.heap_setCell _ ⟨gS, _, none⟩ _ b (by simpa using hb)]
        have hst0 : RxSt x.heap.size gS u1 y (.slice none 0 0) (.slice (some ⟨gm, 0, none⟩) l.length l.length) (.slice a1 l.length c1) [] := ⟨World.ownsRow_nil _ _ _ _, QIn.nil _ _, by rw [← hy]; simp [go_sem, r1], by rw [← hy]; simp [go_sem, r0], by rw [← hy]; simp [go_sem, r2], by rw [← hy]; simp [go_sem, r3], fun o => by rw [← hy]; simp [go_sem, rf], by rw [← hy]; exact (((HB.setCell lS _).setCell lS _).setCell lS _).setCell lS _, K2, lS, by rw [← hy]; simp⟩
        have hKB0 : ∀ b, b < x.heap.size → b ≠ gS → y.heap[b]? = x.heap[b]? := fun b _ hb => hyb b hb
        clear hy hyb r0 r1 r2 r3 rf hr1 g1 g2
        go_wp2
        go_loopw [23] (fun i wr => ∃ (k : Nat) (v : Value) (qs : List QI), k ≤ n ∧ i = .int .i64 k ∧ Hid (qs.map QI.zs = List.replicate k (List.replicate l.length 0)) ∧ Hid (∀ b, b < x.heap.size → b ≠ gS → wr.heap[b]? = x.heap[b]?) ∧ RxSt x.heap.size gS u1 wr v (.slice (some ⟨gm, 0, none⟩) l.length l.length) (.slice a1 l.length c1) qs) (fun i _ => n - (intOf i).toNat)
        case atStart => exact ⟨0, _, [], Nat.zero_le _, rfl, rfl, hKB0, hst0⟩
        case round =>
          clear hst0 hKB0
          obtain ⟨k, v, qs, hk', rfl, HQ, HKB, hst⟩ := hrel
          have hB := hst.bel
          have hlw := hst.Bw
          have p0 := celB hB q0
          have p1 := celB hB q1
          have p2 := celB hB q2
          have p3 := celB hB q3
          have pf : ∀ o, wr.frozen? ⟨w.heap.size, o, none⟩ = false := fun o => frzB hB (by omega) (qf o)
          have hql : qs.length ≤ k := by have h9 := congrArg List.length HQ.out; simp at h9; omega
          by_cases hlt2 : k < n
          · have hki : (k : Int) < (n : Int) := by omega
            go_wp2_with fail
            obtain ⟨y0, hy0'⟩ : ∃ y, wr.drew = y := ⟨_, rfl⟩
            have HC0 : Below wr.heap.size wr y0 := by rw [← hy0']; exact (Below.refl _ _).drew
            refine wp_region_noPanic ?_
            refine wp_region_held_drew (S := fun _ => True) (by kernel_rfl) trivial (fun hHn => ?_)
            clear hHn
            rw [hy0']
            clear hy0'
            refine wpAnyH_take (i := 0) (oi := ⟨_, _, _, _, _, _⟩) (v := ?vt96x0) rfl (by kernel_rfl) (by kernel_rfl) (by kernel_rfl) (fun _ _ _ h => h) (Or.inl ⟨by rfl, ?yt96x0⟩) trivial ?rt96x0
            case yt96x0 => intro w hSw; clear hSw; go_simp; try with_reducible rfl
            try simp only [Act.put, List.setIfInBounds_toArray, List.set_cons_zero, List.set_cons_succ]
            refine wpAnyH_take (i := 2) (oi := ⟨_, _, _, _, _, _⟩) (v := ?vt97x2) rfl (by kernel_rfl) (by kernel_rfl) (by kernel_rfl) (fun _ _ _ h => h) (Or.inl ⟨by rfl, ?yt97x2⟩) trivial ?rt97x2
            case yt97x2 => intro w hSw; clear hSw; go_simp; try with_reducible rfl
            try simp only [Act.put, List.setIfInBounds_toArray, List.set_cons_zero, List.set_cons_succ]
            refine wpAnyH_take (i := 3) (oi := ⟨_, _, _, _, _, _⟩) (v := ?vt98x3) rfl (by kernel_rfl) (by kernel_rfl) (by kernel_rfl) (fun _ _ _ h => h) (Or.inl ⟨by rfl, ?yt98x3⟩) trivial ?rt98x3
            case yt98x3 => intro w hSw; clear hSw; go_simp; try with_reducible rfl
            try simp only [Act.put, List.setIfInBounds_toArray, List.set_cons_zero, List.set_cons_succ]
            refine wpAnyH_ready (rs := [1, 4]) (by kernel_rfl) (by simp) ?_
            refine AllReadyH.cons (o := ⟨_, _, _, _, _, _⟩) rfl (fun KK hK => ?b99n0) (AllReadyH.cons (o := ⟨_, _, _, _, _, _⟩) rfl (fun KK hK => ?b99n1) AllReadyH.nil)
            case b99n0 =>
              have cL : y0.cell? ⟨gS, 1, none⟩ = some v := celB HC0 hst.c0
              go_simp
              refine hK.out _ _ trivial (fun hHn => ?_)
              clear hK KK hHn
              try simp only [Act.put, List.setIfInBounds_toArray, List.set_cons_zero, List.set_cons_succ]
              clear cL
              refine wpAnyH_ready (rs := [4]) (by kernel_rfl) (by simp) ?_
              refine AllReadyH.cons (o := ⟨_, _, _, _, _, _⟩) rfl (fun KK hK => ?b100n0) AllReadyH.nil
              case b100n0 =>
                go_simp
                refine (freshReader_any l.length _ h6).mono ?_
                rintro r y1 ⟨gf, rfl, HR2, lF, hBk⟩
                have lE2 : wr.heap.size ≤ gf := Nat.le_trans HC0.size lF
                have HC1 : Below wr.heap.size wr y1 := stRg HC0 hBk
                clear hBk lF
                go_wp2_with fail
                refine hK.out _ _ trivial (fun hHn => ?_)
                clear hK KK hHn
                try simp only [Act.put, List.setIfInBounds_toArray, List.set_cons_zero, List.set_cons_succ]
                refine wpAnyH_ready (rs := [5]) (by kernel_rfl) (by simp) ?_
                refine AllReadyH.cons (o := ⟨_, _, _, _, _, _⟩) rfl (fun KK hK => ?b101n0) AllReadyH.nil
                case b101n0 =>
                  obtain ⟨y2, hy2⟩ : ∃ u, y1.alloc (.cells #[.bool false, .int .i64 0, .slice none 0 0, .slice (some ⟨gf, 0, none⟩) l.length l.length] 67) = u := ⟨_, rfl⟩
                  have HD2 : y2.heap[y1.heap.size]? = some (.cells #[.bool false, .int .i64 0, .slice none 0 0, .slice (some ⟨gf, 0, none⟩) l.length l.length] 67 (0, 0)) := by rw [← hy2]; exact heap_alloc_new _ _
                  have BE : Below y1.heap.size y1 y2 := by rw [← hy2]; exact alRg _ _
                  have HC2 : Below wr.heap.size wr y2 := stRg HC1 BE
                  replace HR2 := HR2.of_block (BE.block _ HR2.lt)
                  go_simp
                  refine hK.out _ _ trivial (fun hHn => ?_)
                  clear hK KK hHn
                  try simp only [Act.put, List.setIfInBounds_toArray, List.set_cons_zero, List.set_cons_succ]
                  clear hy2 BE
                  refine wpAnyH_ready (rs := [6]) (by kernel_rfl) (by simp) ?_
                  refine AllReadyH.cons (o := ⟨_, _, _, _, _, _⟩) rfl (fun KK hK => ?b102n0) AllReadyH.nil
                  case b102n0 =>
                    have hin := ints_rep HR2
                    have hir : RowI y2 wr.heap.size (some ⟨gf, 0, none⟩) (List.replicate l.length (0 : Int)).length := rowI_rep HR2 lE2
                    have hstx := hst.below HC2
                    have HC : Hid (rxC ⟨List.replicate l.length 0, some ⟨gf, 0, none⟩, l.length⟩ = [.bool false, .int .i64 0, .slice none 0 0, .slice (some ⟨gf, 0, none⟩) l.length l.length]) := by show _ = _; simp [rxC]
                    have HC1' : Hid (∀ u ∈ ([.bool false, .int .i64 0, .slice none 0 0, .slice (some ⟨gf, 0, none⟩) l.length l.length] : List Value), u.oneCell' = true) := by show ∀ u ∈ _, _; rw [← HC.out]; exact rxC_one _
                    refine step_append_lies _ (by rfl) _ _ 23 (by rfl) x.heap.size 67 i1 _ 4 64 Try.underlying23 hi1 hy0 hy1 hy2 rfl (by omega) v qs.length (qs.flatMap rxC) (by rfl) hstx.own ⟨y1.heap.size, 0, none⟩ 1 1 [.bool false, .int .i64 0, .slice none 0 0, .slice (some ⟨gf, 0, none⟩) l.length l.length] (by rfl) (by rfl) (World.news_of_block (cs := #[.bool false, .int .i64 0, .slice none 0 0, .slice (some ⟨gf, 0, none⟩) l.length l.length]) (t := 67) (fr := (0, 0)) HD2) HC1'.out (by omega) (by unfold maxLen; omega) (by omega) (by have := HC2.size; omega) (y2.heap.size) rfl ?_
                    intro g2 cap2 w5 HO2 hgrow2 hat2 hlt2
                    rw [← HC.out] at HO2
                    have HN : Hid (RxSt x.heap.size gS u1 (w5.setCell ⟨gS, 1, none⟩ (.slice (some ⟨g2, 0, none⟩) (qs.length + 1) cap2)) (.slice (some ⟨g2, 0, none⟩) (qs.length + 1) cap2) (.slice (some ⟨gm, 0, none⟩) l.length l.length) (.slice a1 l.length c1) (qs ++ [⟨List.replicate l.length 0, some ⟨gf, 0, none⟩, l.length⟩])) := hst.step HC2 hin hir hgrow2 HO2 hat2
                    have HM : Hid ((qs ++ [(⟨List.replicate l.length 0, some ⟨gf, 0, none⟩, l.length⟩ : QI)]).map QI.zs = List.replicate (k + 1) (List.replicate l.length 0)) := by show _ = _; rw [List.map_append, HQ.out, List.replicate_succ']; rfl
                    have hvb : ∀ b, v.ownBlock = some b → x.heap.size ≤ b := fun b hb => (hst.own.lt b hb).1
                    have HKN : Hid (∀ b, b < x.heap.size → b ≠ gS → (w5.setCell ⟨gS, 1, none⟩ (.slice (some ⟨g2, 0, none⟩) (qs.length + 1) cap2)).heap[b]? = x.heap[b]?) := fun b hb hne => by
                      rw [Below.heap_setCell _ ⟨gS, _, none⟩ _ b (by simpa using hne), hgrow2.block b (by have := HC2.size; have := hst.Bw; omega) (fun e => by have := hvb b e.symm; omega), HC2.block b (by have := hst.Bw; omega)]
                      exact HKB.out b hb hne
                    have hvS : some gS ≠ v.ownBlock := fun e => by have := (hstx.own.lt gS e.symm).1; omega
                    have zc : w5.cell? ⟨gS, 1, none⟩ = some v := (World.cell?_of_block (a := ⟨gS, 1, none⟩) (hgrow2.block gS (lt_of_cell hstx.c0) hvS)).trans hstx.c0
                    have zf : ∀ o, w5.frozen? ⟨gS, o, none⟩ = false := fun o => (World.frozen?_of_block (a := ⟨gS, o, none⟩) (hgrow2.block gS (lt_of_cell hstx.c0) hvS)).trans (hstx.fr o)
                    refine hK.out _ _ trivial (fun hHn => ?_)
                    clear hK KK hHn
                    try simp only [Act.put, List.setIfInBounds_toArray, List.set_cons_zero, List.set_cons_succ]
                    clear hgrow2 hat2 HR2 HD2 hin hir hstx HO2 hvS hlt2 HC HC1' hvb
                    refine wpAnyH_take (i := 7) (oi := ⟨_, _, _, _, _, _⟩) (v := ?vt103x7) rfl (by kernel_rfl) (by kernel_rfl) (by kernel_rfl) (fun _ _ _ h => h) (Or.inl ⟨by rfl, ?yt103x7⟩) trivial ?rt103x7
                    case yt103x7 => intro w hSw; clear hSw; go_simp; try with_reducible rfl
                    try simp only [Act.put, List.setIfInBounds_toArray, List.set_cons_zero, List.set_cons_succ]
                    refine wpAnyH_ready (rs := [8]) (by kernel_rfl) (by simp) ?_
                    refine AllReadyH.cons (o := ⟨_, _, _, _, _, _⟩) rfl (fun KK hK => ?b104n0) AllReadyH.nil
                    case b104n0 =>
                      go_simp
                      refine hK.out _ _ trivial (fun hHn => ?_)
                      clear hK KK hHn
                      try simp only [Act.put, List.setIfInBounds_toArray, List.set_cons_zero, List.set_cons_succ]
                      refine wpAnyH_done (by kernel_rfl) (NoPanic.normal ?_) _
                      clear zc zf hst
                      go_wp2
                      go_roundw
                      case rel => exact ⟨k + 1, _, _, by omega, by go_num, HM.out, HKN.out, HN.out⟩
                      case measure => simp [intOf]; omega
            case b99n1 =>
              go_simp
              refine (freshReader_any l.length _ h6).mono ?_
              rintro r y1 ⟨gf, rfl, HR2, lF, hBk⟩
              have lE2 : wr.heap.size ≤ gf := Nat.le_trans HC0.size lF
              have HC1 : Below wr.heap.size wr y1 := stRg HC0 hBk
              clear hBk lF
              go_wp2_with fail
              refine hK.out _ _ trivial (fun hHn => ?_)
              clear hK KK hHn
              try simp only [Act.put, List.setIfInBounds_toArray, List.set_cons_zero, List.set_cons_succ]
              refine wpAnyH_ready (rs := [1, 5]) (by kernel_rfl) (by simp) ?_
              refine AllReadyH.cons (o := ⟨_, _, _, _, _, _⟩) rfl (fun KK hK => ?b105n0) (AllReadyH.cons (o := ⟨_, _, _, _, _, _⟩) rfl (fun KK hK => ?b105n1) AllReadyH.nil)
              case b105n0 =>
                have cL : y1.cell? ⟨gS, 1, none⟩ = some v := celB HC1 hst.c0
                go_simp
                refine hK.out _ _ trivial (fun hHn => ?_)
                clear hK KK hHn
                try simp only [Act.put, List.setIfInBounds_toArray, List.set_cons_zero, List.set_cons_succ]
                clear cL
                refine wpAnyH_ready (rs := [5]) (by kernel_rfl) (by simp) ?_
                refine AllReadyH.cons (o := ⟨_, _, _, _, _, _⟩) rfl (fun KK hK => ?b106n0) AllReadyH.nil
                case b106n0 =>
                  obtain ⟨y2, hy2⟩ : ∃ u, y1.alloc (.cells #[.bool false, .int .i64 0, .slice none 0 0, .slice (some ⟨gf, 0, none⟩) l.length l.length] 67) = u := ⟨_, rfl⟩
                  have HD2 : y2.heap[y1.heap.size]? = some (.cells #[.bool false, .int .i64 0, .slice none 0 0, .slice (some ⟨gf, 0, none⟩) l.length l.length] 67 (0, 0)) := by rw [← hy2]; exact heap_alloc_new _ _
                  have BE : Below y1.heap.size y1 y2 := by rw [← hy2]; exact alRg _ _
                  have HC2 : Below wr.heap.size wr y2 := stRg HC1 BE
                  replace HR2 := HR2.of_block (BE.block _ HR2.lt)
                  go_simp
                  refine hK.out _ _ trivial (fun hHn => ?_)
                  clear hK KK hHn
                  try simp only [Act.put, List.setIfInBounds_toArray, List.set_cons_zero, List.set_cons_succ]
                  clear hy2 BE
                  refine wpAnyH_ready (rs := [6]) (by kernel_rfl) (by simp) ?_
                  refine AllReadyH.cons (o := ⟨_, _, _, _, _, _⟩) rfl (fun KK hK => ?b107n0) AllReadyH.nil
                  case b107n0 =>
                    have hin := ints_rep HR2
                    have hir : RowI y2 wr.heap.size (some ⟨gf, 0, none⟩) (List.replicate l.length (0 : Int)).length := rowI_rep HR2 lE2
                    have hstx := hst.below HC2
                    have HC : Hid (rxC ⟨List.replicate l.length 0, some ⟨gf, 0, none⟩, l.length⟩ = [.bool false, .int .i64 0, .slice none 0 0, .slice (some ⟨gf, 0, none⟩) l.length l.length]) := by show _ = _; simp [rxC]
                    have HC1' : Hid (∀ u ∈ ([.bool false, .int .i64 0, .slice none 0 0, .slice (some ⟨gf, 0, none⟩) l.length l.length] : List Value), u.oneCell' = true) := by show ∀ u ∈ _, _; rw [← HC.out]; exact rxC_one _
                    refine step_append_lies _ (by rfl) _ _ 23 (by rfl) x.heap.size 67 i1 _ 4 64 Try.underlying23 hi1 hy0 hy1 hy2 rfl (by omega) v qs.length (qs.flatMap rxC) (by rfl) hstx.own ⟨y1.heap.size, 0, none⟩ 1 1 [.bool false, .int .i64 0, .slice none 0 0, .slice (some ⟨gf, 0, none⟩) l.length l.length] (by rfl) (by rfl) (World.news_of_block (cs := #[.bool false, .int .i64 0, .slice none 0 0, .slice (some ⟨gf, 0, none⟩) l.length l.length]) (t := 67) (fr := (0, 0)) HD2) HC1'.out (by omega) (by unfold maxLen; omega) (by omega) (by have := HC2.size; omega) (y2.heap.size) rfl ?_
                    intro g2 cap2 w5 HO2 hgrow2 hat2 hlt2
                    rw [← HC.out] at HO2
                    have HN : Hid (RxSt x.heap.size gS u1 (w5.setCell ⟨gS, 1, none⟩ (.slice (some ⟨g2, 0, none⟩) (qs.length + 1) cap2)) (.slice (some ⟨g2, 0, none⟩) (qs.length + 1) cap2) (.slice (some ⟨gm, 0, none⟩) l.length l.length) (.slice a1 l.length c1) (qs ++ [⟨List.replicate l.length 0, some ⟨gf, 0, none⟩, l.length⟩])) := hst.step HC2 hin hir hgrow2 HO2 hat2
                    have HM : Hid ((qs ++ [(⟨List.replicate l.length 0, some ⟨gf, 0, none⟩, l.length⟩ : QI)]).map QI.zs = List.replicate (k + 1) (List.replicate l.length 0)) := by show _ = _; rw [List.map_append, HQ.out, List.replicate_succ']; rfl
                    have hvb : ∀ b, v.ownBlock = some b → x.heap.size ≤ b := fun b hb => (hst.own.lt b hb).1
                    have HKN : Hid (∀ b, b < x.heap.size → b ≠ gS → (w5.setCell ⟨gS, 1, none⟩ (.slice (some ⟨g2, 0, none⟩) (qs.length + 1) cap2)).heap[b]? = x.heap[b]?) := fun b hb hne => by
                      rw [Below.heap_setCell _ ⟨gS, _, none⟩ _ b (by simpa using hne), hgrow2.block b (by have := HC2.size; have := hst.Bw; omega) (fun e => by have := hvb b e.symm; omega), HC2.block b (by have := hst.Bw; omega)]
                      exact HKB.out b hb hne
                    have hvS : some gS ≠ v.ownBlock := fun e => by have := (hstx.own.lt gS e.symm).1; omega
                    have zc : w5.cell? ⟨gS, 1, none⟩ = some v := (World.cell?_of_block (a := ⟨gS, 1, none⟩) (hgrow2.block gS (lt_of_cell hstx.c0) hvS)).trans hstx.c0
                    have zf : ∀ o, w5.frozen? ⟨gS, o, none⟩ = false := fun o => (World.frozen?_of_block (a := ⟨gS, o, none⟩) (hgrow2.block gS (lt_of_cell hstx.c0) hvS)).trans (hstx.fr o)
                    refine hK.out _ _ trivial (fun hHn => ?_)
                    clear hK KK hHn
                    try simp only [Act.put, List.setIfInBounds_toArray, List.set_cons_zero, List.set_cons_succ]
                    clear hgrow2 hat2 HR2 HD2 hin hir hstx HO2 hvS hlt2 HC HC1' hvb
                    refine wpAnyH_take (i := 7) (oi := ⟨_, _, _, _, _, _⟩) (v := ?vt108x7) rfl (by kernel_rfl) (by kernel_rfl) (by kernel_rfl) (fun _ _ _ h => h) (Or.inl ⟨by rfl, ?yt108x7⟩) trivial ?rt108x7
                    case yt108x7 => intro w hSw; clear hSw; go_simp; try with_reducible rfl
                    try simp only [Act.put, List.setIfInBounds_toArray, List.set_cons_zero, List.set_cons_succ]
                    refine wpAnyH_ready (rs := [8]) (by kernel_rfl) (by simp) ?_
                    refine AllReadyH.cons (o := ⟨_, _, _, _, _, _⟩) rfl (fun KK hK => ?b109n0) AllReadyH.nil
                    case b109n0 =>
                      go_simp
                      refine hK.out _ _ trivial (fun hHn => ?_)
                      clear hK KK hHn
                      try simp only [Act.put, List.setIfInBounds_toArray, List.set_cons_zero, List.set_cons_succ]
                      refine wpAnyH_done (by kernel_rfl) (NoPanic.normal ?_) _
                      clear zc zf hst
                      go_wp2
                      go_roundw
                      case rel => exact ⟨k + 1, _, _, by omega, by go_num, HM.out, HKN.out, HN.out⟩
                      case measure => simp [intOf]; omega
              case b105n1 =>
                obtain ⟨y2, hy2⟩ : ∃ u, y1.alloc (.cells #[.bool false, .int .i64 0, .slice none 0 0, .slice (some ⟨gf, 0, none⟩) l.length l.length] 67) = u := ⟨_, rfl⟩
                have HD2 : y2.heap[y1.heap.size]? = some (.cells #[.bool false, .int .i64 0, .slice none 0 0, .slice (some ⟨gf, 0, none⟩) l.length l.length] 67 (0, 0)) := by rw [← hy2]; exact heap_alloc_new _ _
                have BE : Below y1.heap.size y1 y2 := by rw [← hy2]; exact alRg _ _
                have HC2 : Below wr.heap.size wr y2 := stRg HC1 BE
                replace HR2 := HR2.of_block (BE.block _ HR2.lt)
                go_simp
                refine hK.out _ _ trivial (fun hHn => ?_)
                clear hK KK hHn
                try simp only [Act.put, List.setIfInBounds_toArray, List.set_cons_zero, List.set_cons_succ]
                clear hy2 BE
                refine wpAnyH_ready (rs := [1]) (by kernel_rfl) (by simp) ?_
                refine AllReadyH.cons (o := ⟨_, _, _, _, _, _⟩) rfl (fun KK hK => ?b110n0) AllReadyH.nil
                case b110n0 =>
                  have cL : y2.cell? ⟨gS, 1, none⟩ = some v := celB HC2 hst.c0
                  go_simp
                  refine hK.out _ _ trivial (fun hHn => ?_)
                  clear hK KK hHn
                  try simp only [Act.put, List.setIfInBounds_toArray, List.set_cons_zero, List.set_cons_succ]
                  clear cL
                  refine wpAnyH_ready (rs := [6]) (by kernel_rfl) (by simp) ?_
                  refine AllReadyH.cons (o := ⟨_, _, _, _, _, _⟩) rfl (fun KK hK => ?b111n0) AllReadyH.nil
                  case b111n0 =>
                    have hin := ints_rep HR2
                    have hir : RowI y2 wr.heap.size (some ⟨gf, 0, none⟩) (List.replicate l.length (0 : Int)).length := rowI_rep HR2 lE2
                    have hstx := hst.below HC2
                    have HC : Hid (rxC ⟨List.replicate l.length 0, some ⟨gf, 0, none⟩, l.length⟩ = [.bool false, .int .i64 0, .slice none 0 0, .slice (some ⟨gf, 0, none⟩) l.length l.length]) := by show _ = _; simp [rxC]
                    have HC1' : Hid (∀ u ∈ ([.bool false, .int .i64 0, .slice none 0 0, .slice (some ⟨gf, 0, none⟩) l.length l.length] : List Value), u.oneCell' = true) := by show ∀ u ∈ _, _; rw [← HC.out]; exact rxC_one _
                    refine step_append_lies _ (by rfl) _ _ 23 (by rfl) x.heap.size 67 i1 _ 4 64 Try.underlying23 hi1 hy0 hy1 hy2 rfl (by omega) v qs.length (qs.flatMap rxC) (by rfl) hstx.own ⟨y1.heap.size, 0, none⟩ 1 1 [.bool false, .int .i64 0, .slice none 0 0, .slice (some ⟨gf, 0, none⟩) l.length l.length] (by rfl) (by rfl) (World.news_of_block (cs := #[.bool false, .int .i64 0, .slice none 0 0, .slice (some ⟨gf, 0, none⟩) l.length l.length]) (t := 67) (fr := (0, 0)) HD2) HC1'.out (by omega) (by unfold maxLen; omega) (by omega) (by have := HC2.size; omega) (y2.heap.size) rfl ?_
                    intro g2 cap2 w5 HO2 hgrow2 hat2 hlt2
                    rw [← HC.out] at HO2
                    have HN : Hid (RxSt x.heap.size gS u1 (w5.setCell ⟨gS, 1, none⟩ (.slice (some ⟨g2, 0, none⟩) (qs.length + 1) cap2)) (.slice (some ⟨g2, 0, none⟩) (qs.length + 1) cap2) (.slice (some ⟨gm, 0, none⟩) l.length l.length) (.slice a1 l.length c1) (qs ++ [⟨List.replicate l.length 0, some ⟨gf, 0, none⟩, l.length⟩])) := hst.step HC2 hin hir hgrow2 HO2 hat2
                    have HM : Hid ((qs ++ [(⟨List.replicate l.length 0, some ⟨gf, 0, none⟩, l.length⟩ : QI)]).map QI.zs = List.replicate (k + 1) (List.replicate l.length 0)) := by show _ = _; rw [List.map_append, HQ.out, List.replicate_succ']; rfl
                    have hvb : ∀ b, v.ownBlock = some b → x.heap.size ≤ b := fun b hb => (hst.own.lt b hb).1
                    have HKN : Hid (∀ b, b < x.heap.size → b ≠ gS → (w5.setCell ⟨gS, 1, none⟩ (.slice (some ⟨g2, 0, none⟩) (qs.length + 1) cap2)).heap[b]? = x.heap[b]?) := fun b hb hne => by
                      rw [Below.heap_setCell _ ⟨gS, _, none⟩ _ b (by simpa using hne), hgrow2.block b (by have := HC2.size; have := hst.Bw; omega) (fun e => by have := hvb b e.symm; omega), HC2.block b (by have := hst.Bw; omega)]
                      exact HKB.out b hb hne
                    have hvS : some gS ≠ v.ownBlock := fun e => by have := (hstx.own.lt gS e.symm).1; omega
                    have zc : w5.cell? ⟨gS, 1, none⟩ = some v := (World.cell?_of_block (a := ⟨gS, 1, none⟩) (hgrow2.block gS (lt_of_cell hstx.c0) hvS)).trans hstx.c0
                    have zf : ∀ o, w5.frozen? ⟨gS, o, none⟩ = false := fun o => (World.frozen?_of_block (a := ⟨gS, o, none⟩) (hgrow2.block gS (lt_of_cell hstx.c0) hvS)).trans (hstx.fr o)
                    refine hK.out _ _ trivial (fun hHn => ?_)
                    clear hK KK hHn
                    try simp only [Act.put, List.setIfInBounds_toArray, List.set_cons_zero, List.set_cons_succ]
                    clear hgrow2 hat2 HR2 HD2 hin hir hstx HO2 hvS hlt2 HC HC1' hvb
                    refine wpAnyH_take (i := 7) (oi := ⟨_, _, _, _, _, _⟩) (v := ?vt112x7) rfl (by kernel_rfl) (by kernel_rfl) (by kernel_rfl) (fun _ _ _ h => h) (Or.inl ⟨by rfl, ?yt112x7⟩) trivial ?rt112x7
                    case yt112x7 => intro w hSw; clear hSw; go_simp; try with_reducible rfl
                    try simp only [Act.put, List.setIfInBounds_toArray, List.set_cons_zero, List.set_cons_succ]
                    refine wpAnyH_ready (rs := [8]) (by kernel_rfl) (by simp) ?_
                    refine AllReadyH.cons (o := ⟨_, _, _, _, _, _⟩) rfl (fun KK hK => ?b113n0) AllReadyH.nil
                    case b113n0 =>
                      go_simp
                      refine hK.out _ _ trivial (fun hHn => ?_)
                      clear hK KK hHn
                      try simp only [Act.put, List.setIfInBounds_toArray, List.set_cons_zero, List.set_cons_succ]
                      refine wpAnyH_done (by kernel_rfl) (NoPanic.normal ?_) _
                      clear zc zf hst
                      go_wp2
                      go_roundw
                      case rel => exact ⟨k + 1, _, _, by omega, by go_num, HM.out, HKN.out, HN.out⟩
                      case measure => simp [intOf]; omega
          · obtain rfl : k = n := by omega
            obtain ⟨av, cv, ev⟩ := ownsZ_form hst.own
            subst ev
            have gmne : gm ≠ gS := fun e => gm_ne HR HD e
            have HRw : wr.rowIs gm 3 l.length (fun _ => .int .i64 0) := HR.of_block (HKB.out gm K1 gmne)
            have hIV := ints_of_owns HV
            have hVb : ∀ b, InI a1 l.length b → wr.heap[b]? = x.heap[b]? := fun b hb => HKB.out b (hIV.2.lt hb).2 (fun e => row_ne hIV.2 HD hb e)
            have HDn : Hid (RgO wr u1.heap.size ⟨0, (List.replicate k (List.replicate l.length 0)).map rxN, List.replicate l.length 0, l⟩ av (some ⟨gm, 0, none⟩) a1 (fun _ => none) (fun j => (qs.getD j ⟨[], none, 0⟩).a) (fun _ => 0) (fun j => (qs.getD j ⟨[], none, 0⟩).c)) := hst.done HQ.out HB.size (ints_rep HRw) (rowI_rep HRw lM) (hIV.1.of_block hVb) (hIV.2.of_block hVb) (fun b hb => by obtain ⟨-, o, s, e⟩ := hb; simp only [Option.some.injEq, Addr.mk.injEq] at e; omega) (fun b hb => (hIV.2.lt hb).2) (fun b hb hb2 => by obtain ⟨-, o, s, e⟩ := hb; simp only [Option.some.injEq, Addr.mk.injEq] at e; exact hne b hb2 e.1.symm)
            have e1 := hst.c0
            have e0 := hst.e0
            have e2 := hst.e2
            have e3 := hst.e3
            have ef := hst.fr
            have hLq : Hid (((List.replicate k (List.replicate l.length (0 : Int))).map rxN).length = qs.length) := by show _ = _; rw [← HQ.out]; simp
            clear hst HQ hmk hIV hVb HRw
            go_wp2
            have E1 : Ending.returned (.tuple #[.agg #[.int .i64 0, .slice av qs.length cv, .slice (some ⟨gm, 0, none⟩) l.length l.length, .slice a1 l.length c1], .bool true]) = Ending.returned (.tuple #[rgV (newRg (k : Int) l) av cv (some ⟨gm, 0, none⟩) l.length a1 c1, .bool (nrOk (k : Int) l)]) := by rw [HEq.out, HG.out]; simp only [rgV]; rw [hLq.out, List.length_replicate]
            refine bodyPost_ret (v := .tuple #[.agg #[.int .i64 0, .slice av qs.length cv, .slice (some ⟨gm, 0, none⟩) l.length l.length, .slice a1 l.length c1], .bool true]) (by simp [results, Try.results12, go_sem, p0, p1, p2, p3]) rfl ?_
            have E2 : RgO ((((wr.setCell ⟨w.heap.size, 0, none⟩ (.int .i64 0)).setCell ⟨w.heap.size, 1, none⟩ (.slice av qs.length cv)).setCell ⟨w.heap.size, 2, none⟩ (.slice (some ⟨gm, 0, none⟩) l.length l.length)).setCell ⟨w.heap.size, 3, none⟩ (.slice a1 l.length c1)) w.heap.size (newRg (k : Int) l) av (some ⟨gm, 0, none⟩) a1 (fun _ => none) (fun j => (qs.getD j ⟨[], none, 0⟩).a) (fun _ => 0) (fun j => (qs.getD j ⟨[], none, 0⟩).c) := by
              rw [HEq.out]
              exact (HDn.out.of_block (fun b hb => by have := (HDn.out.lt hb).1; rw [Below.heap_setCell _ ⟨w.heap.size, _, none⟩ _ b (by simp; omega), Below.heap_setCell _ ⟨w.heap.size, _, none⟩ _ b (by simp; omega), Below.heap_setCell _ ⟨w.heap.size, _, none⟩ _ b (by simp; omega), Below.heap_setCell _ ⟨w.heap.size, _, none⟩ _ b (by simp; omega)])).mono (by omega)
            have E3 := ((((bB.trans (hB.mono (by omega))).setCell (Nat.le_refl _) (.int .i64 0) (p := ⟨w.heap.size, 0, none⟩)).setCell (Nat.le_refl _) (.slice av qs.length cv) (p := ⟨w.heap.size, 1, none⟩)).setCell (Nat.le_refl _) (.slice (some ⟨gm, 0, none⟩) l.length l.length) (p := ⟨w.heap.size, 2, none⟩)).setCell (Nat.le_refl _) (.slice a1 l.length c1) (p := ⟨w.heap.size, 3, none⟩)
            first | exact ⟨av, _, a1, cv, _, c1, _, _, _, _, E1, E2, E3⟩ | exact ⟨av, _, a1, ⟨cv, _, c1, E1⟩, _, _, _, _, E2, E3⟩ | (simp only [E1]; exact ⟨av, _, a1, ⟨cv, _, c1, rfl⟩, ⟨_, _, _, _, E2⟩, E3⟩)

end Go.Proofs.Ytgiekkipkgdjaaa
