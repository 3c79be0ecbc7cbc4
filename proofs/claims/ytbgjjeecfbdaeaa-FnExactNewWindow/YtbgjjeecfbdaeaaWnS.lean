/-
  A new window, the specification's side: spec.NewWindow. Made by mkwni.py.
-/
import Derived.Test.YtbgjjeecfbdaeaaWnC
import Derived.Deep.RegionHeld3
namespace Go.Proofs.Ytbgjjeecfbdaeaa
open Go.RowKit

def SPartB (P H : Nat) (w : World) (gp cp gl cl : Nat) : Prop := ∃ gw cw g c,
      w.ownsRow P 98 4 (.slice (some ⟨gp, 0, none⟩) 1 cp) 1 [.int .i64 0, .int .i64 0, .int .i64 1, .slice (some ⟨gw, 0, none⟩) 1 cw] ∧
      w.ownsRow P 134 3 (.slice (some ⟨gw, 0, none⟩) 1 cw) 1 [.int .i64 0, .int .i64 1, .int .i64 0] ∧
      w.ownsRow P 78 5 (.slice (some ⟨gl, 0, none⟩) 1 cl) 1 [.int .i64 0, .int .i64 0, .int .i64 0, .int .i64 0, .slice (some ⟨g, 0, none⟩) 1 c] ∧
      w.cell? ⟨g, 0, none⟩ = some (.string ⟨#[]⟩) ∧ P ≤ g ∧ gp < H ∧ gw < H ∧ gl < H ∧ g < H
theorem SPart.bound {P : Nat} {w : World} {gp cp gl cl : Nat} (h : SPart P w 0 0 gp cp gl cl) : SPartB P w.heap.size w gp cp gl cl := by
  obtain ⟨gw, cw, g, c, h1, h2, h3, h4, h5⟩ := h
  exact ⟨gw, cw, g, c, h1, h2, h3, h4, h5, (h1.lt gp rfl).2, (h2.lt gw rfl).2, (h3.lt gl rfl).2, lt_of_cell h4⟩
theorem SPartB.toS {P H : Nat} {w : World} {gp cp gl cl : Nat} (h : SPartB P H w gp cp gl cl) : SPart P w 0 0 gp cp gl cl := by
  obtain ⟨gw, cw, g, c, h1, h2, h3, h4, h5, -⟩ := h
  exact ⟨gw, cw, g, c, h1, h2, h3, h4, h5⟩
theorem own_blk {w w' : World} {B g n c : Nat} {e : TypeId} {size : Nat} {xs : List Value} (h : w.ownsRow B e size (.slice (some ⟨g, 0, none⟩) n c) n xs) (hs : w'.heap[g]? = w.heap[g]?) : w'.ownsRow B e size (.slice (some ⟨g, 0, none⟩) n c) n xs := by
  obtain ⟨k1, k2 | ⟨g', cap, cur, hv, hg, hh, r⟩⟩ := h
  · exact ⟨k1, .inl k2⟩
  · have e : g = g' := by simp only [Value.slice.injEq, Option.some.injEq, Addr.mk.injEq, and_true] at hv; exact hv.1
    subst e
    exact ⟨k1, .inr ⟨g, cap, cur, hv, hg, hs.trans hh, r⟩⟩
theorem SPartB.blk {P H : Nat} {w w' : World} {gp cp gl cl : Nat} (h : SPartB P H w gp cp gl cl) (hs : ∀ b, P ≤ b → b < H → w'.heap[b]? = w.heap[b]?) : SPartB P H w' gp cp gl cl := by
  obtain ⟨gw, cw, g, c, h1, h2, h3, h4, h5, h6, h7, h8, h9⟩ := h
  exact ⟨gw, cw, g, c, own_blk h1 (hs gp (h1.lt gp rfl).1 h6), own_blk h2 (hs gw (h2.lt gw rfl).1 h7), own_blk h3 (hs gl (h3.lt gl rfl).1 h8), (World.cell?_of_block (a := ⟨g, 0, none⟩) (hs g h5 h9)).trans h4, h5, h6, h7, h8, h9⟩
theorem SPartB.below {P H : Nat} {w w' : World} {gp cp gl cl : Nat} (h : SPartB P H w gp cp gl cl) (hb : Below w.heap.size w w') (hH : H ≤ w.heap.size) : SPartB P H w' gp cp gl cl := h.blk fun b _ hl => hb.block b (by omega)

set_option maxRecDepth 100000 in
set_option maxHeartbeats 16000000 in
theorem specNewWn_any (a : Option Addr) (c : Nat) (l : List ByteArray) (w : World) (hs : Strs w a l) (hl : l.length ≤ maxLen) :
    Calls Try.prog 6 #[.slice a l.length c] w fun e w' => WnSA w l e w' := by
  obtain ⟨u1, hu1⟩ : ∃ u, (w.alloc (.cells #[.slice none 0 0, .int .i64 0, .slice none 0 0, .slice none 0 0, .slice none 0 0, .slice none 0 0, .slice none 0 0, .int .i64 0] 32)) = u := ⟨_, rfl⟩
  have bB : Below w.heap.size w u1 := by rw [← hu1]; exact al5 _ _
  have hu1s : w.heap.size < u1.heap.size := by rw [← hu1]; simp
  have R8 : ∃ f, u1.rowIs w.heap.size 32 8 f := by
    rw [← hu1]
    exact ⟨fun i => (#[.slice none 0 0, .int .i64 0, .slice none 0 0, .slice none 0 0, .slice none 0 0, .slice none 0 0, .slice none 0 0, .int .i64 0] : Array Value).getD i undef, World.rowIs_alloc w _ _ _ (fun _ hi => getD_get hi)⟩
  have hsu := hs.below bB
  have hml := hl
  unfold maxLen at hml
  go_enter Try.func6, Try.ntmps6
  go_wp2_with fail
  try rw [hu1]
  clear hu1
  go_loop [8] (fun i => ∃ k : Nat, k ≤ l.length ∧ i = .int .i64 k ∧ (l.take k).all shortB = true) (fun i => l.length - (intOf i).toNat)
  case atStart => exact ⟨0, Nat.zero_le _, rfl, rfl⟩
  case round =>
    obtain ⟨k, hk, rfl, ha⟩ := hrel
    have HA : Hid ((l.take k).all shortB = true) := ha
    clear ha
    by_cases hlt : k < l.length
    · obtain ⟨s, hks⟩ := getAt hlt
      obtain ⟨b, off, rfl, hc, hz⟩ := hsu k s hks
      unfold maxLen at hz
      have HK : Hid (l[k]? = some s) := hks
      clear hsu hks
      by_cases hg : s.size ≤ 20
      · go_wp2
        go_round
        case rel => exact ⟨k + 1, by omega, by go_num, all_take_succ HK.out HA.out hg⟩
        case measure => simp [intOf]; omega
      · have g : gT l = false := by unfold gT; rw [all_false HK.out hg, Bool.and_false]
        have HEq : Hid (newWn l = ⟨[], [], [], [], 0⟩ ∧ gT l = false) := ⟨newWn_f g, g⟩
        clear g
        obtain ⟨f8, r8⟩ := R8
        have d0 := r8.cell (i := 0) (by omega)
        have d1 := r8.cell (i := 1) (by omega)
        have d2 := r8.cell (i := 2) (by omega)
        have d3 := r8.cell (i := 3) (by omega)
        have d4 := r8.cell (i := 4) (by omega)
        have d5 := r8.cell (i := 5) (by omega)
        have d6 := r8.cell (i := 6) (by omega)
        have d7 := r8.cell (i := 7) (by omega)
        have fz := fun o => r8.frozen o
        clear r8
        go_wp2
        refine bodyPost_ret (v := .tuple #[.agg #[.slice none 0 0, .int .i64 0, .slice none 0 0, .slice none 0 0, .slice none 0 0, .slice none 0 0, .slice none 0 0, .int .i64 0], .bool false]) (by simp [results, Try.results6, go_sem, d0, d1, d2, d3, d4, d5, d6, d7]) rfl ⟨none, none, none, none, 0, 0, 0, 0, ?_, ?_, ?_⟩
        · rw [HEq.out.1, HEq.out.2]; rfl
        · rw [HEq.out.1]; exact (wn_zero _ 0).reads
        · exact below8 bB (Nat.le_refl _) _ _ _ _ _ _ _ _
    · have hall : l.all shortB = true := by
        have h := HA.out
        rwa [List.take_of_length_le (by omega)] at h
      clear hsu HA
      by_cases h1 : (l.length : Int) ≤ 12
      · have g : gT l = true := by unfold gT; rw [decide_eq_true (by omega : l.length ≤ 12), hall]; rfl
        have HEq : Hid (newWn l = ⟨l, List.replicate l.length false, [prOne 0 0 0 [⟨#[]⟩]], [btOne 0 0 0 [⟨#[]⟩]], 1⟩ ∧ gT l = true) := ⟨newWn_t g, g⟩
        obtain ⟨i0, hi, hz0, hz1, hz2⟩ := infoZ Try.infoString
        obtain ⟨h12, hz20⟩ := gT_t g
        have hmk := run_make_row' (P := Try.prog) 24 4 (.bool false) 1 Try.underlying24 Try.infoBool rfl .i64 .i64 l.length (by omega) (by omega)
        clear g hall
        go_wp2_with fail
        obtain ⟨x0, hx0⟩ : ∃ x, u1.drew = x := ⟨_, rfl⟩
        have HB0 : Below u1.heap.size u1 x0 := by rw [← hx0]; exact (Below.refl _ _).drew
        refine wp_region_noPanic ?_
        refine wp_region_held_drew (S := fun _ => True) (by kernel_rfl) trivial (fun hHn => ?_)
        clear hHn
        try rw [hx0]
        clear hx0
        refine wpAnyH_take (i := 1) (oi := ⟨_, _, _, _, _, _⟩) (v := ?vt19x1) rfl (by kernel_rfl) (by kernel_rfl) (by kernel_rfl) (fun _ _ _ h => h) (Or.inl ⟨by rfl, ?yt19x1⟩) trivial ?rt19x1
        case yt19x1 => intro w hSw; clear hSw; go_simp; try with_reducible rfl
        try simp only [Act.put, List.setIfInBounds_toArray, List.set_cons_zero, List.set_cons_succ]
        refine wpAnyH_take (i := 3) (oi := ⟨_, _, _, _, _, _⟩) (v := ?vt20x3) rfl (by kernel_rfl) (by kernel_rfl) (by kernel_rfl) (fun _ _ _ h => h) (Or.inl ⟨by rfl, ?yt20x3⟩) trivial ?rt20x3
        case yt20x3 => intro w hSw; clear hSw; go_simp; try with_reducible rfl
        try simp only [Act.put, List.setIfInBounds_toArray, List.set_cons_zero, List.set_cons_succ]
        refine wpAnyH_take (i := 4) (oi := ⟨_, _, _, _, _, _⟩) (v := ?vt21x4) rfl (by kernel_rfl) (by kernel_rfl) (by kernel_rfl) (fun _ _ _ h => h) (Or.inl ⟨by rfl, ?yt21x4⟩) trivial ?rt21x4
        case yt21x4 => intro w hSw; clear hSw; go_simp; try with_reducible rfl
        try simp only [Act.put, List.setIfInBounds_toArray, List.set_cons_zero, List.set_cons_succ]
        refine wpAnyH_ready (rs := [0, 5]) (by kernel_rfl) (by simp) ?_
        refine AllReadyH.cons (o := ⟨_, _, _, _, _, _⟩) rfl (fun KK hK => ?b22n0) (AllReadyH.cons (o := ⟨_, _, _, _, _, _⟩) rfl (fun KK hK => ?b22n1) AllReadyH.nil)
        case b22n0 =>
          have lo0 : u1.heap.size ≤ x0.heap.size := HB0.size
          obtain ⟨x1, hxx1⟩ : ∃ u, x0.alloc (.cells #[] 9) = u := ⟨_, rfl⟩
          have BE : Below x0.heap.size x0 x1 := by rw [← hxx1]; exact al5 _ _
          have HE : x1.heap[x0.heap.size]? = some (.cells #[] 9 (0, 0)) := by rw [← hxx1]; exact heap_alloc_new _ _
          have lE : u1.heap.size ≤ x0.heap.size := lo0
          have mE : x0.heap.size < x1.heap.size := by rw [← hxx1]; simp
          have HB1 : Below u1.heap.size u1 x1 := st5 HB0 BE
          have zz1 : x0.heap.size ≤ x1.heap.size := BE.size
          go_simp
          try rw [hxx1]
          refine hK.out _ _ trivial (fun hHn => ?_)
          clear hK KK hHn
          try simp only [Act.put, List.setIfInBounds_toArray, List.set_cons_zero, List.set_cons_succ]
          clear hxx1 BE
          refine wpAnyH_ready (rs := [2, 5]) (by kernel_rfl) (by simp) ?_
          refine AllReadyH.cons (o := ⟨_, _, _, _, _, _⟩) rfl (fun KK hK => ?b23n0) (AllReadyH.cons (o := ⟨_, _, _, _, _, _⟩) rfl (fun KK hK => ?b23n1) AllReadyH.nil)
          case b23n0 =>
            have lo1 : u1.heap.size ≤ x1.heap.size := HB1.size
            refine step_appZ _ (by rfl) _ _ 22 (by rfl) u1.heap.size 9 i0 _ 1 16 Try.underlying22 hi hz0 hz1 hz2 rfl (by decide) (.slice (some ⟨x0.heap.size, 0, none⟩) 0 0) 0 [] (by rfl) (owns_emptyZ HE (by omega)) (.slice a l.length c) l.length (strVals l) (by rfl) (srcZ_strs _ ((hs.below bB).below HB1)) (by unfold maxLen; omega) (by omega) (by have := HB1.size; omega) ?_
            intro v9 x2 HV hgrow hat
            simp only [Nat.zero_add, List.nil_append] at HV
            obtain ⟨a0, c0, rfl⟩ := ownForm HV
            have HB2 : Below u1.heap.size u1 x2 := HB1.grown hgrow (by have := HB1.size; omega) (fun q hq => by simp [Value.ownBlock] at hq; omega)
            have zz2 : x1.heap.size ≤ x2.heap.size := hgrow.size
            clear HE hgrow hat
            refine hK.out _ _ trivial (fun hHn => ?_)
            clear hK KK hHn
            try simp only [Act.put, List.setIfInBounds_toArray, List.set_cons_zero, List.set_cons_succ]
            refine wpAnyH_ready (rs := [5, 6]) (by kernel_rfl) (by simp) ?_
            refine AllReadyH.cons (o := ⟨_, _, _, _, _, _⟩) rfl (fun KK hK => ?b24n0) (AllReadyH.cons (o := ⟨_, _, _, _, _, _⟩) rfl (fun KK hK => ?b24n1) AllReadyH.nil)
            case b24n0 =>
              have lo2 : u1.heap.size ≤ x2.heap.size := HB2.size
              obtain ⟨x3, hxx3⟩ : ∃ u, x2.alloc (.cells (madeCells #[Value.bool false] l.length) 4) = u := ⟨_, rfl⟩
              have BE : Below x2.heap.size x2 x3 := by rw [← hxx3]; exact al5 _ _
              have mR : x2.heap.size < x3.heap.size := by rw [← hxx3]; simp
              replace HV := owns_below HV BE
              have HR : x3.rowIs x2.heap.size 4 l.length (fun _ => .bool false) := by rw [← hxx3]; exact World.rowIs_made _ _ _ _
              have lR : u1.heap.size ≤ x2.heap.size := lo2
              have HB3 : Below u1.heap.size u1 x3 := st5 HB2 BE
              have zz3 : x2.heap.size ≤ x3.heap.size := BE.size
              go_simp
              try rw [hxx3]
              refine hK.out _ _ trivial (fun hHn => ?_)
              clear hK KK hHn
              try simp only [Act.put, List.setIfInBounds_toArray, List.set_cons_zero, List.set_cons_succ]
              clear hxx3 BE
              refine wpAnyH_ready (rs := [6]) (by kernel_rfl) (by simp) ?_
              refine AllReadyH.cons (o := ⟨_, _, _, _, _, _⟩) rfl (fun KK hK => ?b25n0) AllReadyH.nil
              case b25n0 =>
                have lo3 : u1.heap.size ≤ x3.heap.size := HB3.size
                go_simp
                refine (specNewPart_own l5Ask_nil _).mono ?_
                rintro r x4 ⟨gp, cp, gl, cl, rfl, HP, hBk⟩
                replace HV := owns_below HV hBk
                replace HR := HR.of_block (hBk.block _ HR.lt)
                have lP : u1.heap.size ≤ x3.heap.size := lo3
                replace HP := HP.bound
                have HB4 : Below u1.heap.size u1 x4 := st5 HB3 hBk
                have zz4 : x3.heap.size ≤ x4.heap.size := hBk.size
                refine hK.out _ _ trivial (fun hHn => ?_)
                clear hK KK hHn
                try simp only [Act.put, List.setIfInBounds_toArray, List.set_cons_zero, List.set_cons_succ]
                clear hBk
                refine wpAnyH_take (i := 7) (oi := ⟨_, _, _, _, _, _⟩) (v := ?vt26x7) rfl (by kernel_rfl) (by kernel_rfl) (by kernel_rfl) (fun _ _ _ h => h) (Or.inl ⟨by rfl, ?yt26x7⟩) trivial ?rt26x7
                case yt26x7 => intro w hSw; clear hSw; go_simp; try with_reducible rfl
                try simp only [Act.put, List.setIfInBounds_toArray, List.set_cons_zero, List.set_cons_succ]
                refine wpAnyH_ready (rs := [8]) (by kernel_rfl) (by simp) ?_
                refine AllReadyH.cons (o := ⟨_, _, _, _, _, _⟩) rfl (fun KK hK => ?b27n0) AllReadyH.nil
                case b27n0 =>
                  obtain ⟨f8, r8⟩ := R8
                  replace r8 := r8.of_block (HB4.block _ (by omega))
                  have d0 := r8.cell (i := 0) (by omega)
                  have d1 := r8.cell (i := 1) (by omega)
                  have d2 := r8.cell (i := 2) (by omega)
                  have d3 := r8.cell (i := 3) (by omega)
                  have d4 := r8.cell (i := 4) (by omega)
                  have d5 := r8.cell (i := 5) (by omega)
                  have d6 := r8.cell (i := 6) (by omega)
                  have d7 := r8.cell (i := 7) (by omega)
                  have fz := fun o => r8.frozen o
                  clear r8
                  go_simp
                  refine hK.out _ _ trivial (fun hHn => ?_)
                  clear hK KK hHn
                  try simp only [Act.put, List.setIfInBounds_toArray, List.set_cons_zero, List.set_cons_succ]
                  refine wpAnyH_take (i := 9) (oi := ⟨_, _, _, _, _, _⟩) (v := ?vt28x9) rfl (by kernel_rfl) (by kernel_rfl) (by kernel_rfl) (fun _ _ _ h => h) (Or.inl ⟨by rfl, ?yt28x9⟩) trivial ?rt28x9
                  case yt28x9 => intro w hSw; clear hSw; go_simp; try with_reducible rfl
                  try simp only [Act.put, List.setIfInBounds_toArray, List.set_cons_zero, List.set_cons_succ]
                  refine wpAnyH_done (by kernel_rfl) (NoPanic.normal ?_) _
                  have HCL := fun y (hy : ∀ b, b ≠ w.heap.size → y.heap[b]? = x4.heap[b]?) => wn_closeS hu1s HV hz20 HR lR HP.toS lP (y := y) hy
                  have HBF : Below w.heap.size w x4 := st5 bB HB4
                  clear HV HR HP
                  go_wp2
                  refine bodyPost_ret (v := .tuple #[.agg #[.slice a0 l.length c0, .int .i64 0, .slice (some ⟨x2.heap.size, 0, none⟩) l.length l.length, .slice none 0 0, .slice none 0 0, .slice (some ⟨gp, 0, none⟩) 1 cp, .slice (some ⟨gl, 0, none⟩) 1 cl, .int .i64 1], .bool true]) (by simp [results, Try.results6, go_sem, d0, d1, d2, d3, d4, d5, d6, d7]) rfl ⟨a0, some ⟨x2.heap.size, 0, none⟩, some ⟨gp, 0, none⟩, some ⟨gl, 0, none⟩, c0, l.length, cp, cl, ?_, ?_, ?_⟩
                  · rw [HEq.out.1, HEq.out.2]; simp
                  · rw [HEq.out.1]; exact HCL _ (heap8 _ _ _ _ _ _ _ _ _ _)
                  · exact below8 HBF (Nat.le_refl _) _ _ _ _ _ _ _ _
            case b24n1 =>
              have lo2 : u1.heap.size ≤ x2.heap.size := HB2.size
              go_simp
              refine (specNewPart_own l5Ask_nil _).mono ?_
              rintro r x3 ⟨gp, cp, gl, cl, rfl, HP, hBk⟩
              replace HV := owns_below HV hBk
              have lP : u1.heap.size ≤ x2.heap.size := lo2
              replace HP := HP.bound
              have HB3 : Below u1.heap.size u1 x3 := st5 HB2 hBk
              have zz3 : x2.heap.size ≤ x3.heap.size := hBk.size
              refine hK.out _ _ trivial (fun hHn => ?_)
              clear hK KK hHn
              try simp only [Act.put, List.setIfInBounds_toArray, List.set_cons_zero, List.set_cons_succ]
              clear hBk
              refine wpAnyH_ready (rs := [5]) (by kernel_rfl) (by simp) ?_
              refine AllReadyH.cons (o := ⟨_, _, _, _, _, _⟩) rfl (fun KK hK => ?b29n0) AllReadyH.nil
              case b29n0 =>
                have lo3 : u1.heap.size ≤ x3.heap.size := HB3.size
                obtain ⟨x4, hxx4⟩ : ∃ u, x3.alloc (.cells (madeCells #[Value.bool false] l.length) 4) = u := ⟨_, rfl⟩
                have BE : Below x3.heap.size x3 x4 := by rw [← hxx4]; exact al5 _ _
                have mR : x3.heap.size < x4.heap.size := by rw [← hxx4]; simp
                replace HV := owns_below HV BE
                replace HP := HP.below BE (by omega)
                have HR : x4.rowIs x3.heap.size 4 l.length (fun _ => .bool false) := by rw [← hxx4]; exact World.rowIs_made _ _ _ _
                have lR : u1.heap.size ≤ x3.heap.size := lo3
                have HB4 : Below u1.heap.size u1 x4 := st5 HB3 BE
                have zz4 : x3.heap.size ≤ x4.heap.size := BE.size
                go_simp
                try rw [hxx4]
                refine hK.out _ _ trivial (fun hHn => ?_)
                clear hK KK hHn
                try simp only [Act.put, List.setIfInBounds_toArray, List.set_cons_zero, List.set_cons_succ]
                clear hxx4 BE
                refine wpAnyH_take (i := 7) (oi := ⟨_, _, _, _, _, _⟩) (v := ?vt30x7) rfl (by kernel_rfl) (by kernel_rfl) (by kernel_rfl) (fun _ _ _ h => h) (Or.inl ⟨by rfl, ?yt30x7⟩) trivial ?rt30x7
                case yt30x7 => intro w hSw; clear hSw; go_simp; try with_reducible rfl
                try simp only [Act.put, List.setIfInBounds_toArray, List.set_cons_zero, List.set_cons_succ]
                refine wpAnyH_ready (rs := [8]) (by kernel_rfl) (by simp) ?_
                refine AllReadyH.cons (o := ⟨_, _, _, _, _, _⟩) rfl (fun KK hK => ?b31n0) AllReadyH.nil
                case b31n0 =>
                  obtain ⟨f8, r8⟩ := R8
                  replace r8 := r8.of_block (HB4.block _ (by omega))
                  have d0 := r8.cell (i := 0) (by omega)
                  have d1 := r8.cell (i := 1) (by omega)
                  have d2 := r8.cell (i := 2) (by omega)
                  have d3 := r8.cell (i := 3) (by omega)
                  have d4 := r8.cell (i := 4) (by omega)
                  have d5 := r8.cell (i := 5) (by omega)
                  have d6 := r8.cell (i := 6) (by omega)
                  have d7 := r8.cell (i := 7) (by omega)
                  have fz := fun o => r8.frozen o
                  clear r8
                  go_simp
                  refine hK.out _ _ trivial (fun hHn => ?_)
                  clear hK KK hHn
                  try simp only [Act.put, List.setIfInBounds_toArray, List.set_cons_zero, List.set_cons_succ]
                  refine wpAnyH_take (i := 9) (oi := ⟨_, _, _, _, _, _⟩) (v := ?vt32x9) rfl (by kernel_rfl) (by kernel_rfl) (by kernel_rfl) (fun _ _ _ h => h) (Or.inl ⟨by rfl, ?yt32x9⟩) trivial ?rt32x9
                  case yt32x9 => intro w hSw; clear hSw; go_simp; try with_reducible rfl
                  try simp only [Act.put, List.setIfInBounds_toArray, List.set_cons_zero, List.set_cons_succ]
                  refine wpAnyH_done (by kernel_rfl) (NoPanic.normal ?_) _
                  have HCL := fun y (hy : ∀ b, b ≠ w.heap.size → y.heap[b]? = x4.heap[b]?) => wn_closeS hu1s HV hz20 HR lR HP.toS lP (y := y) hy
                  have HBF : Below w.heap.size w x4 := st5 bB HB4
                  clear HV HR HP
                  go_wp2
                  refine bodyPost_ret (v := .tuple #[.agg #[.slice a0 l.length c0, .int .i64 0, .slice (some ⟨x3.heap.size, 0, none⟩) l.length l.length, .slice none 0 0, .slice none 0 0, .slice (some ⟨gp, 0, none⟩) 1 cp, .slice (some ⟨gl, 0, none⟩) 1 cl, .int .i64 1], .bool true]) (by simp [results, Try.results6, go_sem, d0, d1, d2, d3, d4, d5, d6, d7]) rfl ⟨a0, some ⟨x3.heap.size, 0, none⟩, some ⟨gp, 0, none⟩, some ⟨gl, 0, none⟩, c0, l.length, cp, cl, ?_, ?_, ?_⟩
                  · rw [HEq.out.1, HEq.out.2]; simp
                  · rw [HEq.out.1]; exact HCL _ (heap8 _ _ _ _ _ _ _ _ _ _)
                  · exact below8 HBF (Nat.le_refl _) _ _ _ _ _ _ _ _
          case b23n1 =>
            have lo1 : u1.heap.size ≤ x1.heap.size := HB1.size
            obtain ⟨x2, hxx2⟩ : ∃ u, x1.alloc (.cells (madeCells #[Value.bool false] l.length) 4) = u := ⟨_, rfl⟩
            have BE : Below x1.heap.size x1 x2 := by rw [← hxx2]; exact al5 _ _
            have mR : x1.heap.size < x2.heap.size := by rw [← hxx2]; simp
            replace HE := (BE.block _ (Array.getElem?_eq_some_iff.1 HE).1).trans HE
            have HR : x2.rowIs x1.heap.size 4 l.length (fun _ => .bool false) := by rw [← hxx2]; exact World.rowIs_made _ _ _ _
            have lR : u1.heap.size ≤ x1.heap.size := lo1
            have HB2 : Below u1.heap.size u1 x2 := st5 HB1 BE
            have zz2 : x1.heap.size ≤ x2.heap.size := BE.size
            go_simp
            try rw [hxx2]
            refine hK.out _ _ trivial (fun hHn => ?_)
            clear hK KK hHn
            try simp only [Act.put, List.setIfInBounds_toArray, List.set_cons_zero, List.set_cons_succ]
            clear hxx2 BE
            refine wpAnyH_ready (rs := [2]) (by kernel_rfl) (by simp) ?_
            refine AllReadyH.cons (o := ⟨_, _, _, _, _, _⟩) rfl (fun KK hK => ?b33n0) AllReadyH.nil
            case b33n0 =>
              have lo2 : u1.heap.size ≤ x2.heap.size := HB2.size
              refine step_appZ _ (by rfl) _ _ 22 (by rfl) u1.heap.size 9 i0 _ 1 16 Try.underlying22 hi hz0 hz1 hz2 rfl (by decide) (.slice (some ⟨x0.heap.size, 0, none⟩) 0 0) 0 [] (by rfl) (owns_emptyZ HE (by omega)) (.slice a l.length c) l.length (strVals l) (by rfl) (srcZ_strs _ ((hs.below bB).below HB2)) (by unfold maxLen; omega) (by omega) (by have := HB2.size; omega) ?_
              intro v9 x3 HV hgrow hat
              simp only [Nat.zero_add, List.nil_append] at HV
              obtain ⟨a0, c0, rfl⟩ := ownForm HV
              replace HR := HR.of_block (hgrow.block _ HR.lt (fun e => by simp [Value.ownBlock] at e; omega))
              have HB3 : Below u1.heap.size u1 x3 := HB2.grown hgrow (by have := HB2.size; omega) (fun q hq => by simp [Value.ownBlock] at hq; omega)
              have zz3 : x2.heap.size ≤ x3.heap.size := hgrow.size
              clear HE hgrow hat
              refine hK.out _ _ trivial (fun hHn => ?_)
              clear hK KK hHn
              try simp only [Act.put, List.setIfInBounds_toArray, List.set_cons_zero, List.set_cons_succ]
              refine wpAnyH_ready (rs := [6]) (by kernel_rfl) (by simp) ?_
              refine AllReadyH.cons (o := ⟨_, _, _, _, _, _⟩) rfl (fun KK hK => ?b34n0) AllReadyH.nil
              case b34n0 =>
                have lo3 : u1.heap.size ≤ x3.heap.size := HB3.size
                go_simp
                refine (specNewPart_own l5Ask_nil _).mono ?_
                rintro r x4 ⟨gp, cp, gl, cl, rfl, HP, hBk⟩
                replace HV := owns_below HV hBk
                replace HR := HR.of_block (hBk.block _ HR.lt)
                have lP : u1.heap.size ≤ x3.heap.size := lo3
                replace HP := HP.bound
                have HB4 : Below u1.heap.size u1 x4 := st5 HB3 hBk
                have zz4 : x3.heap.size ≤ x4.heap.size := hBk.size
                refine hK.out _ _ trivial (fun hHn => ?_)
                clear hK KK hHn
                try simp only [Act.put, List.setIfInBounds_toArray, List.set_cons_zero, List.set_cons_succ]
                clear hBk
                refine wpAnyH_take (i := 7) (oi := ⟨_, _, _, _, _, _⟩) (v := ?vt35x7) rfl (by kernel_rfl) (by kernel_rfl) (by kernel_rfl) (fun _ _ _ h => h) (Or.inl ⟨by rfl, ?yt35x7⟩) trivial ?rt35x7
                case yt35x7 => intro w hSw; clear hSw; go_simp; try with_reducible rfl
                try simp only [Act.put, List.setIfInBounds_toArray, List.set_cons_zero, List.set_cons_succ]
                refine wpAnyH_ready (rs := [8]) (by kernel_rfl) (by simp) ?_
                refine AllReadyH.cons (o := ⟨_, _, _, _, _, _⟩) rfl (fun KK hK => ?b36n0) AllReadyH.nil
                case b36n0 =>
                  obtain ⟨f8, r8⟩ := R8
                  replace r8 := r8.of_block (HB4.block _ (by omega))
                  have d0 := r8.cell (i := 0) (by omega)
                  have d1 := r8.cell (i := 1) (by omega)
                  have d2 := r8.cell (i := 2) (by omega)
                  have d3 := r8.cell (i := 3) (by omega)
                  have d4 := r8.cell (i := 4) (by omega)
                  have d5 := r8.cell (i := 5) (by omega)
                  have d6 := r8.cell (i := 6) (by omega)
                  have d7 := r8.cell (i := 7) (by omega)
                  have fz := fun o => r8.frozen o
                  clear r8
                  go_simp
                  refine hK.out _ _ trivial (fun hHn => ?_)
                  clear hK KK hHn
                  try simp only [Act.put, List.setIfInBounds_toArray, List.set_cons_zero, List.set_cons_succ]
                  refine wpAnyH_take (i := 9) (oi := ⟨_, _, _, _, _, _⟩) (v := ?vt37x9) rfl (by kernel_rfl) (by kernel_rfl) (by kernel_rfl) (fun _ _ _ h => h) (Or.inl ⟨by rfl, ?yt37x9⟩) trivial ?rt37x9
                  case yt37x9 => intro w hSw; clear hSw; go_simp; try with_reducible rfl
                  try simp only [Act.put, List.setIfInBounds_toArray, List.set_cons_zero, List.set_cons_succ]
                  refine wpAnyH_done (by kernel_rfl) (NoPanic.normal ?_) _
                  have HCL := fun y (hy : ∀ b, b ≠ w.heap.size → y.heap[b]? = x4.heap[b]?) => wn_closeS hu1s HV hz20 HR lR HP.toS lP (y := y) hy
                  have HBF : Below w.heap.size w x4 := st5 bB HB4
                  clear HV HR HP
                  go_wp2
                  refine bodyPost_ret (v := .tuple #[.agg #[.slice a0 l.length c0, .int .i64 0, .slice (some ⟨x1.heap.size, 0, none⟩) l.length l.length, .slice none 0 0, .slice none 0 0, .slice (some ⟨gp, 0, none⟩) 1 cp, .slice (some ⟨gl, 0, none⟩) 1 cl, .int .i64 1], .bool true]) (by simp [results, Try.results6, go_sem, d0, d1, d2, d3, d4, d5, d6, d7]) rfl ⟨a0, some ⟨x1.heap.size, 0, none⟩, some ⟨gp, 0, none⟩, some ⟨gl, 0, none⟩, c0, l.length, cp, cl, ?_, ?_, ?_⟩
                  · rw [HEq.out.1, HEq.out.2]; simp
                  · rw [HEq.out.1]; exact HCL _ (heap8 _ _ _ _ _ _ _ _ _ _)
                  · exact below8 HBF (Nat.le_refl _) _ _ _ _ _ _ _ _
        case b22n1 =>
          have lo0 : u1.heap.size ≤ x0.heap.size := HB0.size
          obtain ⟨x1, hxx1⟩ : ∃ u, x0.alloc (.cells (madeCells #[Value.bool false] l.length) 4) = u := ⟨_, rfl⟩
          have BE : Below x0.heap.size x0 x1 := by rw [← hxx1]; exact al5 _ _
          have mR : x0.heap.size < x1.heap.size := by rw [← hxx1]; simp
          have HR : x1.rowIs x0.heap.size 4 l.length (fun _ => .bool false) := by rw [← hxx1]; exact World.rowIs_made _ _ _ _
          have lR : u1.heap.size ≤ x0.heap.size := lo0
          have HB1 : Below u1.heap.size u1 x1 := st5 HB0 BE
          have zz1 : x0.heap.size ≤ x1.heap.size := BE.size
          go_simp
          try rw [hxx1]
          refine hK.out _ _ trivial (fun hHn => ?_)
          clear hK KK hHn
          try simp only [Act.put, List.setIfInBounds_toArray, List.set_cons_zero, List.set_cons_succ]
          clear hxx1 BE
          refine wpAnyH_ready (rs := [0]) (by kernel_rfl) (by simp) ?_
          refine AllReadyH.cons (o := ⟨_, _, _, _, _, _⟩) rfl (fun KK hK => ?b38n0) AllReadyH.nil
          case b38n0 =>
            have lo1 : u1.heap.size ≤ x1.heap.size := HB1.size
            obtain ⟨x2, hxx2⟩ : ∃ u, x1.alloc (.cells #[] 9) = u := ⟨_, rfl⟩
            have BE : Below x1.heap.size x1 x2 := by rw [← hxx2]; exact al5 _ _
            replace HR := HR.of_block (BE.block _ HR.lt)
            have HE : x2.heap[x1.heap.size]? = some (.cells #[] 9 (0, 0)) := by rw [← hxx2]; exact heap_alloc_new _ _
            have lE : u1.heap.size ≤ x1.heap.size := lo1
            have mE : x1.heap.size < x2.heap.size := by rw [← hxx2]; simp
            have HB2 : Below u1.heap.size u1 x2 := st5 HB1 BE
            have zz2 : x1.heap.size ≤ x2.heap.size := BE.size
            go_simp
            try rw [hxx2]
            refine hK.out _ _ trivial (fun hHn => ?_)
            clear hK KK hHn
            try simp only [Act.put, List.setIfInBounds_toArray, List.set_cons_zero, List.set_cons_succ]
            clear hxx2 BE
            refine wpAnyH_ready (rs := [2]) (by kernel_rfl) (by simp) ?_
            refine AllReadyH.cons (o := ⟨_, _, _, _, _, _⟩) rfl (fun KK hK => ?b39n0) AllReadyH.nil
            case b39n0 =>
              have lo2 : u1.heap.size ≤ x2.heap.size := HB2.size
              refine step_appZ _ (by rfl) _ _ 22 (by rfl) u1.heap.size 9 i0 _ 1 16 Try.underlying22 hi hz0 hz1 hz2 rfl (by decide) (.slice (some ⟨x1.heap.size, 0, none⟩) 0 0) 0 [] (by rfl) (owns_emptyZ HE (by omega)) (.slice a l.length c) l.length (strVals l) (by rfl) (srcZ_strs _ ((hs.below bB).below HB2)) (by unfold maxLen; omega) (by omega) (by have := HB2.size; omega) ?_
              intro v9 x3 HV hgrow hat
              simp only [Nat.zero_add, List.nil_append] at HV
              obtain ⟨a0, c0, rfl⟩ := ownForm HV
              replace HR := HR.of_block (hgrow.block _ HR.lt (fun e => by simp [Value.ownBlock] at e; omega))
              have HB3 : Below u1.heap.size u1 x3 := HB2.grown hgrow (by have := HB2.size; omega) (fun q hq => by simp [Value.ownBlock] at hq; omega)
              have zz3 : x2.heap.size ≤ x3.heap.size := hgrow.size
              clear HE hgrow hat
              refine hK.out _ _ trivial (fun hHn => ?_)
              clear hK KK hHn
              try simp only [Act.put, List.setIfInBounds_toArray, List.set_cons_zero, List.set_cons_succ]
              refine wpAnyH_ready (rs := [6]) (by kernel_rfl) (by simp) ?_
              refine AllReadyH.cons (o := ⟨_, _, _, _, _, _⟩) rfl (fun KK hK => ?b40n0) AllReadyH.nil
              case b40n0 =>
                have lo3 : u1.heap.size ≤ x3.heap.size := HB3.size
                go_simp
                refine (specNewPart_own l5Ask_nil _).mono ?_
                rintro r x4 ⟨gp, cp, gl, cl, rfl, HP, hBk⟩
                replace HV := owns_below HV hBk
                replace HR := HR.of_block (hBk.block _ HR.lt)
                have lP : u1.heap.size ≤ x3.heap.size := lo3
                replace HP := HP.bound
                have HB4 : Below u1.heap.size u1 x4 := st5 HB3 hBk
                have zz4 : x3.heap.size ≤ x4.heap.size := hBk.size
                refine hK.out _ _ trivial (fun hHn => ?_)
                clear hK KK hHn
                try simp only [Act.put, List.setIfInBounds_toArray, List.set_cons_zero, List.set_cons_succ]
                clear hBk
                refine wpAnyH_take (i := 7) (oi := ⟨_, _, _, _, _, _⟩) (v := ?vt41x7) rfl (by kernel_rfl) (by kernel_rfl) (by kernel_rfl) (fun _ _ _ h => h) (Or.inl ⟨by rfl, ?yt41x7⟩) trivial ?rt41x7
                case yt41x7 => intro w hSw; clear hSw; go_simp; try with_reducible rfl
                try simp only [Act.put, List.setIfInBounds_toArray, List.set_cons_zero, List.set_cons_succ]
                refine wpAnyH_ready (rs := [8]) (by kernel_rfl) (by simp) ?_
                refine AllReadyH.cons (o := ⟨_, _, _, _, _, _⟩) rfl (fun KK hK => ?b42n0) AllReadyH.nil
                case b42n0 =>
                  obtain ⟨f8, r8⟩ := R8
                  replace r8 := r8.of_block (HB4.block _ (by omega))
                  have d0 := r8.cell (i := 0) (by omega)
                  have d1 := r8.cell (i := 1) (by omega)
                  have d2 := r8.cell (i := 2) (by omega)
                  have d3 := r8.cell (i := 3) (by omega)
                  have d4 := r8.cell (i := 4) (by omega)
                  have d5 := r8.cell (i := 5) (by omega)
                  have d6 := r8.cell (i := 6) (by omega)
                  have d7 := r8.cell (i := 7) (by omega)
                  have fz := fun o => r8.frozen o
                  clear r8
                  go_simp
                  refine hK.out _ _ trivial (fun hHn => ?_)
                  clear hK KK hHn
                  try simp only [Act.put, List.setIfInBounds_toArray, List.set_cons_zero, List.set_cons_succ]
                  refine wpAnyH_take (i := 9) (oi := ⟨_, _, _, _, _, _⟩) (v := ?vt43x9) rfl (by kernel_rfl) (by kernel_rfl) (by kernel_rfl) (fun _ _ _ h => h) (Or.inl ⟨by rfl, ?yt43x9⟩) trivial ?rt43x9
                  case yt43x9 => intro w hSw; clear hSw; go_simp; try with_reducible rfl
                  try simp only [Act.put, List.setIfInBounds_toArray, List.set_cons_zero, List.set_cons_succ]
                  refine wpAnyH_done (by kernel_rfl) (NoPanic.normal ?_) _
                  have HCL := fun y (hy : ∀ b, b ≠ w.heap.size → y.heap[b]? = x4.heap[b]?) => wn_closeS hu1s HV hz20 HR lR HP.toS lP (y := y) hy
                  have HBF : Below w.heap.size w x4 := st5 bB HB4
                  clear HV HR HP
                  go_wp2
                  refine bodyPost_ret (v := .tuple #[.agg #[.slice a0 l.length c0, .int .i64 0, .slice (some ⟨x0.heap.size, 0, none⟩) l.length l.length, .slice none 0 0, .slice none 0 0, .slice (some ⟨gp, 0, none⟩) 1 cp, .slice (some ⟨gl, 0, none⟩) 1 cl, .int .i64 1], .bool true]) (by simp [results, Try.results6, go_sem, d0, d1, d2, d3, d4, d5, d6, d7]) rfl ⟨a0, some ⟨x0.heap.size, 0, none⟩, some ⟨gp, 0, none⟩, some ⟨gl, 0, none⟩, c0, l.length, cp, cl, ?_, ?_, ?_⟩
                  · rw [HEq.out.1, HEq.out.2]; simp
                  · rw [HEq.out.1]; exact HCL _ (heap8 _ _ _ _ _ _ _ _ _ _)
                  · exact below8 HBF (Nat.le_refl _) _ _ _ _ _ _ _ _
      · have g : gT l = false := by unfold gT; rw [decide_eq_false (by omega : ¬ l.length ≤ 12)]; rfl
        have HEq : Hid (newWn l = ⟨[], [], [], [], 0⟩ ∧ gT l = false) := ⟨newWn_f g, g⟩
        clear g
        obtain ⟨f8, r8⟩ := R8
        have d0 := r8.cell (i := 0) (by omega)
        have d1 := r8.cell (i := 1) (by omega)
        have d2 := r8.cell (i := 2) (by omega)
        have d3 := r8.cell (i := 3) (by omega)
        have d4 := r8.cell (i := 4) (by omega)
        have d5 := r8.cell (i := 5) (by omega)
        have d6 := r8.cell (i := 6) (by omega)
        have d7 := r8.cell (i := 7) (by omega)
        have fz := fun o => r8.frozen o
        clear r8
        go_wp2
        refine bodyPost_ret (v := .tuple #[.agg #[.slice none 0 0, .int .i64 0, .slice none 0 0, .slice none 0 0, .slice none 0 0, .slice none 0 0, .slice none 0 0, .int .i64 0], .bool false]) (by simp [results, Try.results6, go_sem, d0, d1, d2, d3, d4, d5, d6, d7]) rfl ⟨none, none, none, none, 0, 0, 0, 0, ?_, ?_, ?_⟩
        · rw [HEq.out.1, HEq.out.2]; rfl
        · rw [HEq.out.1]; exact (wn_zero _ 0).reads
        · exact below8 bB (Nat.le_refl _) _ _ _ _ _ _ _ _

end Go.Proofs.Ytbgjjeecfbdaeaa
