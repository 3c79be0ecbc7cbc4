/-
  A new window, the program's side: impl.NewWindow. Made by mkwni.py.
-/
import Derived.Test.YtbgjjeecfbdaeaaWnC
import Derived.Deep.RegionHeld3
namespace Go.Proofs.Ytbgjjeecfbdaeaa
open Go.RowKit

set_option maxRecDepth 100000 in
set_option maxHeartbeats 2000000 in
theorem addTexts_12 (a : Option Addr) (c : Nat) (ss : List ByteArray) (w : World) (hs : Strs w a ss) (hl : ss.length ≤ 12) (hz : ∀ s, s ∈ ss → s.size ≤ 20) :
    Calls Try.prog 20 #[.slice none 0 0, .slice a ss.length c] w fun r w' => ∃ v, r = .returned v ∧ TxSt w w' v ss := by
  obtain ⟨i0, hi, hz0, hz1, hz2⟩ := info_parts Try.infoString
  go_enter Try.func20, Try.ntmps20
  go_wp2
  go_loopw [0, 9] (fun v i wr => ∃ k : Nat, k ≤ ss.length ∧ i = .int .i64 (k : Int) ∧ TxSt w wr v (ss.take k)) (fun _ i _ => ss.length - (intOf i).toNat)
  case atStart => exact ⟨0, Nat.zero_le _, rfl, tx_start w⟩
  case round =>
    obtain ⟨k, hk, rfl, hst⟩ := hrel
    by_cases hlt : k < ss.length
    · obtain ⟨s, hks⟩ := getAt hlt
      obtain ⟨b, off, rfl, hc, hm⟩ := (hs.below hst.bel) k s hks
      have hlen : (ss.take k).length = k := by rw [List.length_take]; omega
      have HT : Hid (ss.take (k + 1) = ss.take k ++ [s]) := take_snoc hks
      have hzs : s.size ≤ 100000 := by have := hz s (List.mem_of_getElem? hks); omega
      obtain ⟨xs, hx⟩ : ∃ xs, ss.take k = xs := ⟨_, rfl⟩
      rw [hx] at hst hlen HT
      have hxl : xs.length ≤ 12 := by omega
      clear hlen
      obtain ⟨av, cv, rfl⟩ := ownForm hst.own
      have HST : Hid (TxSt w wr (.slice av xs.length cv) xs) := hst
      clear hs hks hst hx
      go_wp2_with fail
      refine (clone_any _ _ hzs).mono ?_
      rintro e w2 ⟨rfl, hB2⟩
      have hst2 : ∀ o, TxSt w (w2.alloc o) (.slice av xs.length cv) xs := fun o => tx_below (tx_below HST.out hB2) (al5 _ o)
      have hsz : w.heap.size ≤ w2.heap.size := (tx_below HST.out hB2).bel.size
      have HST2 : Hid (∀ o, TxSt w (w2.alloc o) (.slice av xs.length cv) xs) := hst2
      clear hB2 hc HST hst2
      go_wp2_with (at_builtin; refine wpList_append_lies _ rfl _ _ 22 rfl w.heap.size 9 i0 _ 1 16 Try.underlying22 hi hz0 hz1 hz2 rfl (by decide) (.slice av xs.length cv) xs.length (strVals xs) rfl (HST2.out _).own ⟨w2.heap.size, 0, none⟩ 1 1 [.string s] rfl rfl ?c1 ?c2 (by omega) ?c3 ?c4 ?c5 (w2.heap.size + 1) ?c6 ?_)
      case c1 => exact World.news_of_block (cs := #[.string s]) (t := 9) (fr := (0, 0)) (by first | exact (heap_alloc_new w2 _) | simpa using (heap_alloc_new w2 _))
      case c2 => simp [Value.oneCell']
      case c3 => unfold maxLen; omega
      case c4 => omega
      case c5 => simp; omega
      case c6 => simp
      intro g4 cap4 w4 hown4 hgrow hat4 _
      have HS4 : Hid (TxSt w w4 (.slice (some ⟨g4, 0, none⟩) (xs.length + 1) cap4) (xs ++ [s])) := tx_step (HST2.out _) hgrow hown4
      clear hown4 hgrow hat4 HST2
      go_wp2_with fail
      go_roundw
      case rel => exact ⟨k + 1, by omega, by go_num, by rw [HT.out]; exact HS4.out⟩
      case measure => simp [intOf]; omega
    · have e : ss.take k = ss := List.take_of_length_le (by omega)
      rw [e] at hst
      go_wp2
      go_ret
      exact ⟨_, rfl, hst⟩

set_option maxHeartbeats 1000000 in
theorem goodTexts_any (a : Option Addr) (c : Nat) (l : List ByteArray) (w : World) (hs : Strs w a l) (hl : l.length ≤ maxLen) :
    Calls Try.prog 19 #[.slice a l.length c] w fun e w' => e = .returned (.bool (gT l)) ∧ w' = w := by
  have hc := fun (_ : Unit) => hl
  unfold maxLen at hl
  by_cases h1 : (l.length : Int) ≤ 12
  · go_enter Try.func19, Try.ntmps19
    go_wp2_with (go_at_call 54; refine (allShort_any _ _ _ _ hs (hc ())).mono ?_; rintro e w' ⟨rfl, rfl⟩)
    go_ret
    exact ⟨ret_bool (by unfold gT; rw [decide_eq_true (by omega : l.length ≤ 12)]; rfl), rfl⟩
  · go_enter Try.func19, Try.ntmps19
    go_wp2
    go_ret
    exact ⟨ret_bool (by unfold gT; rw [decide_eq_false (by omega : ¬ l.length ≤ 12)]; rfl), rfl⟩

set_option maxRecDepth 100000 in
set_option maxHeartbeats 16000000 in
theorem implNewWn_any (a : Option Addr) (c : Nat) (l : List ByteArray) (w : World) (hs : Strs w a l) (hl : l.length ≤ maxLen) :
    Calls Try.prog 8 #[.slice a l.length c] w fun e w' => ∃ a0 a1 a2 a3 c0 c1 c2 c3, e = .returned (.tuple #[wnV (newWn l) a0 c0 a1 c1 a2 c2 a3 c3, .bool (gT l)]) ∧ WnO w' w.heap.size (newWn l) a0 a1 a2 a3 ∧ Below w.heap.size w w' := by
  obtain ⟨u1, hu1⟩ : ∃ u, (w.alloc (.cells #[.slice none 0 0, .int .i64 0, .slice none 0 0, .slice none 0 0, .slice none 0 0, .slice none 0 0, .slice none 0 0, .int .i64 0] 32)) = u := ⟨_, rfl⟩
  have bB : Below w.heap.size w u1 := by rw [← hu1]; exact al5 _ _
  have hu1s : w.heap.size < u1.heap.size := by rw [← hu1]; simp
  have R8 : ∃ f, u1.rowIs w.heap.size 32 8 f := by
    rw [← hu1]
    exact ⟨fun i => (#[.slice none 0 0, .int .i64 0, .slice none 0 0, .slice none 0 0, .slice none 0 0, .slice none 0 0, .slice none 0 0, .int .i64 0] : Array Value).getD i undef, World.rowIs_alloc w _ _ _ (fun _ hi => getD_get hi)⟩
  cases g : gT l with
  | false =>
    have HEq : Hid (newWn l = ⟨[], [], [], [], 0⟩ ∧ gT l = false) := ⟨newWn_f g, g⟩
    obtain ⟨f8, r8⟩ := R8
    have d0 := r8.cell (i := 0) (by omega)
    have d1 := r8.cell (i := 1) (by omega)
    have d2 := r8.cell (i := 2) (by omega)
    have d3 := r8.cell (i := 3) (by omega)
    have d4 := r8.cell (i := 4) (by omega)
    have d5 := r8.cell (i := 5) (by omega)
    have d6 := r8.cell (i := 6) (by omega)
    have d7 := r8.cell (i := 7) (by omega)
    have fz := fun o => r8.frozen o
    clear r8
    go_enter Try.func8, Try.ntmps8
    go_wp2_with fail
    try rw [hu1]
    clear hu1
    refine (goodTexts_any _ _ _ _ (hs.below bB) hl).mono ?_
    rintro e w' ⟨rfl, hw⟩
    rw [hw]
    clear hw w'
    rw [HEq.out.2]
    clear g
    go_wp2
    refine bodyPost_ret (v := .tuple #[.agg #[.slice none 0 0, .int .i64 0, .slice none 0 0, .slice none 0 0, .slice none 0 0, .slice none 0 0, .slice none 0 0, .int .i64 0], .bool false]) (by simp [results, Try.results8, go_sem, d0, d1, d2, d3, d4, d5, d6, d7]) rfl ⟨none, none, none, none, 0, 0, 0, 0, ?_, ?_, ?_⟩
    · rw [HEq.out.1]; rfl
    · rw [HEq.out.1]; exact wn_zero _ _
    · exact below8 bB (Nat.le_refl _) _ _ _ _ _ _ _ _
  | true =>
    have HEq : Hid (newWn l = ⟨l, List.replicate l.length false, [prOne 0 0 0 [⟨#[]⟩]], [btOne 0 0 0 [⟨#[]⟩]], 1⟩ ∧ gT l = true) := ⟨newWn_t g, g⟩
    obtain ⟨i0, hi, hz0, hz1, hz2⟩ := infoZ Try.infoString
    obtain ⟨h12, hz20⟩ := gT_t g
    have hmk := run_make_row' (P := Try.prog) 24 4 (.bool false) 1 Try.underlying24 Try.infoBool rfl .i64 .i64 l.length (by omega) (by omega)
    go_enter Try.func8, Try.ntmps8
    go_wp2_with fail
    try rw [hu1]
    clear hu1
    refine (goodTexts_any _ _ _ _ (hs.below bB) hl).mono ?_
    rintro e w' ⟨rfl, hw⟩
    rw [hw]
    clear hw w'
    rw [HEq.out.2]
    clear g
    go_wp2_with fail
    obtain ⟨x0, hx0⟩ : ∃ x, u1.drew = x := ⟨_, rfl⟩
    have HB0 : Below u1.heap.size u1 x0 := by rw [← hx0]; exact (Below.refl _ _).drew
    refine wp_region_noPanic ?_
    refine wp_region_held_drew (S := fun _ => True) (by kernel_rfl) trivial (fun hHn => ?_)
    clear hHn
    try rw [hx0]
    clear hx0
    refine wpAnyH_take (i := 0) (oi := ⟨_, _, _, _, _, _⟩) (v := ?vt1x0) rfl (by kernel_rfl) (by kernel_rfl) (by kernel_rfl) (fun _ _ _ h => h) (Or.inl ⟨by rfl, ?yt1x0⟩) trivial ?rt1x0
    case yt1x0 => intro w hSw; clear hSw; go_simp; try with_reducible rfl
    try simp only [Act.put, List.setIfInBounds_toArray, List.set_cons_zero, List.set_cons_succ]
    refine wpAnyH_take (i := 2) (oi := ⟨_, _, _, _, _, _⟩) (v := ?vt2x2) rfl (by kernel_rfl) (by kernel_rfl) (by kernel_rfl) (fun _ _ _ h => h) (Or.inl ⟨by rfl, ?yt2x2⟩) trivial ?rt2x2
    case yt2x2 => intro w hSw; clear hSw; go_simp; try with_reducible rfl
    try simp only [Act.put, List.setIfInBounds_toArray, List.set_cons_zero, List.set_cons_succ]
    refine wpAnyH_take (i := 3) (oi := ⟨_, _, _, _, _, _⟩) (v := ?vt3x3) rfl (by kernel_rfl) (by kernel_rfl) (by kernel_rfl) (fun _ _ _ h => h) (Or.inl ⟨by rfl, ?yt3x3⟩) trivial ?rt3x3
    case yt3x3 => intro w hSw; clear hSw; go_simp; try with_reducible rfl
    try simp only [Act.put, List.setIfInBounds_toArray, List.set_cons_zero, List.set_cons_succ]
    refine wpAnyH_ready (rs := [1, 4]) (by kernel_rfl) (by simp) ?_
    refine AllReadyH.cons (o := ⟨_, _, _, _, _, _⟩) rfl (fun KK hK => ?b4n0) (AllReadyH.cons (o := ⟨_, _, _, _, _, _⟩) rfl (fun KK hK => ?b4n1) AllReadyH.nil)
    case b4n0 =>
      have lo0 : u1.heap.size ≤ x0.heap.size := HB0.size
      go_simp
      refine (addTexts_12 a c l _ ((hs.below bB).below HB0) h12 hz20).mono ?_
      rintro r x1 ⟨v9, rfl, HT⟩
      obtain ⟨a0, c0, rfl⟩ := ownForm HT.own
      have hBk := HT.bel
      have HV := owns_mono HT.own lo0
      have TL := HT.own.lt
      clear HT
      have HB1 : Below u1.heap.size u1 x1 := st5 HB0 hBk
      have zz1 : x0.heap.size ≤ x1.heap.size := hBk.size
      refine hK.out _ _ trivial (fun hHn => ?_)
      clear hK KK hHn
      try simp only [Act.put, List.setIfInBounds_toArray, List.set_cons_zero, List.set_cons_succ]
      clear hBk
      refine wpAnyH_ready (rs := [4, 5]) (by kernel_rfl) (by simp) ?_
      refine AllReadyH.cons (o := ⟨_, _, _, _, _, _⟩) rfl (fun KK hK => ?b5n0) (AllReadyH.cons (o := ⟨_, _, _, _, _, _⟩) rfl (fun KK hK => ?b5n1) AllReadyH.nil)
      case b5n0 =>
        have lo1 : u1.heap.size ≤ x1.heap.size := HB1.size
        obtain ⟨x2, hxx2⟩ : ∃ u, x1.alloc (.cells (madeCells #[Value.bool false] l.length) 4) = u := ⟨_, rfl⟩
        have BE : Below x1.heap.size x1 x2 := by rw [← hxx2]; exact al5 _ _
        have mR : x1.heap.size < x2.heap.size := by rw [← hxx2]; simp
        replace HV := owns_below HV BE
        have HR : x2.rowIs x1.heap.size 4 l.length (fun _ => .bool false) := by rw [← hxx2]; exact World.rowIs_made _ _ _ _
        have lR : u1.heap.size ≤ x1.heap.size := lo1
        have HB2 : Below u1.heap.size u1 x2 := st5 HB1 BE
        have zz2 : x1.heap.size ≤ x2.heap.size := BE.size
        go_simp
        try rw [hxx2]
        refine hK.out _ _ trivial (fun hHn => ?_)
        clear hK KK hHn
        try simp only [Act.put, List.setIfInBounds_toArray, List.set_cons_zero, List.set_cons_succ]
        clear hxx2 BE
        refine wpAnyH_ready (rs := [5]) (by kernel_rfl) (by simp) ?_
        refine AllReadyH.cons (o := ⟨_, _, _, _, _, _⟩) rfl (fun KK hK => ?b6n0) AllReadyH.nil
        case b6n0 =>
          have lo2 : u1.heap.size ≤ x2.heap.size := HB2.size
          go_simp
          refine (implNewPart_any _).mono ?_
          rintro r x3 ⟨gp, cp, gl, cl, rfl, HP, hBk⟩
          replace HV := owns_below HV hBk
          replace HR := HR.of_block (hBk.block _ HR.lt)
          have tP : gl < x3.heap.size := HP.top
          have lP : u1.heap.size ≤ x2.heap.size := lo2
          have HB3 : Below u1.heap.size u1 x3 := st5 HB2 hBk
          have zz3 : x2.heap.size ≤ x3.heap.size := hBk.size
          refine hK.out _ _ trivial (fun hHn => ?_)
          clear hK KK hHn
          try simp only [Act.put, List.setIfInBounds_toArray, List.set_cons_zero, List.set_cons_succ]
          clear hBk
          refine wpAnyH_take (i := 6) (oi := ⟨_, _, _, _, _, _⟩) (v := ?vt7x6) rfl (by kernel_rfl) (by kernel_rfl) (by kernel_rfl) (fun _ _ _ h => h) (Or.inl ⟨by rfl, ?yt7x6⟩) trivial ?rt7x6
          case yt7x6 => intro w hSw; clear hSw; go_simp; try with_reducible rfl
          try simp only [Act.put, List.setIfInBounds_toArray, List.set_cons_zero, List.set_cons_succ]
          refine wpAnyH_ready (rs := [7]) (by kernel_rfl) (by simp) ?_
          refine AllReadyH.cons (o := ⟨_, _, _, _, _, _⟩) rfl (fun KK hK => ?b8n0) AllReadyH.nil
          case b8n0 =>
            obtain ⟨f8, r8⟩ := R8
            replace r8 := r8.of_block (HB3.block _ (by omega))
            have d0 := r8.cell (i := 0) (by omega)
            have d1 := r8.cell (i := 1) (by omega)
            have d2 := r8.cell (i := 2) (by omega)
            have d3 := r8.cell (i := 3) (by omega)
            have d4 := r8.cell (i := 4) (by omega)
            have d5 := r8.cell (i := 5) (by omega)
            have d6 := r8.cell (i := 6) (by omega)
            have d7 := r8.cell (i := 7) (by omega)
            have fz := fun o => r8.frozen o
            clear r8
            go_simp
            refine hK.out _ _ trivial (fun hHn => ?_)
            clear hK KK hHn
            try simp only [Act.put, List.setIfInBounds_toArray, List.set_cons_zero, List.set_cons_succ]
            refine wpAnyH_take (i := 8) (oi := ⟨_, _, _, _, _, _⟩) (v := ?vt9x8) rfl (by kernel_rfl) (by kernel_rfl) (by kernel_rfl) (fun _ _ _ h => h) (Or.inl ⟨by rfl, ?yt9x8⟩) trivial ?rt9x8
            case yt9x8 => intro w hSw; clear hSw; go_simp; try with_reducible rfl
            try simp only [Act.put, List.setIfInBounds_toArray, List.set_cons_zero, List.set_cons_succ]
            refine wpAnyH_done (by kernel_rfl) (NoPanic.normal ?_) _
            have dj : ∀ b, (Value.slice a0 l.length c0).ownBlock = some b → b ≠ x1.heap.size := fun b hb e => by have := TL b hb; omega
            have ap : ∀ b, ((Value.slice a0 l.length c0).ownBlock = some b ∨ b = x1.heap.size) → b < x2.heap.size ∨ gl < b := by
              rintro b (hb | rfl)
              · have := TL b hb; omega
              · omega
            have HCL := fun y (hy : ∀ b, b ≠ w.heap.size → y.heap[b]? = x3.heap[b]?) => wn_close hu1s HV hz20 HR lR HP lP dj ap (y := y) hy
            have HBF : Below w.heap.size w x3 := st5 bB HB3
            clear HV HR HP dj ap
            go_wp2
            refine bodyPost_ret (v := .tuple #[.agg #[.slice a0 l.length c0, .int .i64 0, .slice (some ⟨x1.heap.size, 0, none⟩) l.length l.length, .slice none 0 0, .slice none 0 0, .slice (some ⟨gp, 0, none⟩) 1 cp, .slice (some ⟨gl, 0, none⟩) 1 cl, .int .i64 1], .bool true]) (by simp [results, Try.results8, go_sem, d0, d1, d2, d3, d4, d5, d6, d7]) rfl ⟨a0, some ⟨x1.heap.size, 0, none⟩, some ⟨gp, 0, none⟩, some ⟨gl, 0, none⟩, c0, l.length, cp, cl, ?_, ?_, ?_⟩
            · rw [HEq.out.1]; simp
            · rw [HEq.out.1]; exact HCL _ (heap8 _ _ _ _ _ _ _ _ _ _)
            · exact below8 HBF (Nat.le_refl _) _ _ _ _ _ _ _ _
      case b5n1 =>
        have lo1 : u1.heap.size ≤ x1.heap.size := HB1.size
        go_simp
        refine (implNewPart_any _).mono ?_
        rintro r x2 ⟨gp, cp, gl, cl, rfl, HP, hBk⟩
        replace HV := owns_below HV hBk
        have tP : gl < x2.heap.size := HP.top
        have lP : u1.heap.size ≤ x1.heap.size := lo1
        have HB2 : Below u1.heap.size u1 x2 := st5 HB1 hBk
        have zz2 : x1.heap.size ≤ x2.heap.size := hBk.size
        refine hK.out _ _ trivial (fun hHn => ?_)
        clear hK KK hHn
        try simp only [Act.put, List.setIfInBounds_toArray, List.set_cons_zero, List.set_cons_succ]
        clear hBk
        refine wpAnyH_ready (rs := [4]) (by kernel_rfl) (by simp) ?_
        refine AllReadyH.cons (o := ⟨_, _, _, _, _, _⟩) rfl (fun KK hK => ?b10n0) AllReadyH.nil
        case b10n0 =>
          have lo2 : u1.heap.size ≤ x2.heap.size := HB2.size
          obtain ⟨x3, hxx3⟩ : ∃ u, x2.alloc (.cells (madeCells #[Value.bool false] l.length) 4) = u := ⟨_, rfl⟩
          have BE : Below x2.heap.size x2 x3 := by rw [← hxx3]; exact al5 _ _
          have mR : x2.heap.size < x3.heap.size := by rw [← hxx3]; simp
          replace HV := owns_below HV BE
          replace HP := HP.below BE
          have HR : x3.rowIs x2.heap.size 4 l.length (fun _ => .bool false) := by rw [← hxx3]; exact World.rowIs_made _ _ _ _
          have lR : u1.heap.size ≤ x2.heap.size := lo2
          have HB3 : Below u1.heap.size u1 x3 := st5 HB2 BE
          have zz3 : x2.heap.size ≤ x3.heap.size := BE.size
          go_simp
          try rw [hxx3]
          refine hK.out _ _ trivial (fun hHn => ?_)
          clear hK KK hHn
          try simp only [Act.put, List.setIfInBounds_toArray, List.set_cons_zero, List.set_cons_succ]
          clear hxx3 BE
          refine wpAnyH_take (i := 6) (oi := ⟨_, _, _, _, _, _⟩) (v := ?vt11x6) rfl (by kernel_rfl) (by kernel_rfl) (by kernel_rfl) (fun _ _ _ h => h) (Or.inl ⟨by rfl, ?yt11x6⟩) trivial ?rt11x6
          case yt11x6 => intro w hSw; clear hSw; go_simp; try with_reducible rfl
          try simp only [Act.put, List.setIfInBounds_toArray, List.set_cons_zero, List.set_cons_succ]
          refine wpAnyH_ready (rs := [7]) (by kernel_rfl) (by simp) ?_
          refine AllReadyH.cons (o := ⟨_, _, _, _, _, _⟩) rfl (fun KK hK => ?b12n0) AllReadyH.nil
          case b12n0 =>
            obtain ⟨f8, r8⟩ := R8
            replace r8 := r8.of_block (HB3.block _ (by omega))
            have d0 := r8.cell (i := 0) (by omega)
            have d1 := r8.cell (i := 1) (by omega)
            have d2 := r8.cell (i := 2) (by omega)
            have d3 := r8.cell (i := 3) (by omega)
            have d4 := r8.cell (i := 4) (by omega)
            have d5 := r8.cell (i := 5) (by omega)
            have d6 := r8.cell (i := 6) (by omega)
            have d7 := r8.cell (i := 7) (by omega)
            have fz := fun o => r8.frozen o
            clear r8
            go_simp
            refine hK.out _ _ trivial (fun hHn => ?_)
            clear hK KK hHn
            try simp only [Act.put, List.setIfInBounds_toArray, List.set_cons_zero, List.set_cons_succ]
            refine wpAnyH_take (i := 8) (oi := ⟨_, _, _, _, _, _⟩) (v := ?vt13x8) rfl (by kernel_rfl) (by kernel_rfl) (by kernel_rfl) (fun _ _ _ h => h) (Or.inl ⟨by rfl, ?yt13x8⟩) trivial ?rt13x8
            case yt13x8 => intro w hSw; clear hSw; go_simp; try with_reducible rfl
            try simp only [Act.put, List.setIfInBounds_toArray, List.set_cons_zero, List.set_cons_succ]
            refine wpAnyH_done (by kernel_rfl) (NoPanic.normal ?_) _
            have dj : ∀ b, (Value.slice a0 l.length c0).ownBlock = some b → b ≠ x2.heap.size := fun b hb e => by have := TL b hb; omega
            have ap : ∀ b, ((Value.slice a0 l.length c0).ownBlock = some b ∨ b = x2.heap.size) → b < x1.heap.size ∨ gl < b := by
              rintro b (hb | rfl)
              · have := TL b hb; omega
              · omega
            have HCL := fun y (hy : ∀ b, b ≠ w.heap.size → y.heap[b]? = x3.heap[b]?) => wn_close hu1s HV hz20 HR lR HP lP dj ap (y := y) hy
            have HBF : Below w.heap.size w x3 := st5 bB HB3
            clear HV HR HP dj ap
            go_wp2
            refine bodyPost_ret (v := .tuple #[.agg #[.slice a0 l.length c0, .int .i64 0, .slice (some ⟨x2.heap.size, 0, none⟩) l.length l.length, .slice none 0 0, .slice none 0 0, .slice (some ⟨gp, 0, none⟩) 1 cp, .slice (some ⟨gl, 0, none⟩) 1 cl, .int .i64 1], .bool true]) (by simp [results, Try.results8, go_sem, d0, d1, d2, d3, d4, d5, d6, d7]) rfl ⟨a0, some ⟨x2.heap.size, 0, none⟩, some ⟨gp, 0, none⟩, some ⟨gl, 0, none⟩, c0, l.length, cp, cl, ?_, ?_, ?_⟩
            · rw [HEq.out.1]; simp
            · rw [HEq.out.1]; exact HCL _ (heap8 _ _ _ _ _ _ _ _ _ _)
            · exact below8 HBF (Nat.le_refl _) _ _ _ _ _ _ _ _
    case b4n1 =>
      have lo0 : u1.heap.size ≤ x0.heap.size := HB0.size
      obtain ⟨x1, hxx1⟩ : ∃ u, x0.alloc (.cells (madeCells #[Value.bool false] l.length) 4) = u := ⟨_, rfl⟩
      have BE : Below x0.heap.size x0 x1 := by rw [← hxx1]; exact al5 _ _
      have mR : x0.heap.size < x1.heap.size := by rw [← hxx1]; simp
      have HR : x1.rowIs x0.heap.size 4 l.length (fun _ => .bool false) := by rw [← hxx1]; exact World.rowIs_made _ _ _ _
      have lR : u1.heap.size ≤ x0.heap.size := lo0
      have HB1 : Below u1.heap.size u1 x1 := st5 HB0 BE
      have zz1 : x0.heap.size ≤ x1.heap.size := BE.size
      go_simp
      try rw [hxx1]
      refine hK.out _ _ trivial (fun hHn => ?_)
      clear hK KK hHn
      try simp only [Act.put, List.setIfInBounds_toArray, List.set_cons_zero, List.set_cons_succ]
      clear hxx1 BE
      refine wpAnyH_ready (rs := [1]) (by kernel_rfl) (by simp) ?_
      refine AllReadyH.cons (o := ⟨_, _, _, _, _, _⟩) rfl (fun KK hK => ?b14n0) AllReadyH.nil
      case b14n0 =>
        have lo1 : u1.heap.size ≤ x1.heap.size := HB1.size
        go_simp
        refine (addTexts_12 a c l _ ((hs.below bB).below HB1) h12 hz20).mono ?_
        rintro r x2 ⟨v9, rfl, HT⟩
        obtain ⟨a0, c0, rfl⟩ := ownForm HT.own
        have hBk := HT.bel
        replace HR := HR.of_block (hBk.block _ HR.lt)
        have HV := owns_mono HT.own lo1
        have TL := HT.own.lt
        clear HT
        have HB2 : Below u1.heap.size u1 x2 := st5 HB1 hBk
        have zz2 : x1.heap.size ≤ x2.heap.size := hBk.size
        refine hK.out _ _ trivial (fun hHn => ?_)
        clear hK KK hHn
        try simp only [Act.put, List.setIfInBounds_toArray, List.set_cons_zero, List.set_cons_succ]
        clear hBk
        refine wpAnyH_ready (rs := [5]) (by kernel_rfl) (by simp) ?_
        refine AllReadyH.cons (o := ⟨_, _, _, _, _, _⟩) rfl (fun KK hK => ?b15n0) AllReadyH.nil
        case b15n0 =>
          have lo2 : u1.heap.size ≤ x2.heap.size := HB2.size
          go_simp
          refine (implNewPart_any _).mono ?_
          rintro r x3 ⟨gp, cp, gl, cl, rfl, HP, hBk⟩
          replace HV := owns_below HV hBk
          replace HR := HR.of_block (hBk.block _ HR.lt)
          have tP : gl < x3.heap.size := HP.top
          have lP : u1.heap.size ≤ x2.heap.size := lo2
          have HB3 : Below u1.heap.size u1 x3 := st5 HB2 hBk
          have zz3 : x2.heap.size ≤ x3.heap.size := hBk.size
          refine hK.out _ _ trivial (fun hHn => ?_)
          clear hK KK hHn
          try simp only [Act.put, List.setIfInBounds_toArray, List.set_cons_zero, List.set_cons_succ]
          clear hBk
          refine wpAnyH_take (i := 6) (oi := ⟨_, _, _, _, _, _⟩) (v := ?vt16x6) rfl (by kernel_rfl) (by kernel_rfl) (by kernel_rfl) (fun _ _ _ h => h) (Or.inl ⟨by rfl, ?yt16x6⟩) trivial ?rt16x6
          case yt16x6 => intro w hSw; clear hSw; go_simp; try with_reducible rfl
          try simp only [Act.put, List.setIfInBounds_toArray, List.set_cons_zero, List.set_cons_succ]
          refine wpAnyH_ready (rs := [7]) (by kernel_rfl) (by simp) ?_
          refine AllReadyH.cons (o := ⟨_, _, _, _, _, _⟩) rfl (fun KK hK => ?b17n0) AllReadyH.nil
          case b17n0 =>
            obtain ⟨f8, r8⟩ := R8
            replace r8 := r8.of_block (HB3.block _ (by omega))
            have d0 := r8.cell (i := 0) (by omega)
            have d1 := r8.cell (i := 1) (by omega)
            have d2 := r8.cell (i := 2) (by omega)
            have d3 := r8.cell (i := 3) (by omega)
            have d4 := r8.cell (i := 4) (by omega)
            have d5 := r8.cell (i := 5) (by omega)
            have d6 := r8.cell (i := 6) (by omega)
            have d7 := r8.cell (i := 7) (by omega)
            have fz := fun o => r8.frozen o
            clear r8
            go_simp
            refine hK.out _ _ trivial (fun hHn => ?_)
            clear hK KK hHn
            try simp only [Act.put, List.setIfInBounds_toArray, List.set_cons_zero, List.set_cons_succ]
            refine wpAnyH_take (i := 8) (oi := ⟨_, _, _, _, _, _⟩) (v := ?vt18x8) rfl (by kernel_rfl) (by kernel_rfl) (by kernel_rfl) (fun _ _ _ h => h) (Or.inl ⟨by rfl, ?yt18x8⟩) trivial ?rt18x8
            case yt18x8 => intro w hSw; clear hSw; go_simp; try with_reducible rfl
            try simp only [Act.put, List.setIfInBounds_toArray, List.set_cons_zero, List.set_cons_succ]
            refine wpAnyH_done (by kernel_rfl) (NoPanic.normal ?_) _
            have dj : ∀ b, (Value.slice a0 l.length c0).ownBlock = some b → b ≠ x0.heap.size := fun b hb e => by have := TL b hb; omega
            have ap : ∀ b, ((Value.slice a0 l.length c0).ownBlock = some b ∨ b = x0.heap.size) → b < x2.heap.size ∨ gl < b := by
              rintro b (hb | rfl)
              · have := TL b hb; omega
              · omega
            have HCL := fun y (hy : ∀ b, b ≠ w.heap.size → y.heap[b]? = x3.heap[b]?) => wn_close hu1s HV hz20 HR lR HP lP dj ap (y := y) hy
            have HBF : Below w.heap.size w x3 := st5 bB HB3
            clear HV HR HP dj ap
            go_wp2
            refine bodyPost_ret (v := .tuple #[.agg #[.slice a0 l.length c0, .int .i64 0, .slice (some ⟨x0.heap.size, 0, none⟩) l.length l.length, .slice none 0 0, .slice none 0 0, .slice (some ⟨gp, 0, none⟩) 1 cp, .slice (some ⟨gl, 0, none⟩) 1 cl, .int .i64 1], .bool true]) (by simp [results, Try.results8, go_sem, d0, d1, d2, d3, d4, d5, d6, d7]) rfl ⟨a0, some ⟨x0.heap.size, 0, none⟩, some ⟨gp, 0, none⟩, some ⟨gl, 0, none⟩, c0, l.length, cp, cl, ?_, ?_, ?_⟩
            · rw [HEq.out.1]; simp
            · rw [HEq.out.1]; exact HCL _ (heap8 _ _ _ _ _ _ _ _ _ _)
            · exact below8 HBF (Nat.le_refl _) _ _ _ _ _ _ _ _

end Go.Proofs.Ytbgjjeecfbdaeaa
