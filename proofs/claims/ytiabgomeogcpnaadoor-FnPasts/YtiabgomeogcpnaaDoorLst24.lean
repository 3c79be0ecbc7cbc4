/-
  The places of a set as a list, the program's side: the contracts of bits.TrailingZeros64, bits.TrailingZeros, (impl.setOf).list.
-/
import Derived.Test.YtiabgomeogcpnaaDoorTz24
import Derived.Test.YtiabgomeogcpnaaDoorSetB
namespace Go.Proofs.YtiabgomeogcpnaaDoor
open Go.RowKit

/-- The table of math/bits holds what its initialiser lays, at the places that numbers below 2^24 come to. -/
def TabQ (w : World) : Prop := w.cell? ⟨1, 0, none⟩ = some (.int .u8 0) ∧ w.cell? ⟨1, 1, none⟩ = some (.int .u8 1) ∧ w.cell? ⟨1, 3, none⟩ = some (.int .u8 2) ∧ w.cell? ⟨1, 7, none⟩ = some (.int .u8 3) ∧ w.cell? ⟨1, 15, none⟩ = some (.int .u8 4) ∧ w.cell? ⟨1, 31, none⟩ = some (.int .u8 5) ∧ w.cell? ⟨1, 63, none⟩ = some (.int .u8 6) ∧ w.cell? ⟨1, 62, none⟩ = some (.int .u8 7) ∧ w.cell? ⟨1, 61, none⟩ = some (.int .u8 8) ∧ w.cell? ⟨1, 59, none⟩ = some (.int .u8 9) ∧ w.cell? ⟨1, 55, none⟩ = some (.int .u8 10) ∧ w.cell? ⟨1, 47, none⟩ = some (.int .u8 11) ∧ w.cell? ⟨1, 30, none⟩ = some (.int .u8 12) ∧ w.cell? ⟨1, 60, none⟩ = some (.int .u8 13) ∧ w.cell? ⟨1, 57, none⟩ = some (.int .u8 14) ∧ w.cell? ⟨1, 51, none⟩ = some (.int .u8 15) ∧ w.cell? ⟨1, 39, none⟩ = some (.int .u8 16) ∧ w.cell? ⟨1, 14, none⟩ = some (.int .u8 17) ∧ w.cell? ⟨1, 29, none⟩ = some (.int .u8 18) ∧ w.cell? ⟨1, 58, none⟩ = some (.int .u8 19) ∧ w.cell? ⟨1, 53, none⟩ = some (.int .u8 20) ∧ w.cell? ⟨1, 43, none⟩ = some (.int .u8 21) ∧ w.cell? ⟨1, 23, none⟩ = some (.int .u8 22) ∧ w.cell? ⟨1, 46, none⟩ = some (.int .u8 23)

theorem TabQ.lt {w : World} (h : TabQ w) : 1 < w.heap.size := lt_of_cell h.1
theorem TabQ.below {w w' : World} {B : Nat} (h : TabQ w) (hb : Below B w w') (hB : 1 < B) : TabQ w' := by
  obtain ⟨h0, h1, h2, h3, h4, h5, h6, h7, h8, h9, h10, h11, h12, h13, h14, h15, h16, h17, h18, h19, h20, h21, h22, h23⟩ := h
  exact ⟨(hb.cell (p := ⟨1, 0, none⟩) hB).trans h0, (hb.cell (p := ⟨1, 1, none⟩) hB).trans h1, (hb.cell (p := ⟨1, 3, none⟩) hB).trans h2, (hb.cell (p := ⟨1, 7, none⟩) hB).trans h3, (hb.cell (p := ⟨1, 15, none⟩) hB).trans h4, (hb.cell (p := ⟨1, 31, none⟩) hB).trans h5, (hb.cell (p := ⟨1, 63, none⟩) hB).trans h6, (hb.cell (p := ⟨1, 62, none⟩) hB).trans h7, (hb.cell (p := ⟨1, 61, none⟩) hB).trans h8, (hb.cell (p := ⟨1, 59, none⟩) hB).trans h9, (hb.cell (p := ⟨1, 55, none⟩) hB).trans h10, (hb.cell (p := ⟨1, 47, none⟩) hB).trans h11, (hb.cell (p := ⟨1, 30, none⟩) hB).trans h12, (hb.cell (p := ⟨1, 60, none⟩) hB).trans h13, (hb.cell (p := ⟨1, 57, none⟩) hB).trans h14, (hb.cell (p := ⟨1, 51, none⟩) hB).trans h15, (hb.cell (p := ⟨1, 39, none⟩) hB).trans h16, (hb.cell (p := ⟨1, 14, none⟩) hB).trans h17, (hb.cell (p := ⟨1, 29, none⟩) hB).trans h18, (hb.cell (p := ⟨1, 58, none⟩) hB).trans h19, (hb.cell (p := ⟨1, 53, none⟩) hB).trans h20, (hb.cell (p := ⟨1, 43, none⟩) hB).trans h21, (hb.cell (p := ⟨1, 23, none⟩) hB).trans h22, (hb.cell (p := ⟨1, 46, none⟩) hB).trans h23⟩
theorem TabQ.bel {w w' : World} (h : TabQ w) (hb : Below w.heap.size w w') : TabQ w' := h.below hb h.lt

theorem neg_and {n t : Nat} (h : n < 16777216) (h0 : n ≠ 0) (ht : IsTz n t) : bits .and .u64 (n : Int) (IntKind.u64.wrap (-(n : Int))) = ((2 ^ t : Nat) : Int) := by
  have e : IntKind.u64.wrap (-(n : Int)) = ((18446744073709551616 - n : Nat) : Int) := by
    simp [IntKind.wrap, IntKind.bits, IntKind.signed]; omega
  rw [e, u64_and_nat _ _ (by omega) (by omega), tz_low ht h]

set_option maxHeartbeats 4000000 in
theorem tz64_any (n t : Nat) (h : n < 16777216) (h0 : n ≠ 0) (ht : IsTz n t) (w : World) (hT : TabQ w) :
    Calls Tryd.prog 36 #[.int .u64 (n : Int)] w fun r w' => r = .returned (.int .i64 (t : Int)) ∧ w' = w := by
  have hna := neg_and h h0 ht
  have hne : ((n : Int) == 0) = false := by simp; omega
  have ht := tz_24 ht h
  obtain ⟨t0, t1, t2, t3, t4, t5, t6, t7, t8, t9, t10, t11, t12, t13, t14, t15, t16, t17, t18, t19, t20, t21, t22, t23⟩ := hT
  have v7 : IntKind.u64.wrap 36591387270573294720 = 18144643196863743104 := by rfl
  have v8 : IntKind.u64.wrap 73182774541146589440 = 17842542320017934592 := by rfl
  have v9 : IntKind.u64.wrap 146365549082293178880 = 17238340566326317568 := by rfl
  have v10 : IntKind.u64.wrap 292731098164586357760 = 16029937058943083520 := by rfl
  have v11 : IntKind.u64.wrap 585462196329172715520 = 13613130044176615424 := by rfl
  have v12 : IntKind.u64.wrap 1170924392658345431040 = 8779516014643679232 := by rfl
  have v13 : IntKind.u64.wrap 2341848785316690862080 = 17559032029287358464 := by rfl
  have v14 : IntKind.u64.wrap 4683697570633381724160 = 16671319984865165312 := by rfl
  have v15 : IntKind.u64.wrap 9367395141266763448320 = 14895895896020779008 := by rfl
  have v16 : IntKind.u64.wrap 18734790282533526896640 = 11345047718332006400 := by rfl
  have v17 : IntKind.u64.wrap 37469580565067053793280 = 4243351362954461184 := by rfl
  have v18 : IntKind.u64.wrap 74939161130134107586560 = 8486702725908922368 := by rfl
  have v19 : IntKind.u64.wrap 149878322260268215173120 = 16973405451817844736 := by rfl
  have v20 : IntKind.u64.wrap 299756644520536430346240 = 15500066829926137856 := by rfl
  have v21 : IntKind.u64.wrap 599513289041072860692480 = 12553389586142724096 := by rfl
  have v22 : IntKind.u64.wrap 1199026578082145721384960 = 6660035098575896576 := by rfl
  have v23 : IntKind.u64.wrap 2398053156164291442769920 = 13320070197151793152 := by rfl
  rcases (by omega : t = 0 ∨ t = 1 ∨ t = 2 ∨ t = 3 ∨ t = 4 ∨ t = 5 ∨ t = 6 ∨ t = 7 ∨ t = 8 ∨ t = 9 ∨ t = 10 ∨ t = 11 ∨ t = 12 ∨ t = 13 ∨ t = 14 ∨ t = 15 ∨ t = 16 ∨ t = 17 ∨ t = 18 ∨ t = 19 ∨ t = 20 ∨ t = 21 ∨ t = 22 ∨ t = 23) with rfl | rfl | rfl | rfl | rfl | rfl | rfl | rfl | rfl | rfl | rfl | rfl | rfl | rfl | rfl | rfl | rfl | rfl | rfl | rfl | rfl | rfl | rfl | rfl
  all_goals
    go_enter Tryd.func36, Tryd.ntmps36
    go_wp2
    go_ret
    exact ⟨rfl, rfl⟩

theorem tz_any (n t : Nat) (h : n < 16777216) (h0 : n ≠ 0) (ht : IsTz n t) (w : World) (hT : TabQ w) :
    Calls Tryd.prog 29 #[.int .u64 (n : Int)] w fun r w' => r = .returned (.int .i64 (t : Int)) ∧ w' = w := by
  go_enter Tryd.func29, Tryd.ntmps29
  go_wp2_with (go_at_call 36; refine (tz64_any _ t h h0 ht _ hT).mono ?_; rintro r w1 ⟨rfl, rfl⟩)
  go_ret
  exact ⟨rfl, rfl⟩

theorem sub_and {m : Nat} (h : m < 16777216) (h0 : m ≠ 0) : bits .and .u64 (m : Int) ((m : Int) - 1) = ((m &&& (m - 1) : Nat) : Int) := by
  rw [show (m : Int) - 1 = ((m - 1 : Nat) : Int) by omega]
  exact b_and h (by omega)
theorem sub_wrap {m : Nat} (h : m < 16777216) (h0 : m ≠ 0) : IntKind.u64.wrap ((m : Int) - 1) = (m : Int) - 1 := by
  simp [IntKind.wrap, IntKind.bits, IntKind.signed]; omega

set_option maxRecDepth 100000 in
set_option maxHeartbeats 2000000 in
theorem list_any (n : Nat) (h : n < 16777216) (w : World) (hT : TabQ w) :
    Calls Tryd.prog 17 #[setV n] w fun r w' => ZAns w (bitsL n) r w' := by
  obtain ⟨i0, hi, hz0, hz1, hz2⟩ := info_parts Tryd.infoInt
  have hb0 : ∀ o, Below w.heap.size w (w.alloc o) := fun o => (Below.refl _ _).alloc (Nat.le_refl _) o
  go_enter Tryd.func17, Tryd.ntmps17
  go_wp2
  go_loopw [3, 4] (fun v l wr => ∃ m : Nat, ∃ zs : List Int, m < 16777216 ∧ l = .int .u64 (m : Int) ∧ zs ++ bitsL m = bitsL n ∧ ZSt w.heap.size w wr v zs) (fun _ l _ => (intOf l).toNat)
  case atStart => exact ⟨n, [], h, rfl, rfl, World.ownsRow_nil _ _ _ _, hb0 _⟩
  case round =>
    clear hb0
    obtain ⟨m, zs, hm, rfl, hz, hst⟩ := hrel
    have hT1 := hT.bel hst.bel
    have hlen : zs.length ≤ 24 := by have := bitsL_len n; have := congrArg List.length hz; simp at this; omega
    by_cases h0 : m = 0
    · subst h0
      have HZ : Hid (zs = bitsL n) := by show _ = _; rw [← hz, bitsL_zero, List.append_nil]
      clear hz hT hT1
      go_wp2
      go_ret
      rw [← HZ.out]
      exact zans_of hst
    · have hne : ((m : Int) != 0) = true := by simp; omega
      obtain ⟨t, ht⟩ : ∃ t, IsTz m t := odd_part m h0
      have hlt := tz_lt ht
      have HZ : Hid ((zs ++ [((t : Nat) : Int)]) ++ bitsL (m &&& (m - 1)) = bitsL n) := by show _ = _; rw [← hz, bitsL_step ht hm]; simp
      have hsa := sub_and hm h0
      have hsw := sub_wrap hm h0
      have HLT : Hid (m &&& (m - 1) < m) := hlt
      obtain ⟨av, cv, rfl, hcv, hcm⟩ := ownsZ_cap hst.own
      have hst2 : ∀ o, ZSt w.heap.size w (wr.alloc o) (.slice av zs.length cv) zs := fun o => zst_below hst ((Below.refl _ _).alloc (Nat.le_refl _) o)
      have hsz := hst.bel.size
      have HM0 : Hid (m ≠ 0) := h0
      clear hz hT hlt
      go_wp2_with fail
      refine (tz_any m t hm h0 ht _ hT1).mono ?_
      rintro r w1 ⟨rfl, hw1⟩
      rw [hw1]
      clear hw1 w1 h0 hT1
      go_wp2_with (at_builtin; refine wpList_append_lies _ rfl _ _ 26 rfl w.heap.size 3 i0 _ 1 8 Tryd.underlying26 hi hz0 hz1 hz2 rfl (by decide) (.slice av zs.length cv) zs.length (zCells zs) rfl (hst2 _).own ⟨wr.heap.size, 0, none⟩ 1 1 (zCells [((t : Nat) : Int)]) rfl rfl ?c1 ?c2 (by omega) ?c3 ?c4 ?c5 (wr.heap.size + 1) ?c6 ?_)
      case c1 => exact World.news_of_block (cs := #[.int .i64 ((t : Nat) : Int)]) (t := 3) (fr := (0, 0)) (by first | exact (heap_alloc_new wr _) | simpa using (heap_alloc_new wr _))
      case c2 => simp [zCells, Value.oneCell']
      case c3 => unfold maxLen; omega
      case c4 => omega
      case c5 => simp; omega
      case c6 => simp
      intro g4 cap4 w4 hown4 hgrow hat4 _
      have hst4 := zst_step (q := ((t : Nat) : Int)) (hst2 _) (Nat.le_refl _) hgrow hown4
      have HS4 : Hid (ZSt w.heap.size w w4 (.slice (some ⟨g4, 0, none⟩) (zs.length + 1) cap4) (zs ++ [((t : Nat) : Int)])) := hst4
      clear hst4 hown4 hgrow hat4 hst2 hst
      go_wp2_with fail
      go_roundw
      case rel => exact ⟨m &&& (m - 1), zs ++ [((t : Nat) : Int)], by have := HLT.out; omega, rfl, HZ.out, HS4.out⟩
      case measure => have := HLT.out; simp [intOf]; omega

end Go.Proofs.YtiabgomeogcpnaaDoor
