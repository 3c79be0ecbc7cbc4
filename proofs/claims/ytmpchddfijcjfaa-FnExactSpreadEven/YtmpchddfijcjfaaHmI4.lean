/-
  Places, the program's side: LoadsOf, IsEven.
-/
import Derived.Test.YtmpchddfijcjfaaHmI2
import Derived.Test.YtmpchddfijcjfaaHmS2
namespace Go.Proofs.Ytmpchddfijcjfaa
open Go.RowKit Go.Maps

theorem iota_zA {n k : Nat} (h : k < n) : zA ((List.range n).map fun h : Nat => (h : Int)) k = (k : Int) := by simp [zA, List.getD_eq_getElem?_getD, h]
theorem loadL_take {n k : Nat} {l : List Int} (h : k < n) : (loadL n l).take (k + 1) = (loadL n l).take k ++ [((cntTo l (k : Int) l.length : Nat) : Int)] := by
  rw [List.take_add_one, loadL_get h]; rfl

set_option maxRecDepth 100000 in
set_option maxHeartbeats 4000000 in
theorem implLoadsOf_any (n : Int) (a : Option Addr) (c : Nat) (l : List Int) (w : World) (hs : Ints w a l) (hl : l.length ≤ maxLen) :
    Calls Try.prog 15 #[.int .i64 n, .slice a l.length c] w fun e w' => ∃ a' c', e = .returned (.tuple #[.slice a' (lofL n l).length c', .bool (plB n l)]) ∧ Ints w' a' (lofL n l) ∧ RowI w' w.heap.size a' (lofL n l).length ∧ Below w.heap.size w w' := by
  cases h : plB n l with
  | false =>
    have HE : Hid (lofL n l = []) := by show _ = _; simp [lofL, h]
    go_enter Try.func15, Try.ntmps15
    go_wp2_with (go_at_call 12; refine (implGoodPl_c _ _ _ _ _ _ hs hl h).mono ?_; rintro e w1 ⟨rfl, hB1⟩)
    exact bodyPost_ret (v := .tuple #[.slice none 0 0, .bool false]) (by simp [results, Try.results15, go_sem]) rfl ⟨none, 0, by rw [HE.out]; rfl, by rw [HE.out]; exact Ints.nil _ _, by rw [HE.out]; exact .inl rfl, hB1⟩
  | true =>
    obtain ⟨h1, h2, h3, h4⟩ := plB_is h
    obtain ⟨m, rfl⟩ : ∃ m : Nat, n = m := ⟨n.toNat, by omega⟩
    have HZ : Hid (∀ i, i < l.length → -1 ≤ zA l i ∧ zA l i < (m : Int)) := fun i hi => h4 _ (List.mem_of_getElem? (zA_get hi))
    have HE : Hid (lofL (m : Int) l = loadL m l) := by show _ = _; simp [lofL, h]
    obtain ⟨i0, hi, hz0, hz1, hz2⟩ := info_parts Try.infoInt
    clear h4
    go_enter Try.func15, Try.ntmps15
    go_wp2_with fail
    refine (implGoodPl_c _ _ _ _ _ _ hs hl h).mono ?_
    rintro e w1 ⟨rfl, hB1⟩
    go_wp2_with fail
    refine (loadsIn_any m _ _ l w1 (hs.below hB1) (by omega) (by omega) HZ.out).mono ?_
    rintro e w2 ⟨rfl, hM2, hB2⟩
    obtain ⟨Bm, hBm⟩ : ∃ Bm, w1.heap.size = Bm := ⟨_, rfl⟩
    rw [hBm] at hM2 ⊢
    have BB2 := stHm hB1 hB2
    clear hBm hB1 hB2
    go_wp2_with (first
      | (at_make; refine wpList_make_own _ rfl _ _ 22 rfl w.heap.size 3 i0 (.int .i64 0) 1 Try.underlying22 hi hz0 hz1 _ _ _ m rfl rfl rfl (by rw [hz2]; omega) (by unfold maxLen; omega) BB2.size ?_; intro w3 hrow3 hg3
         have hne : Bm ≠ w2.heap.size := fun e => by have := hM2.lt; omega
         have hM3 : HM w3 Bm 100 (ldF m l l.length) := hM2.of_block (hg3.block Bm hM2.lt (by simp))
         have BB3 := BB2.grown hg3 BB2.size (fun j hj => by cases hj)
         have hs3 : w2.heap.size < w3.heap.size := (hrow3.lt w2.heap.size rfl).2
         clear hM2 BB2 hg3)
      | (go_at_call 35; refine (inOrder_any Bm 100 m (ldF m l l.length) _ hM3 (by omega) (fun z hz => by unfold ldF at hz; split at hz <;> simp_all) (by rw [iotaK]; simp; omega) (by omega)).mono ?_; rintro e w4 ⟨g, mm, cc, rfl, hir, hg, hB4⟩))
    rw [iotaK] at hir
    simp only [iotaK, List.length_map, List.length_range]
    have hrow4 := ownsZ_below hrow3 hB4
    have hM4 := hM3.below hB4
    have BB4 := hB4
    have hkeys := hir.ints
    have hne2 : w2.heap.size ≠ g := by omega
    have BBB := BB3.trans (BB4.mono BB3.size)
    have hgl := hir.lt
    clear hrow3 hM3 hB4 BB3 BB4 hir hs3 hs
    go_wp2
    go_loopw [7, 22] (fun v i wr => ∃ k : Nat, k ≤ m ∧ i = .int .i64 k ∧ wr.ownsRow w.heap.size 3 1 v k (zCells ((loadL m l).take k)) ∧ v.ownBlock ≠ some g ∧ v.ownBlock ≠ some Bm ∧ HM wr Bm 100 (ldF m l l.length) ∧ g < wr.heap.size ∧ Ints wr (some ⟨g, 0, none⟩) ((List.range m).map fun h : Nat => (h : Int)) ∧ Below w.heap.size w wr) (fun _ i _ => m - (intOf i).toNat)
    case atStart => exact ⟨0, Nat.zero_le _, rfl, hrow4, by simpa [Value.ownBlock] using hne2, by simpa [Value.ownBlock] using fun e => hne e.symm, hM4, hgl, hkeys, BBB⟩
    case round =>
      clear hrow4 hM4 hkeys BBB hgl
      obtain ⟨k, hk, rfl, hrow, hv1, hv2, hM, hgl, hkeys, hB⟩ := hrel
      by_cases hlt : k < m
      · obtain ⟨b1, o1, e1, hc1⟩ := hkeys k _ (zA_get (by simp; exact hlt))
        rw [iota_zA hlt] at hc1
        simp only [Option.some.injEq, Addr.mk.injEq, and_true] at e1
        obtain ⟨rfl, rfl⟩ := e1
        rw [Nat.zero_add] at hc1
        have hki : (k : Int) < (m : Int) := by omega
        obtain ⟨D, hown, hrd⟩ := hM
        have HG : Hid (∀ cc, D.atKey (.int .i64 (k : Int)) (.lit (.int .i64 0)) = .lit (.int .i64 cc) → cc = ((cntTo l (k : Int) l.length : Nat) : Int)) := fun cc hcc => (hrd.at0 hcc).trans (ldF_get (by omega))
        have HT : Hid ((loadL m l).take (k + 1) = (loadL m l).take k ++ [((cntTo l (k : Int) l.length : Nat) : Int)]) := loadL_take hlt
        have HM1 : Hid (HM wr Bm 100 (ldF m l l.length)) := ⟨D, hown, hrd⟩
        have HK1 : Hid (Ints wr (some ⟨g, 0, none⟩) ((List.range m).map fun h : Nat => (h : Int))) := hkeys
        have hwz := hB.size
        clear hrd hkeys
        generalize ((cntTo l (k : Int) l.length : Nat) : Int) = C at *
        go_wp2_with (first
          | (at_lookup; refine wpList_lookup_own_int _ rfl _ _ 42 rfl 3 3 .i64 Try.keyI Try.underlying42 Try.underlying3 (Try.zeroI _) Bm 100 _ rfl hown _ _ rfl (keyOfI (by omega)) ?_; intro cc hat hwc; have hcc := HG.out cc hat; subst hcc; clear hat hwc)
          | (at_builtin; refine wpList_appZ _ rfl _ _ 22 rfl w.heap.size 3 i0 _ 1 8 Try.underlying22 hi hz0 hz1 hz2 rfl (by decide) _ k _ rfl (hrow.alloc _) (.slice (some ⟨wr.heap.size, 0, none⟩) 1 1) 1 [.int .i64 _] rfl (.inr ⟨_, _, rfl, rfl, cell_one_new _ _ _, by simp [Value.oneCell']⟩) (by unfold maxLen; omega) (by omega) (by simp; omega) ?_; intro v' w6 hown6 hg6 hl6; go_frame)
          | go_in)
        have hBa : Below wr.heap.size wr (wr.alloc (.cells #[.int .i64 cc] 3)) := alHm _ _
        have hvl : ∀ b, u7.ownBlock ≠ some b → b < wr.heap.size → w6.heap[b]? = wr.heap[b]? := fun b hb hlb => (hg6.block b (by simp; omega) (fun e => hb e.symm)).trans (hBa.block b hlb)
        go_roundw
        case rel =>
          refine ⟨k + 1, by omega, by go_num, by rw [HT.out, zCells_app]; exact hown6, ?_, ?_, HM1.out.of_block (hvl _ hv2 HM1.out.lt), Nat.lt_of_lt_of_le hgl (Nat.le_trans hBa.size hg6.size), HK1.out.of_block (fun b hb => hvl b (by obtain ⟨-, o, s, e⟩ := hb; simp only [Option.some.injEq, Addr.mk.injEq] at e; rw [← e.1]; exact hv1) (HK1.out.lt b hb)), (hB.alloc hwz _).grown hg6 (by simp; omega) (fun j hj => (hrow.lt j hj).1)⟩
          · rcases hl6 with e | e
            · rw [e]; exact hv1
            · rw [e]; simp; omega
          · rcases hl6 with e | e
            · rw [e]; exact hv2
            · have := HM1.out.lt; rw [e]; simp; omega
        case measure => simp [intOf]; omega
      · obtain rfl : k = m := by omega
        have HLL : Hid ((lofL (k : Int) l).length = k) := by show _ = _; rw [HE.out, loadL_len]
        have htk : (loadL k l).take k = loadL k l := List.take_of_length_le (by rw [loadL_len]; exact Nat.le_refl _)
        rw [htk] at hrow
        obtain ⟨av, cv, rfl⟩ := ownsZ_form hrow
        have hans : Ints wr av (loadL k l) ∧ RowI wr w.heap.size av (loadL k l).length := by
          refine ints_of_owns (c := cv) ?_
          rw [loadL_len]; exact hrow
        clear hrow htk hM hkeys
        go_wp2
        exact bodyPost_ret (v := .tuple #[.slice av k cv, .bool true]) (by simp [results, Try.results15, go_sem]) rfl ⟨av, cv, by rw [HLL.out], by rw [HE.out]; exact hans.1, by rw [HE.out]; exact hans.2, hB⟩

theorem hasH_no {zs : List Int} {x : Int} (h : allTo (fun z => !(z == x)) zs zs.length) : zs.contains x = false := by
  rw [Bool.eq_false_iff]
  intro hc
  rw [List.contains_iff_mem] at hc
  obtain ⟨i, hi⟩ := List.getElem?_of_mem hc
  have hl : i < zs.length := by
    by_cases hl : i < zs.length
    · exact hl
    · rw [List.getElem?_eq_none (by omega)] at hi; cases hi
  have := h i x hl hi
  simp at this

set_option maxRecDepth 100000 in
set_option maxHeartbeats 4000000 in
theorem indexH_any (a : Option Addr) (c : Nat) (zs : List Int) (x : Int) (w : World) (hs : Ints w a zs) (hl : zs.length ≤ maxLen) :
    Calls Try.prog 45 #[.slice a zs.length c, .int .i64 x] w fun r w' => (∃ z : Int, r = .returned (.int .i64 z) ∧ (0 ≤ z ↔ x ∈ zs)) ∧ w' = w := by
  unfold maxLen at hl
  go_enter Try.func45, Try.ntmps45
  go_wp2
  go_loop [8] (fun i => ∃ k : Nat, k ≤ zs.length ∧ i = .int .i64 k ∧ Hid (allTo (fun z => !(z == x)) zs k)) (fun i => zs.length - (intOf i).toNat)
  case atStart => exact ⟨0, Nat.zero_le _, rfl, allTo_zero _ _⟩
  case round =>
    obtain ⟨k, hk, rfl, HO⟩ := hrel
    by_cases hlt : k < zs.length
    · obtain ⟨b, off, rfl, hc⟩ := hs k _ (zA_get hlt)
      have HK : Hid (zs[k]? = some (zA zs k)) := zA_get hlt
      have hki : (k : Int) < (zs.length : Int) := by omega
      clear hs
      generalize zA zs k = y at *
      cases d : (x == y) with
      | true =>
        have HE : Hid (x ∈ zs) := by show _ ∈ _; rw [beq_iff_eq.1 d]; exact List.mem_of_getElem? HK.out
        go_wp2
        go_ret
        exact ⟨⟨_, rfl, ⟨fun _ => HE.out, fun _ => by omega⟩⟩, rfl⟩
      | false =>
        have HN : Hid (allTo (fun z => !(z == x)) zs (k + 1)) := allTo_succ HO.out HK.out (by rw [BEq.comm, d]; rfl)
        go_wp2
        go_round
        case rel => exact ⟨k + 1, by omega, by go_num, HN.out⟩
        case measure => simp [intOf]; omega
    · obtain rfl : k = zs.length := by omega
      have HE : Hid (¬ x ∈ zs) := fun h => by have := hasH_no HO.out; rw [List.contains_iff_mem.2 h] at this; cases this
      go_wp2
      go_ret
      exact ⟨⟨_, rfl, ⟨fun h => absurd h (by omega), fun h => absurd h HE.out⟩⟩, rfl⟩

theorem containsH_any (a : Option Addr) (c : Nat) (zs : List Int) (x : Int) (w : World) (hs : Ints w a zs) (hl : zs.length ≤ maxLen) (hb : Bool) (hbe : zs.contains x = hb) :
    Calls Try.prog 37 #[.slice a zs.length c, .int .i64 x] w fun e w' => e = .returned (.bool hb) ∧ w' = w := by
  go_enter Try.func37, Try.ntmps37
  go_wp2_with fail
  refine (indexH_any _ _ _ _ _ hs hl).mono ?_
  rintro r w1 ⟨⟨z, rfl, hz⟩, rfl⟩
  cases hb with
  | true =>
    have h0 := hz.2 (List.contains_iff_mem.1 hbe)
    clear hz hbe
    go_wp2
    go_ret
    exact ⟨rfl, rfl⟩
  | false =>
    have h0 : z < 0 := by
      by_cases h : 0 ≤ z
      · have := List.contains_iff_mem.2 (hz.1 h); rw [hbe] at this; cases this
      · omega
    clear hz hbe
    go_wp2
    go_ret
    exact ⟨ret_bool (by first | rfl | (simp; omega)), rfl⟩

/-- Numbers that are gathered, how many of them told apart. -/
def ZSn (B : Nat) (w wr : World) (v : Value) (n : Nat) (zs : List Int) : Prop := ZSt B w wr v zs ∧ zs.length = n
theorem ZSn.below {B : Nat} {w wr u : World} {v : Value} {n : Nat} {zs : List Int} (h : ZSn B w wr v n zs) (hb : Below wr.heap.size wr u) : ZSn B w u v n zs := ⟨zst_below h.1 hb, h.2⟩
theorem ZSn.own {B : Nat} {w wr : World} {v : Value} {n : Nat} {zs : List Int} (h : ZSn B w wr v n zs) : wr.ownsRow B 3 1 v n (zCells zs) := h.2 ▸ h.1.own
theorem ZSn.form {B : Nat} {w wr : World} {v : Value} {n : Nat} {zs : List Int} (h : ZSn B w wr v n zs) : ∃ a c, v = .slice a n c := ownsZ_form h.own
theorem ZSn.step {B : Nat} {w u w6 : World} {v : Value} {n : Nat} {zs : List Int} {q : Int} {g2 cap2 : Nat} (h : ZSn B w u v n zs) (hB : w.heap.size ≤ B)
    (hgrow : u.grownBy w6 v.ownBlock) (hown : w6.ownsRow B 3 1 (.slice (some ⟨g2, 0, none⟩) (n + 1) cap2) (n + 1) (zCells zs ++ zCells [q])) :
    ZSn B w w6 (.slice (some ⟨g2, 0, none⟩) (n + 1) cap2) (n + 1) (zs ++ [q]) := by
  obtain ⟨h1, rfl⟩ := h
  exact ⟨zst_step h1 hB hgrow hown, by simp⟩


end Go.Proofs.Ytmpchddfijcjfaa
