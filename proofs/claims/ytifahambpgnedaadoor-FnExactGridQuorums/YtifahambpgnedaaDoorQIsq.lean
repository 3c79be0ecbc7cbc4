/-
  Whether members are a quorum: the contracts of spec.IsQuorum and impl.IsQuorum. (Region 4 of impl.IsQuorum by regwalk.py: mkqisq.py.)
-/
import Derived.Test.YtifahambpgnedaaDoorQWt
import Derived.Deep.RegionHeld3
namespace Go.Proofs.YtifahambpgnedaaDoor
open Go.RowKit

def isqOk (zs : List Int) (need : Int) (ks : List Int) : Bool := goodV zs need && riseB ks zs.length
def isqL (zs : List Int) (need : Int) (ks : List Int) : Bool := isqOk zs need ks && decide (need ≤ sumW zs ks)

theorem rise_in {zs ks : List Int} (h : riseB ks zs.length = true) : inV zs ks := fun i hi => by
  have := riseB_t.1 h i hi
  exact ⟨this.1, this.2.1⟩
theorem rise_len {ks : List Int} {many : Int} (hm : many ≤ 7) (h : riseB ks many = true) : ks.length ≤ 7 := by
  have := (mem7_msk hm h).1
  have h2 := congrArg List.length this
  rw [List.length_map] at h2
  have := mem7_len (msk ks)
  omega
theorem mi_msk {ks : List Int} {many : Int} (hm : many ≤ 7) (h : riseB ks many = true) : mi (msk ks) = ks := by
  unfold mi
  rw [(mem7_msk hm h).1, List.map_map]
  conv => rhs; rw [← List.map_id ks]
  refine List.map_congr_left fun z hz => ?_
  simp only [Function.comp, id]
  exact Int.toNat_of_nonneg (rise_mem h hz).1

set_option maxHeartbeats 2000000 in
theorem specIQ_any (zs : List Int) (need : Int) (a a2 : Option Addr) (c c2 : Nat) (ks : List Int) (w : World) (hs : Ints w a zs) (hk : Ints w a2 ks) (hl : zs.length ≤ maxLen) (hkl : ks.length ≤ maxLen) :
    Calls Tryd.prog 9 #[votV zs need a c, .slice a2 ks.length c2] w fun r w' => r = .returned (.tuple #[.bool (isqL zs need ks), .bool (isqOk zs need ks)]) ∧ Below w.heap.size w w' := by
  have hb : Below w.heap.size w (w.alloc (.cells #[.slice a zs.length c, .int .i64 need] 28)) := (Below.refl _ _).alloc (Nat.le_refl _) _
  go_enter Tryd.func9, Tryd.ntmps9
  go_wp2_with fail
  refine (specGoodV_any _ _ _ _ _ (hs.below hb) hl).mono ?_
  rintro r w1 ⟨hr, hB1⟩
  have BB := hb.trans (hB1.mono (by simp))
  have hs1 := hs.below BB
  have hk1 := hk.below BB
  have cV : w1.cell? ⟨w.heap.size, 0, none⟩ = some (.slice a zs.length c) := (hB1.cell (p := ⟨w.heap.size, 0, none⟩) (by simp)).trans (by simp [go_sem])
  have cN : w1.cell? ⟨w.heap.size, 1, none⟩ = some (.int .i64 need) := (hB1.cell (p := ⟨w.heap.size, 1, none⟩) (by simp)).trans (by simp [go_sem])
  clear hs hk hB1 hb
  generalize hg : goodV zs need = g at hr
  have HG : Hid (goodV zs need = g) := hg
  clear hg
  subst hr
  cases g with
  | false =>
    go_wp2
    go_ret2
    exact ⟨by simp [isqL, isqOk, HG.out], BB⟩
  | true =>
  have hgv := goodV_t.1 HG.out
  generalize hg : riseB ks zs.length = g2
  have HR : Hid (riseB ks zs.length = g2) := hg
  clear hg
  cases g2 with
  | false =>
    clear hgv
    go_wp2_with (go_at_call 31; refine (l6Group_any _ _ _ _ _ hk1 hkl).mono ?_; rintro e w' ⟨he, rfl⟩; rw [HR.out] at he; subst he)
    go_ret2
    exact ⟨by simp [isqL, isqOk, HR.out], BB⟩
  | true =>
    have hok := hgv.1
    have hl7 := hgv.2.1.2
    have hk7 := rise_len (by omega) HR.out
    have hin := rise_in HR.out
    clear hgv
    go_wp2_with (go_at_call 31; refine (l6Group_any _ _ _ _ _ hk1 hkl).mono ?_; rintro e w' ⟨he, hw⟩; obtain rfl := hw.symm; rw [HR.out] at he; subst he)
    have kk : w1.drew.cell? ⟨w.heap.size, 0, none⟩ = some (.slice a zs.length c) ∧ w1.drew.cell? ⟨w.heap.size, 1, none⟩ = some (.int .i64 need) := ⟨cV, cN⟩
    go_region_held3 (fun w' => w'.cell? ⟨w.heap.size, 0, none⟩ = some (.slice a zs.length c) ∧ w'.cell? ⟨w.heap.size, 1, none⟩ = some (.int .i64 need))
      (first | exact kk | go_keep)
      (first
        | (go_at_call 32; refine (l6Sum_any _ _ _ _ _ _ _ _ (hs1.below (Below.refl _ _).drew) (hk1.below (Below.refl _ _).drew) hok (by omega) hin).mono ?_; rintro r w3 ⟨rfl, hB3⟩; have kk : w3.cell? ⟨w.heap.size, 0, none⟩ = some (.slice a zs.length c) ∧ w3.cell? ⟨w.heap.size, 1, none⟩ = some (.int .i64 need) := ⟨(hB3.cell (p := ⟨w.heap.size, 0, none⟩) (lt_of_cell kk.1)).trans kk.1, (hB3.cell (p := ⟨w.heap.size, 1, none⟩) (lt_of_cell kk.2)).trans kk.2⟩))
    all_goals
      go_wp2
      go_ret2
      exact ⟨by simp [isqL, isqOk, HG.out, HR.out], Below.step_dr BB hB3⟩

set_option maxRecDepth 100000 in
set_option maxHeartbeats 2000000 in
theorem implIQ_any (zs : List Int) (need : Int) (a a2 : Option Addr) (c c2 : Nat) (ks : List Int) (w : World) (hs : Ints w a zs) (hk : Ints w a2 ks) (hl : zs.length ≤ maxLen) (hkl : ks.length ≤ maxLen) (hT : TabQ w) :
    Calls Tryd.prog 12 #[votV zs need a c, .slice a2 ks.length c2] w fun r w' => r = .returned (.tuple #[.bool (isqL zs need ks), .bool (isqOk zs need ks)]) ∧ Below w.heap.size w w' := by
  have hb : Below w.heap.size w (w.alloc (.cells #[.slice a zs.length c, .int .i64 need] 28)) := (Below.refl _ _).alloc (Nat.le_refl _) _
  go_enter Tryd.func12, Tryd.ntmps12
  go_wp2_with fail
  refine (implGoodV_any _ _ _ _ _ (hs.below hb) hl).mono ?_
  rintro r w1 ⟨hr, hB1⟩
  have BB := hb.trans (hB1.mono (by simp))
  have hs1 := hs.below BB
  have hk1 := hk.below BB
  have hT1 := hT.bel BB
  have cV : w1.cell? ⟨w.heap.size, 0, none⟩ = some (.slice a zs.length c) := (hB1.cell (p := ⟨w.heap.size, 0, none⟩) (by simp)).trans (by simp [go_sem])
  have cN : w1.cell? ⟨w.heap.size, 1, none⟩ = some (.int .i64 need) := (hB1.cell (p := ⟨w.heap.size, 1, none⟩) (by simp)).trans (by simp [go_sem])
  clear hs hk hB1 hb hT
  generalize hg : goodV zs need = g at hr
  have HG : Hid (goodV zs need = g) := hg
  clear hg
  subst hr
  cases g with
  | false =>
    go_wp2
    go_ret2
    exact ⟨by simp [isqL, isqOk, HG.out], BB⟩
  | true =>
  have hgv := goodV_t.1 HG.out
  have hok := hgv.1
  have hl7 := hgv.2.1.2
  clear hgv
  generalize hg : riseB ks zs.length = g2
  have HR : Hid (riseB ks zs.length = g2) := hg
  clear hg
  go_wp2_with fail
  refine (setFrom_any _ _ _ _ _ hk1 hkl (by omega)).mono ?_
  rintro r w2 ⟨hr, hB2⟩
  have hs2 := hs1.below hB2
  have hT2 := hT1.bel hB2
  have BB2 := BB.trans (hB2.mono BB.size)
  have dV := (hB2.cell (p := ⟨w.heap.size, 0, none⟩) (lt_of_cell cV)).trans cV
  have dN := (hB2.cell (p := ⟨w.heap.size, 1, none⟩) (lt_of_cell cN)).trans cN
  clear hs1 hk1 hT1 cV cN hB2 BB
  cases g2 with
  | false =>
    rw [setR_f HR.out, HR.out] at hr
    subst hr
    go_wp2
    first | go_quiet (fail) | skip
    go_wp2
    go_ret2
    exact ⟨by simp [isqL, isqOk, HR.out], below_drewN (BB2.alloc BB2.size _) _⟩
  | true =>
    rw [setR_t HR.out, HR.out] at hr
    subst hr
    have hlt := (mem7_msk (by omega) HR.out).2
    have hmem : ∀ m ∈ mem7 (msk ks), m < zs.length := fun m hm => by
      have := rise_mem HR.out ((mem_msk (by omega) HR.out).1 hm)
      omega
    have hz2 : w.heap.size < w2.heap.size := lt_of_cell dV
    have ba : ∀ o, Below w2.heap.size w2 (w2.alloc o) := fun o => (Below.refl _ _).alloc (Nat.le_refl _) o
    have kk : (w2.alloc (.cells #[.int .u64 (msk ks : Int)] 54)).cell? ⟨w.heap.size, 0, none⟩ = some (.slice a zs.length c) ∧ (w2.alloc (.cells #[.int .u64 (msk ks : Int)] 54)).cell? ⟨w.heap.size, 1, none⟩ = some (.int .i64 need) ∧ (w2.alloc (.cells #[.int .u64 (msk ks : Int)] 54)).cell? ⟨w2.heap.size, 0, none⟩ = some (.int .u64 (msk ks : Int)) :=
      ⟨((ba _).cell (p := ⟨w.heap.size, 0, none⟩) hz2).trans dV, ((ba _).cell (p := ⟨w.heap.size, 1, none⟩) hz2).trans dN, by simp [go_sem]⟩
    have HS2 : Hid (∀ u, Below (w2.alloc (.cells #[.int .u64 (msk ks : Int)] 54)).heap.size (w2.alloc (.cells #[.int .u64 (msk ks : Int)] 54)) u → Ints u a zs) := fun u hu => (hs2.below (ba _)).below hu
    have HT2 : Hid (∀ u, Below (w2.alloc (.cells #[.int .u64 (msk ks : Int)] 54)).heap.size (w2.alloc (.cells #[.int .u64 (msk ks : Int)] 54)) u → TabQ u) := fun u hu => (hT2.bel (ba _)).bel hu
    clear hs2 hT2 ba dV dN
    go_wp2_with fail
    refine wp_region_noPanic ?_
    refine wp_region_held_drew (S := fun w' => w'.cell? ⟨w.heap.size, 0, none⟩ = some (.slice a zs.length c) ∧ w'.cell? ⟨w.heap.size, 1, none⟩ = some (.int .i64 need) ∧ w'.cell? ⟨w2.heap.size, 0, none⟩ = some (.int .u64 (msk ks : Int))) (by kernel_rfl) kk (fun hH => ?_)
    refine wpAnyH_take (i := 0) (oi := ⟨_, _, _, _, _, _⟩) (v := ?vt0) rfl (by kernel_rfl) (by kernel_rfl) (by kernel_rfl) (fun _ _ _ h => h) (Or.inl ⟨by rfl, ?yt0⟩) (by assumption) ?rt0
    case yt0 => intro w hSw; (try dsimp only at hSw); go_simp; try with_reducible rfl
    try simp only [Act.put, List.setIfInBounds_toArray, List.set_cons_zero, List.set_cons_succ]
    refine wpAnyH_take (i := 1) (oi := ⟨_, _, _, _, _, _⟩) (v := ?vt1) rfl (by kernel_rfl) (by kernel_rfl) (by kernel_rfl) (fun _ _ _ h => h) (Or.inl ⟨by rfl, ?yt1⟩) (by assumption) ?rt1
    case yt1 => intro w hSw; (try dsimp only at hSw); go_simp; try with_reducible rfl
    try simp only [Act.put, List.setIfInBounds_toArray, List.set_cons_zero, List.set_cons_succ]
    refine wpAnyH_take (i := 2) (oi := ⟨_, _, _, _, _, _⟩) (v := ?vt2) rfl (by kernel_rfl) (by kernel_rfl) (by kernel_rfl) (fun _ _ _ h => h) (Or.inl ⟨by rfl, ?yt2⟩) (by assumption) ?rt2
    case yt2 => intro w hSw; (try dsimp only at hSw); go_simp; try with_reducible rfl
    try simp only [Act.put, List.setIfInBounds_toArray, List.set_cons_zero, List.set_cons_succ]
    refine wpAnyH_take (i := 3) (oi := ⟨_, _, _, _, _, _⟩) (v := ?vt3) rfl (by kernel_rfl) (by kernel_rfl) (by kernel_rfl) (fun _ _ _ h => h) (Or.inl ⟨by rfl, ?yt3⟩) (by assumption) ?rt3
    case yt3 => intro w hSw; (try dsimp only at hSw); go_simp; try with_reducible rfl
    try simp only [Act.put, List.setIfInBounds_toArray, List.set_cons_zero, List.set_cons_succ]
    refine wpAnyH_take (i := 5) (oi := ⟨_, _, _, _, _, _⟩) (v := ?vt5) rfl (by kernel_rfl) (by kernel_rfl) (by kernel_rfl) (fun _ _ _ h => h) (Or.inl ⟨by rfl, ?yt5⟩) (by assumption) ?rt5
    case yt5 => intro w hSw; (try dsimp only at hSw); go_simp; try with_reducible rfl
    try simp only [Act.put, List.setIfInBounds_toArray, List.set_cons_zero, List.set_cons_succ]
    refine wpAnyH_take (i := 6) (oi := ⟨_, _, _, _, _, _⟩) (v := ?vt6) rfl (by kernel_rfl) (by kernel_rfl) (by kernel_rfl) (fun _ _ _ h => h) (Or.inl ⟨by rfl, ?yt6⟩) (by assumption) ?rt6
    case yt6 => intro w hSw; (try dsimp only at hSw); go_simp; try with_reducible rfl
    try simp only [Act.put, List.setIfInBounds_toArray, List.set_cons_zero, List.set_cons_succ]
    refine wpAnyH_take (i := 9) (oi := ⟨_, _, _, _, _, _⟩) (v := ?vt9) rfl (by kernel_rfl) (by kernel_rfl) (by kernel_rfl) (fun _ _ _ h => h) (Or.inl ⟨by rfl, ?yt9⟩) (by assumption) ?rt9
    case yt9 => intro w hSw; (try dsimp only at hSw); go_simp; try with_reducible rfl
    try simp only [Act.put, List.setIfInBounds_toArray, List.set_cons_zero, List.set_cons_succ]
    refine wpAnyH_ready (rs := [4]) (by kernel_rfl) (by simp) ?_
    refine AllReadyH.cons (o := ⟨_, _, _, _, _, _⟩) rfl (fun KK hK => ?_) AllReadyH.nil
    go_simp
    refine (weightOf_any _ _ _ _ _ _ (HS2.out _ ?_) hok hlt hmem (HT2.out _ ?_)).mono ?_
    · exact (Below.refl _ _).drew
    · exact (Below.refl _ _).drew
    rintro r w3 ⟨rfl, hB3⟩
    have kk3 : w3.cell? ⟨w.heap.size, 0, none⟩ = some (.slice a zs.length c) ∧ w3.cell? ⟨w.heap.size, 1, none⟩ = some (.int .i64 need) ∧ w3.cell? ⟨w2.heap.size, 0, none⟩ = some (.int .u64 (msk ks : Int)) := ⟨(hB3.cell (p := ⟨w.heap.size, 0, none⟩) (lt_of_cell kk.1)).trans kk.1, (hB3.cell (p := ⟨w.heap.size, 1, none⟩) (lt_of_cell kk.2.1)).trans kk.2.1, (hB3.cell (p := ⟨w2.heap.size, 0, none⟩) (lt_of_cell kk.2.2)).trans kk.2.2⟩
    go_wp2_with fail
    refine hK.out _ _ kk3 (fun hH4 => ?_)
    clear hK KK hH
    try simp only [Act.put, List.setIfInBounds_toArray, List.set_cons_zero, List.set_cons_succ]
    refine wpAnyH_take (i := 7) (oi := ⟨_, _, _, _, _, _⟩) (v := ?vt7) rfl (by kernel_rfl) (by kernel_rfl) (by kernel_rfl) (fun _ _ _ h => h) (Or.inl ⟨by rfl, ?yt7⟩) (by assumption) ?rt7
    case yt7 => intro w hSw; (try dsimp only at hSw); go_simp; try with_reducible rfl
    try simp only [Act.put, List.setIfInBounds_toArray, List.set_cons_zero, List.set_cons_succ]
    refine wpAnyH_take (i := 8) (oi := ⟨_, _, _, _, _, _⟩) (v := ?vt8) rfl (by kernel_rfl) (by kernel_rfl) (by kernel_rfl) (fun _ _ _ h => h) (Or.inl ⟨by rfl, ?yt8⟩) (by assumption) ?rt8
    case yt8 => intro w hSw; (try dsimp only at hSw); go_simp; try with_reducible rfl
    try simp only [Act.put, List.setIfInBounds_toArray, List.set_cons_zero, List.set_cons_succ]
    refine wpAnyH_take (i := 10) (oi := ⟨_, _, _, _, _, _⟩) (v := ?vt10) rfl (by kernel_rfl) (by kernel_rfl) (by kernel_rfl) (fun _ _ _ h => h) (Or.inl ⟨by rfl, ?yt10⟩) (by assumption) ?rt10
    case yt10 => intro w hSw; (try dsimp only at hSw); go_simp; try with_reducible rfl
    try simp only [Act.put, List.setIfInBounds_toArray, List.set_cons_zero, List.set_cons_succ]
    refine wpAnyH_take (i := 11) (oi := ⟨_, _, _, _, _, _⟩) (v := ?vt11) rfl (by kernel_rfl) (by kernel_rfl) (by kernel_rfl) (fun _ _ _ h => h) (Or.inl ⟨by rfl, ?yt11⟩) (by assumption) ?rt11
    case yt11 => intro w hSw; (try dsimp only at hSw); go_simp; try with_reducible rfl
    try simp only [Act.put, List.setIfInBounds_toArray, List.set_cons_zero, List.set_cons_succ]
    refine wpAnyH_done (by kernel_rfl) (NoPanic.normal ?_) _
    go_wp2
    go_ret2
    exact ⟨by simp [isqL, isqOk, HG.out, HR.out, mi_msk (by omega) HR.out], Below.step_dr (BB2.alloc BB2.size _) hB3⟩

end Go.Proofs.YtifahambpgnedaaDoor
