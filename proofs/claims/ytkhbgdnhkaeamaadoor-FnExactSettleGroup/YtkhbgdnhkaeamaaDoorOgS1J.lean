/-
  (PutL, for a seat with QList) A number put to its place in a list, once: 'putL', and the contract of spec.l1Put.
  Groups, the specification's side: spec.l11Own, a copy that the call owns. Made by mkogs.py.
-/
import Derived.Test.YtkhbgdnhkaeamaaDoorQList
import Derived.Laws.AppendOwnNone
import Derived.Test.YtkhbgdnhkaeamaaDoorOgSJ
namespace Go.Proofs.YtkhbgdnhkaeamaaDoor
open Go.RowKit

def putL : List Int → Int → List Int
  | [], x => [x]
  | y :: ys, x => if y < x then y :: putL ys x else if y = x then y :: ys else x :: y :: ys

theorem putL_at : ∀ (zs : List Int) (x : Int) (k : Nat), k ≤ zs.length → (∀ j, j < k → zA zs j < x) → (k = zs.length ∨ x < zA zs k) → putL zs x = zs.take k ++ [x] ++ zs.drop k
  | [], x, k, hk, _, _ => by simp at hk; subst hk; rfl
  | y :: ys, x, 0, _, _, h2 => by
    have h : x < y := by
      rcases h2 with h2 | h2
      · simp at h2
      · simpa [zA] using h2
    simp only [putL]
    rw [if_neg (by omega), if_neg (by omega)]; rfl
  | y :: ys, x, k + 1, hk, h1, h2 => by
    have h0 : y < x := by have := h1 0 (by omega); simpa [zA] using this
    have ih := putL_at ys x k (by simpa using hk) (fun j hj => by have := h1 (j + 1) (by omega); simpa [zA] using this) (by
      rcases h2 with h2 | h2
      · left; simpa using h2
      · right; simpa [zA] using h2)
    simp only [putL]
    rw [if_pos h0, ih]; rfl

theorem putL_old : ∀ (zs : List Int) (x : Int) (k : Nat), k < zs.length → (∀ j, j < k → zA zs j < x) → zA zs k = x → putL zs x = zs
  | [], x, k, hk, _, _ => by simp at hk
  | y :: ys, x, 0, _, _, h2 => by
    have h : y = x := by simpa [zA] using h2
    simp only [putL]
    rw [if_neg (by omega), if_pos h]
  | y :: ys, x, k + 1, hk, h1, h2 => by
    have h0 : y < x := by have := h1 0 (by omega); simpa [zA] using this
    have ih := putL_old ys x k (by simpa using hk) (fun j hj => by have := h1 (j + 1) (by omega); simpa [zA] using this) (by simpa [zA] using h2)
    simp only [putL]
    rw [if_pos h0, ih]

-- behind l6List
theorem news_takeO {w : World} {g o n : Nat} {zs : List Int} (h : Ints w (some ⟨g, o, none⟩) zs) : ∀ j u, (zCells (zs.take n))[j]? = some u → w.cell? ((⟨g, o, none⟩ : Addr).add j) = some u := fun j u hu => by
  simp only [zCells, List.getElem?_map, Option.map_eq_some_iff] at hu
  obtain ⟨z, hz, rfl⟩ := hu
  have hlt := (List.getElem?_eq_some_iff.1 hz).1
  rw [List.length_take] at hlt
  rw [List.getElem?_take_of_lt (by omega)] at hz
  obtain ⟨b, o', e, hc⟩ := h j z hz
  simp only [Option.some.injEq, Addr.mk.injEq, and_true] at e
  obtain ⟨rfl, rfl⟩ := e
  rw [Go.WideShapes.add_plain]; exact hc

theorem news_dropO {w : World} {g o n : Nat} {zs : List Int} (h : Ints w (some ⟨g, o, none⟩) zs) : ∀ j u, (zCells (zs.drop n))[j]? = some u → w.cell? ((⟨g, o + n, none⟩ : Addr).add j) = some u := fun j u hu => by
  simp only [zCells, List.getElem?_map, Option.map_eq_some_iff, List.getElem?_drop] at hu
  obtain ⟨z, hz, rfl⟩ := hu
  obtain ⟨b, o', e, hc⟩ := h (n + j) z hz
  simp only [Option.some.injEq, Addr.mk.injEq, and_true] at e
  obtain ⟨rfl, rfl⟩ := e
  rw [Go.WideShapes.add_plain, Nat.add_assoc]; exact hc

/-- What l1Put answers. -/
def PutAns (B : Nat) (w : World) (zs : List Int) (r : Ending) (w' : World) : Prop :=
  ∃ a c, r = .returned (.slice a zs.length c) ∧ w'.ownsRow B 3 1 (.slice a zs.length c) zs.length (zCells zs) ∧ Below w.heap.size w w'

theorem ownsZ_mono {w : World} {B B' : Nat} {e : TypeId} {size : Nat} {v : Value} {n : Nat} {xs : List Value} (h : w.ownsRow B e size v n xs) (hB : B' ≤ B) : w.ownsRow B' e size v n xs := by
  obtain ⟨h1, h2 | ⟨g, cap, cur, hv, hg, r⟩⟩ := h
  · exact ⟨h1, .inl h2⟩
  · exact ⟨h1, .inr ⟨g, cap, cur, hv, by omega, r⟩⟩

set_option maxRecDepth 100000 in
set_option maxHeartbeats 4000000 in
theorem l1Put_nil (x : Int) (B : Nat) (w : World) (hB : B ≤ w.heap.size) :
    Calls Tryd.prog 55 #[.slice none 0 0, .int .i64 (x : Int)] w fun r w' => PutAns B w [(x : Int)] r w' := by
  obtain ⟨i0, hi, hz0, hz1, hz2⟩ := info_parts Tryd.infoInt
  have ha : ∀ ob, Below w.heap.size w (w.alloc ob) := fun ob => (Below.refl _ _).alloc (Nat.le_refl _) ob
  go_enter Tryd.func55, Tryd.ntmps55
  go_wp2
  go_loop [5] (fun i => i = .int .i64 0) (fun _ => 0)
  case atStart => rfl
  case round =>
    obtain rfl := hrel
    go_wp2_with (first
      | (at_builtin; refine wpList_append_own_none rfl (.tmp 34) (.tmp 37) 22 rfl w.heap.size 3 i0 1 Tryd.underlying22 hi (.slice none 0 0) 0 [] rfl (World.ownsRow_nil _ _ _ _) rfl ?_)
      | (at_builtin; refine wpList_append_lies _ rfl (.tmp 39) (.tmp 41) 22 rfl w.heap.size 3 i0 _ 1 8 Tryd.underlying22 hi hz0 hz1 hz2 rfl (by decide) (.slice none 0 0) 0 [] rfl (World.ownsRow_nil _ _ _ _) ⟨w.heap.size, 0, none⟩ 1 1 (zCells [(x : Int)]) rfl rfl (World.news_of_block (cs := #[.int .i64 (x : Int)]) (t := 3) (fr := (0, 0)) (by first | exact (heap_alloc_new w _) | simpa using (heap_alloc_new w _))) (by simp [zCells, Value.oneCell']) (by omega) (by unfold maxLen; omega) (by omega) (by simp) (w.heap.size + 1) (by simp) ?_; intro g4 cap4 w4 hown4 hgrow4 hat4 _; try simp only [Nat.zero_add, List.nil_append] at hown4)
      | (at_builtin; refine wpList_append_own_none rfl (.tmp 43) (.tmp 46) 22 rfl w.heap.size 3 i0 1 Tryd.underlying22 hi (.slice (some ⟨g4, 0, none⟩) 1 cap4) 1 (zCells [(x : Int)]) rfl hown4 rfl ?_))
    go_ret
    exact ⟨_, _, rfl, ownsZ_mono hown4 hB, (ha _).grown hgrow4 (by simp) (fun k hk => by simp [Value.ownBlock] at hk)⟩

set_option maxRecDepth 100000 in
set_option maxHeartbeats 8000000 in
theorem l1Put_own (zs : List Int) (x : Int) (hml : zs.length ≤ 100) (B g c : Nat) (w : World) (hB : B ≤ w.heap.size) (hown : w.ownsRow B 3 1 (.slice (some ⟨g, 0, none⟩) zs.length c) zs.length (zCells zs)) (hc : zs.length ≤ c) (hcm : c ≤ maxLen) :
    Calls Tryd.prog 55 #[.slice (some ⟨g, 0, none⟩) zs.length c, .int .i64 (x : Int)] w fun r w' => PutAns B w (putL zs x) r w' := by
  unfold maxLen at hcm
  obtain ⟨i0, hi, hz0, hz1, hz2⟩ := info_parts Tryd.infoInt
  have hI := (ints_of_owns hown).1
  have HOWN : Hid (w.ownsRow B 3 1 (.slice (some ⟨g, 0, none⟩) zs.length c) zs.length (zCells zs)) := hown
  clear hown
  go_enter Tryd.func55, Tryd.ntmps55
  go_wp2
  go_loop [5] (fun i => ∃ k : Nat, k ≤ zs.length ∧ i = .int .i64 (k : Int) ∧ ∀ j, j < k → zA zs j < (x : Int)) (fun i => zs.length - (intOf i).toNat)
  case atStart => exact ⟨0, Nat.zero_le _, rfl, fun i hi => absurd hi (Nat.not_lt_zero _)⟩
  case round =>
    obtain ⟨k, hk, rfl, hok⟩ := hrel
    have HO : Hid (∀ j, j < k → zA zs j < (x : Int)) := hok
    clear hok
    have hnew : (k = zs.length ∨ (x : Int) < zA zs k) → putL zs x = zs.take k ++ [(x : Int)] ++ zs.drop k := fun h => putL_at zs x k hk HO.out h
    have hold : k < zs.length → zA zs k = (x : Int) → putL zs x = zs := fun hl e => putL_old zs x k hl HO.out e
    have HNEW : Hid ((k = zs.length ∨ (x : Int) < zA zs k) → putL zs x = zs.take k ++ [(x : Int)] ++ zs.drop k) := hnew
    have HOLD : Hid (k < zs.length → zA zs k = (x : Int) → putL zs x = zs) := hold
    clear hnew hold
    by_cases hlt : k < zs.length
    · obtain ⟨g', o', e', hcell⟩ := hI k _ (zA_get hlt)
      simp only [Option.some.injEq, Addr.mk.injEq, and_true] at e'
      obtain ⟨rfl, rfl⟩ := e'
      rw [Nat.zero_add] at hcell
      by_cases hlx : zA zs k < (x : Int)
      · clear hI
        go_wp2
        go_round
        case rel =>
          refine ⟨k + 1, by omega, by go_num, fun j hj => ?_⟩
          by_cases e : j = k
          · subst e; exact hlx
          · exact HO.out j (by omega)
        case measure => simp [intOf]; omega
      by_cases hex : zA zs k = (x : Int)
      · have heb : (zA zs k == (x : Int)) = true := by simp [hex]
        have HE := HOLD.out hlt hex
        have HE2 : Hid (putL zs x = zs) := HE
        clear hI HE hex
        go_wp2
        go_ret
        rw [HE2.out]
        exact ⟨_, _, rfl, HOWN.out, Below.refl _ _⟩
      · have heb : (zA zs k == (x : Int)) = false := by simp [hex]
        have HE : Hid (putL zs x = zs.take k ++ [(x : Int)] ++ zs.drop k) := HNEW.out (.inr (by omega))
        clear hex
        have ha : ∀ (u : World) ob, Below u.heap.size u (u.alloc ob) := fun u ob => (Below.refl _ _).alloc (Nat.le_refl _) ob
        have ck : ((k : Nat) : Int) ≤ (c : Int) := by omega
        have tl : (zCells (zs.take k)).length = k * 1 := by rw [zCells_len, List.length_take]; omega
        have q1 : ¬ (c = k) := by omega
        go_wp2_with (first
          | (at_builtin; refine wpList_append_own _ rfl (.tmp 34) (.tmp 37) 22 rfl w.heap.size 3 i0 (.int .i64 0) 1 8 Tryd.underlying22 hi hz0 hz1 hz2 rfl (by decide) (.slice none 0 0) 0 [] rfl (World.ownsRow_nil _ _ _ _) ⟨g, 0, none⟩ k c (zCells (zs.take k)) rfl tl (news_takeO hI) (zCells_one _) (by unfold maxLen; omega) (by omega) (Nat.le_refl _) ?_; intro v1 w1 hown1 hgrow1 _; try simp only [Nat.zero_add, List.nil_append] at hown1; obtain ⟨a1, c1, rfl⟩ := ownsZ_form hown1; have B1 : Below w.heap.size w w1 := (Below.refl _ _).grown hgrow1 (Nat.le_refl _) (fun q hq => by simp [Value.ownBlock] at hq))
          | (at_builtin; refine wpList_append_lies _ rfl (.tmp 39) (.tmp 41) 22 rfl w.heap.size 3 i0 _ 1 8 Tryd.underlying22 hi hz0 hz1 hz2 rfl (by decide) (.slice a1 k c1) k (zCells (zs.take k)) rfl (ownsZ_below hown1 (ha w1 _)) ⟨w1.heap.size, 0, none⟩ 1 1 (zCells [(x : Int)]) rfl rfl (World.news_of_block (cs := #[.int .i64 (x : Int)]) (t := 3) (fr := (0, 0)) (by first | exact (heap_alloc_new w1 _) | simpa using (heap_alloc_new w1 _))) (by simp [zCells, Value.oneCell']) (by omega) (by unfold maxLen; omega) (by omega) (by have := B1.size; simp; omega) (w1.heap.size + 1) (by simp) ?_; intro g2 cap2 w2 hown2 hgrow2 hat2 _; have B2 : Below w.heap.size w w2 := (B1.trans ((ha w1 _).mono B1.size)).grown hgrow2 (by have := B1.size; simp; omega) (fun q hq => (hown1.lt q hq).1))
          | (at_builtin; refine wpList_append_own _ rfl (.tmp 43) (.tmp 46) 22 rfl w.heap.size 3 i0 (.int .i64 0) 1 8 Tryd.underlying22 hi hz0 hz1 hz2 rfl (by decide) (.slice (some ⟨g2, 0, none⟩) (k + 1) cap2) (k + 1) (zCells (zs.take k) ++ zCells [(x : Int)]) rfl hown2 ⟨g, k, none⟩ (zs.length - k) (c - k) (zCells (zs.drop k)) rfl (by rw [zCells_len, List.length_drop]) (by have h := news_dropO (n := k) (hI.below B2); simpa only [Nat.zero_add] using h) (zCells_one _) (by unfold maxLen; omega) (by omega) (by have := B2.size; omega) ?_; intro v3 w3 hown3 hgrow3 _; obtain ⟨a3, c3, rfl⟩ := ownsZ_form hown3; have B3 : Below w.heap.size w w3 := B2.grown hgrow3 (by have := B2.size; omega) (fun q hq => (hown2.lt q hq).1)))
        have HF : Hid (w3.ownsRow B 3 1 (.slice a3 (putL zs x).length c3) (putL zs x).length (zCells (putL zs x))) := by
          show w3.ownsRow _ _ _ _ _ _
          have el : (putL zs x).length = k + 1 + (zs.length - k) := by rw [HE.out]; simp; try omega
          rw [el, HE.out, zCells_app, zCells_app]
          exact ownsZ_mono (by simpa [show zCells [] = [] from rfl] using hown3) hB
        have EL : Hid ((putL zs x).length = k + 1 + (zs.length - k)) := by show _ = _; rw [HE.out]; simp; try omega
        go_ret
        exact ⟨_, _, by rw [EL.out]; rfl, HF.out, B3⟩
    · obtain rfl : k = zs.length := by omega
      have HE : Hid (putL zs x = zs.take zs.length ++ [(x : Int)] ++ zs.drop zs.length) := HNEW.out (.inl rfl)
      have ha : ∀ (u : World) ob, Below u.heap.size u (u.alloc ob) := fun u ob => (Below.refl _ _).alloc (Nat.le_refl _) ob
      have ck : ((zs.length : Nat) : Int) ≤ (c : Int) := by omega
      have tl : (zCells (zs.take zs.length)).length = zs.length * 1 := by rw [zCells_len, List.length_take]; omega
      by_cases hcc : c = zs.length
      · subst hcc
        go_wp2_with (first
          | (at_builtin; refine wpList_append_own _ rfl (.tmp 34) (.tmp 37) 22 rfl w.heap.size 3 i0 (.int .i64 0) 1 8 Tryd.underlying22 hi hz0 hz1 hz2 rfl (by decide) (.slice none 0 0) 0 [] rfl (World.ownsRow_nil _ _ _ _) ⟨g, 0, none⟩ zs.length zs.length (zCells (zs.take zs.length)) rfl tl (news_takeO hI) (zCells_one _) (by unfold maxLen; omega) (by omega) (Nat.le_refl _) ?_; intro v1 w1 hown1 hgrow1 _; try simp only [Nat.zero_add, List.nil_append] at hown1; obtain ⟨a1, c1, rfl⟩ := ownsZ_form hown1; have B1 : Below w.heap.size w w1 := (Below.refl _ _).grown hgrow1 (Nat.le_refl _) (fun q hq => by simp [Value.ownBlock] at hq))
          | (at_builtin; refine wpList_append_lies _ rfl (.tmp 39) (.tmp 41) 22 rfl w.heap.size 3 i0 _ 1 8 Tryd.underlying22 hi hz0 hz1 hz2 rfl (by decide) (.slice a1 zs.length c1) zs.length (zCells (zs.take zs.length)) rfl (ownsZ_below hown1 (ha w1 _)) ⟨w1.heap.size, 0, none⟩ 1 1 (zCells [(x : Int)]) rfl rfl (World.news_of_block (cs := #[.int .i64 (x : Int)]) (t := 3) (fr := (0, 0)) (by first | exact (heap_alloc_new w1 _) | simpa using (heap_alloc_new w1 _))) (by simp [zCells, Value.oneCell']) (by omega) (by unfold maxLen; omega) (by omega) (by have := B1.size; simp; omega) (w1.heap.size + 1) (by simp) ?_; intro g2 cap2 w2 hown2 hgrow2 hat2 _; have B2 : Below w.heap.size w w2 := (B1.trans ((ha w1 _).mono B1.size)).grown hgrow2 (by have := B1.size; simp; omega) (fun q hq => (hown1.lt q hq).1))
          | (at_builtin; refine wpList_append_own _ rfl (.tmp 43) (.tmp 46) 22 rfl w.heap.size 3 i0 (.int .i64 0) 1 8 Tryd.underlying22 hi hz0 hz1 hz2 rfl (by decide) (.slice (some ⟨g2, 0, none⟩) (zs.length + 1) cap2) (zs.length + 1) (zCells (zs.take zs.length) ++ zCells [(x : Int)]) rfl hown2 ⟨g, 0, none⟩ 0 0 [] rfl rfl (fun j u h => by simp at h) (fun u h => by simp at h) (by unfold maxLen; omega) (by omega) (by have := B2.size; omega) ?_; intro v3 w3 hown3 hgrow3 _; obtain ⟨a3, c3, rfl⟩ := ownsZ_form hown3; have B3 : Below w.heap.size w w3 := B2.grown hgrow3 (by have := B2.size; omega) (fun q hq => (hown2.lt q hq).1)))
        have HF : Hid (w3.ownsRow B 3 1 (.slice a3 (putL zs x).length c3) (putL zs x).length (zCells (putL zs x))) := by
          show w3.ownsRow _ _ _ _ _ _
          have el : (putL zs x).length = zs.length + 1 := by rw [HE.out]; simp; try omega
          rw [el, HE.out, zCells_app, zCells_app]
          exact ownsZ_mono (by simpa [show zCells [] = [] from rfl] using hown3) hB
        have EL : Hid ((putL zs x).length = zs.length + 1) := by show _ = _; rw [HE.out]; simp; try omega
        go_ret
        exact ⟨_, _, by rw [EL.out]; rfl, HF.out, B3⟩
      · have q1 : ¬ (c = zs.length) := hcc
        go_wp2_with (first
          | (at_builtin; refine wpList_append_own _ rfl (.tmp 34) (.tmp 37) 22 rfl w.heap.size 3 i0 (.int .i64 0) 1 8 Tryd.underlying22 hi hz0 hz1 hz2 rfl (by decide) (.slice none 0 0) 0 [] rfl (World.ownsRow_nil _ _ _ _) ⟨g, 0, none⟩ zs.length c (zCells (zs.take zs.length)) rfl tl (news_takeO hI) (zCells_one _) (by unfold maxLen; omega) (by omega) (Nat.le_refl _) ?_; intro v1 w1 hown1 hgrow1 _; try simp only [Nat.zero_add, List.nil_append] at hown1; obtain ⟨a1, c1, rfl⟩ := ownsZ_form hown1; have B1 : Below w.heap.size w w1 := (Below.refl _ _).grown hgrow1 (Nat.le_refl _) (fun q hq => by simp [Value.ownBlock] at hq))
          | (at_builtin; refine wpList_append_lies _ rfl (.tmp 39) (.tmp 41) 22 rfl w.heap.size 3 i0 _ 1 8 Tryd.underlying22 hi hz0 hz1 hz2 rfl (by decide) (.slice a1 zs.length c1) zs.length (zCells (zs.take zs.length)) rfl (ownsZ_below hown1 (ha w1 _)) ⟨w1.heap.size, 0, none⟩ 1 1 (zCells [(x : Int)]) rfl rfl (World.news_of_block (cs := #[.int .i64 (x : Int)]) (t := 3) (fr := (0, 0)) (by first | exact (heap_alloc_new w1 _) | simpa using (heap_alloc_new w1 _))) (by simp [zCells, Value.oneCell']) (by omega) (by unfold maxLen; omega) (by omega) (by have := B1.size; simp; omega) (w1.heap.size + 1) (by simp) ?_; intro g2 cap2 w2 hown2 hgrow2 hat2 _; have B2 : Below w.heap.size w w2 := (B1.trans ((ha w1 _).mono B1.size)).grown hgrow2 (by have := B1.size; simp; omega) (fun q hq => (hown1.lt q hq).1))
          | (at_builtin; refine wpList_append_own _ rfl (.tmp 43) (.tmp 46) 22 rfl w.heap.size 3 i0 (.int .i64 0) 1 8 Tryd.underlying22 hi hz0 hz1 hz2 rfl (by decide) (.slice (some ⟨g2, 0, none⟩) (zs.length + 1) cap2) (zs.length + 1) (zCells (zs.take zs.length) ++ zCells [(x : Int)]) rfl hown2 ⟨g, zs.length, none⟩ 0 (c - zs.length) [] rfl rfl (fun j u h => by simp at h) (fun u h => by simp at h) (by unfold maxLen; omega) (by omega) (by have := B2.size; omega) ?_; intro v3 w3 hown3 hgrow3 _; obtain ⟨a3, c3, rfl⟩ := ownsZ_form hown3; have B3 : Below w.heap.size w w3 := B2.grown hgrow3 (by have := B2.size; omega) (fun q hq => (hown2.lt q hq).1)))
        have HF : Hid (w3.ownsRow B 3 1 (.slice a3 (putL zs x).length c3) (putL zs x).length (zCells (putL zs x))) := by
          show w3.ownsRow _ _ _ _ _ _
          have el : (putL zs x).length = zs.length + 1 := by rw [HE.out]; simp; try omega
          rw [el, HE.out, zCells_app, zCells_app]
          exact ownsZ_mono (by simpa [show zCells [] = [] from rfl] using hown3) hB
        have EL : Hid ((putL zs x).length = zs.length + 1) := by show _ = _; rw [HE.out]; simp; try omega
        go_ret
        exact ⟨_, _, by rw [EL.out]; rfl, HF.out, B3⟩

theorem l1Put_any (zs : List Int) (x : Int) (hml : zs.length ≤ 100) (B : Nat) (a : Option Addr) (c : Nat) (w : World) (hB : B ≤ w.heap.size) (hown : w.ownsRow B 3 1 (.slice a zs.length c) zs.length (zCells zs)) :
    Calls Tryd.prog 55 #[.slice a zs.length c, .int .i64 (x : Int)] w fun r w' => PutAns B w (putL zs x) r w' := by
  have h0 := hown
  obtain ⟨-, ⟨hv, hl⟩ | ⟨g, cap, cur, hv, -, -, hc, hm, -⟩⟩ := h0
  · obtain rfl : zs = [] := List.eq_nil_of_length_eq_zero hl
    simp only [Value.slice.injEq] at hv
    obtain ⟨rfl, -, rfl⟩ := hv
    exact l1Put_nil x B w hB
  · simp only [Value.slice.injEq] at hv
    obtain ⟨rfl, -, rfl⟩ := hv
    exact l1Put_own zs x hml B g c w hB hown hc hm

end Go.Proofs.YtkhbgdnhkaeamaaDoor

namespace Go.Proofs.YtkhbgdnhkaeamaaDoor
open Go.RowKit

theorem owns_setO {w : World} {B b o : Nat} {t : TypeId} {size n : Nat} {v u : Value} {xs : List Value} (h : w.ownsRow B t size v n xs) (hb : b < B) : (w.setCell ⟨b, o, none⟩ u).ownsRow B t size v n xs := by
  obtain ⟨o1, o2⟩ := h
  exact ⟨o1, o2.imp id fun ⟨g', cap', cur, hv, hg, hh, r⟩ => ⟨g', cap', cur, hv, hg, (Below.heap_setCell w ⟨b, o, none⟩ _ g' (by simp; omega)).trans hh, r⟩⟩

set_option maxRecDepth 100000 in
set_option maxHeartbeats 16000000 in
theorem l11Own_any (s : Gr) (a0 a1 : Option Addr) (c0 c1 : Nat) (w : World) (hs : GrR w s a0 a1) (hls : s.steps.length ≤ 1000000) (hlr : s.reps.length ≤ 1000000) (h0 : 0 < s.reps.length) (hlog : ∀ (i : Nat) (p : Rp), s.reps[i]? = some p → p.log.length ≤ 1000) :
    Calls Tryd.prog 42 #[grV s a0 c0 a1 c1] w fun r w' => ∃ b0 d0 R c1' qs, r = .returned (grV s b0 d0 (some ⟨R, 0, none⟩) c1') ∧ Gow w' w.heap.size s b0 R qs ∧ w'.ownsRow w.heap.size 3 1 (.slice b0 s.steps.length d0) s.steps.length (zCells s.steps) ∧ Below w.heap.size w w' := by
  obtain ⟨i0, hi0, hz0', hz1', hz2'⟩ := infoZ Tryd.infoInt
  obtain ⟨i1, hi1, hy0, hy1, hy2⟩ := infoZ Tryd.infoRw
  obtain ⟨i2, hi2, hw0, hw1, hw2⟩ := infoZ Tryd.infoRp
  obtain ⟨x9, hx9⟩ : ∃ u, ((w.alloc (.cells #[.int .i64 s.epoch, .int .i64 s.leader, .slice a0 s.steps.length c0, .int .i64 s.high, .slice a1 s.reps.length c1] 25)).alloc (.cells #[.int .i64 0, .int .i64 0, .slice none 0 0, .int .i64 0, .slice none 0 0] 25)) = u := ⟨_, rfl⟩
  obtain ⟨x0, hx0⟩ : ∃ u, x9.drew = u := ⟨_, rfl⟩
  have b0 : Below w.heap.size w x0 := by rw [← hx0, ← hx9]; exact (((Below.refl _ _).alloc (Nat.le_refl _) _).alloc (by simp) _).drew
  have hz0a : x0.heap.size ≤ w.heap.size + 2 := by rw [← hx0, ← hx9]; simp [World.drew]
  have hz0b : w.heap.size + 2 ≤ x0.heap.size := by rw [← hx0, ← hx9]; simp [World.drew]
  have g0 : x0.cell? ⟨w.heap.size, 0, none⟩ = some (.int .i64 s.epoch) := by rw [← hx0, ← hx9]; simp [go_sem]
  have g1 : x0.cell? ⟨w.heap.size, 1, none⟩ = some (.int .i64 s.leader) := by rw [← hx0, ← hx9]; simp [go_sem]
  have g2 : x0.cell? ⟨w.heap.size, 2, none⟩ = some (.slice a0 s.steps.length c0) := by rw [← hx0, ← hx9]; simp [go_sem]
  have g3 : x0.cell? ⟨w.heap.size, 3, none⟩ = some (.int .i64 s.high) := by rw [← hx0, ← hx9]; simp [go_sem]
  have g4 : x0.cell? ⟨w.heap.size, 4, none⟩ = some (.slice a1 s.reps.length c1) := by rw [← hx0, ← hx9]; simp [go_sem]
  have z0 : x0.cell? ⟨w.heap.size + 1, 0, none⟩ = some (.int .i64 0) := by rw [← hx0, ← hx9]; simp [go_sem]
  have z1 : x0.cell? ⟨w.heap.size + 1, 1, none⟩ = some (.int .i64 0) := by rw [← hx0, ← hx9]; simp [go_sem]
  have z2 : x0.cell? ⟨w.heap.size + 1, 2, none⟩ = some (.slice none 0 0) := by rw [← hx0, ← hx9]; simp [go_sem]
  have z3 : x0.cell? ⟨w.heap.size + 1, 3, none⟩ = some (.int .i64 0) := by rw [← hx0, ← hx9]; simp [go_sem]
  have z4 : x0.cell? ⟨w.heap.size + 1, 4, none⟩ = some (.slice none 0 0) := by rw [← hx0, ← hx9]; simp [go_sem]
  have zf : ∀ o, x0.frozen? ⟨w.heap.size + 1, o, none⟩ = false := fun o => by rw [← hx0, ← hx9]; simp [go_sem]
  have hst := hs.steps.below b0
  have kk0 : x0.cell? ⟨w.heap.size, 0, none⟩ = some (.int .i64 s.epoch) ∧ x0.cell? ⟨w.heap.size, 1, none⟩ = some (.int .i64 s.leader) ∧ x0.cell? ⟨w.heap.size, 2, none⟩ = some (.slice a0 s.steps.length c0) ∧ x0.cell? ⟨w.heap.size, 3, none⟩ = some (.int .i64 s.high) ∧ x0.cell? ⟨w.heap.size, 4, none⟩ = some (.slice a1 s.reps.length c1) := ⟨g0, g1, g2, g3, g4⟩
  have HB0 : Below x0.heap.size x0 x0 := Below.refl _ _
  go_enter Tryd.func42, Tryd.ntmps42
  go_wp2_with fail
  try rw [hx9]
  refine wp_region_noPanic ?_
  refine wp_region_held_drew (S := fun w' => w'.cell? ⟨w.heap.size, 0, none⟩ = some (.int .i64 s.epoch) ∧ w'.cell? ⟨w.heap.size, 1, none⟩ = some (.int .i64 s.leader) ∧ w'.cell? ⟨w.heap.size, 2, none⟩ = some (.slice a0 s.steps.length c0) ∧ w'.cell? ⟨w.heap.size, 3, none⟩ = some (.int .i64 s.high) ∧ w'.cell? ⟨w.heap.size, 4, none⟩ = some (.slice a1 s.reps.length c1)) (by kernel_rfl) (by rw [hx0]; exact kk0) (fun hHn => ?_)
  rw [hx0]
  clear hx0 hx9
  refine wpAnyH_take (i := 0) (oi := ⟨_, _, _, _, _, _⟩) (v := ?vt1x) rfl (by kernel_rfl) (by kernel_rfl) (by kernel_rfl) (fun _ _ _ h => h) (Or.inl ⟨by rfl, ?yt1x⟩) (by assumption) ?rt1x
  case yt1x => intro w hSw; (try dsimp only at hSw); go_simp; try with_reducible rfl
  try simp only [Act.put, List.setIfInBounds_toArray, List.set_cons_zero, List.set_cons_succ]
  refine wpAnyH_take (i := 1) (oi := ⟨_, _, _, _, _, _⟩) (v := ?vt2x) rfl (by kernel_rfl) (by kernel_rfl) (by kernel_rfl) (fun _ _ _ h => h) (Or.inl ⟨by rfl, ?yt2x⟩) (by assumption) ?rt2x
  case yt2x => intro w hSw; (try dsimp only at hSw); go_simp; try with_reducible rfl
  try simp only [Act.put, List.setIfInBounds_toArray, List.set_cons_zero, List.set_cons_succ]
  refine wpAnyH_take (i := 2) (oi := ⟨_, _, _, _, _, _⟩) (v := ?vt3x) rfl (by kernel_rfl) (by kernel_rfl) (by kernel_rfl) (fun _ _ _ h => h) (Or.inl ⟨by rfl, ?yt3x⟩) (by assumption) ?rt3x
  case yt3x => intro w hSw; (try dsimp only at hSw); go_simp; try with_reducible rfl
  try simp only [Act.put, List.setIfInBounds_toArray, List.set_cons_zero, List.set_cons_succ]
  refine wpAnyH_take (i := 3) (oi := ⟨_, _, _, _, _, _⟩) (v := ?vt4x) rfl (by kernel_rfl) (by kernel_rfl) (by kernel_rfl) (fun _ _ _ h => h) (Or.inl ⟨by rfl, ?yt4x⟩) (by assumption) ?rt4x
  case yt4x => intro w hSw; (try dsimp only at hSw); go_simp; try with_reducible rfl
  try simp only [Act.put, List.setIfInBounds_toArray, List.set_cons_zero, List.set_cons_succ]
  refine wpAnyH_take (i := 5) (oi := ⟨_, _, _, _, _, _⟩) (v := ?vt5x) rfl (by kernel_rfl) (by kernel_rfl) (by kernel_rfl) (fun _ _ _ h => h) (Or.inl ⟨by rfl, ?yt5x⟩) (by assumption) ?rt5x
  case yt5x => intro w hSw; (try dsimp only at hSw); go_simp; try with_reducible rfl
  try simp only [Act.put, List.setIfInBounds_toArray, List.set_cons_zero, List.set_cons_succ]
  refine wpAnyH_take (i := 6) (oi := ⟨_, _, _, _, _, _⟩) (v := ?vt6x) rfl (by kernel_rfl) (by kernel_rfl) (by kernel_rfl) (fun _ _ _ h => h) (Or.inl ⟨by rfl, ?yt6x⟩) (by assumption) ?rt6x
  case yt6x => intro w hSw; (try dsimp only at hSw); go_simp; try with_reducible rfl
  try simp only [Act.put, List.setIfInBounds_toArray, List.set_cons_zero, List.set_cons_succ]
  refine wpAnyH_take (i := 8) (oi := ⟨_, _, _, _, _, _⟩) (v := ?vt7x) rfl (by kernel_rfl) (by kernel_rfl) (by kernel_rfl) (fun _ _ _ h => h) (Or.inl ⟨by rfl, ?yt7x⟩) (by assumption) ?rt7x
  case yt7x => intro w hSw; (try dsimp only at hSw); go_simp; try with_reducible rfl
  try simp only [Act.put, List.setIfInBounds_toArray, List.set_cons_zero, List.set_cons_succ]
  refine wpAnyH_take (i := 9) (oi := ⟨_, _, _, _, _, _⟩) (v := ?vt8x) rfl (by kernel_rfl) (by kernel_rfl) (by kernel_rfl) (fun _ _ _ h => h) (Or.inl ⟨by rfl, ?yt8x⟩) (by assumption) ?rt8x
  case yt8x => intro w hSw; (try dsimp only at hSw); go_simp; try with_reducible rfl
  try simp only [Act.put, List.setIfInBounds_toArray, List.set_cons_zero, List.set_cons_succ]
  refine wpAnyH_ready (rs := [4, 11]) (by kernel_rfl) (by simp) ?_
  refine AllReadyH.cons (o := ⟨_, _, _, _, _, _⟩) rfl (fun KK hK => ?b9n0) (AllReadyH.cons (o := ⟨_, _, _, _, _, _⟩) rfl (fun KK hK => ?b9n1) AllReadyH.nil)
  case b9n0 =>
    obtain ⟨x1, hx1⟩ : ∃ u, x0.alloc (.cells #[] 3) = u := ⟨_, rfl⟩
    have HE0 : x1.heap[x0.heap.size]? = some (.cells #[] 3 (0, 0)) := by rw [← hx1]; exact heap_alloc_new _ _
    have hE0 : x0.heap.size < x1.heap.size := by rw [← hx1]; simp
    have hE9 : x0.heap.size ≤ x0.heap.size := HB0.size
    have hBk : Below x0.heap.size x0 x1 := by rw [← hx1]; exact alGr _ _
    have HB1 : Below x0.heap.size x0 x1 := stGr HB0 hBk
    have kk1 : x1.cell? ⟨w.heap.size, 0, none⟩ = some (.int .i64 s.epoch) ∧ x1.cell? ⟨w.heap.size, 1, none⟩ = some (.int .i64 s.leader) ∧ x1.cell? ⟨w.heap.size, 2, none⟩ = some (.slice a0 s.steps.length c0) ∧ x1.cell? ⟨w.heap.size, 3, none⟩ = some (.int .i64 s.high) ∧ x1.cell? ⟨w.heap.size, 4, none⟩ = some (.slice a1 s.reps.length c1) := ⟨celB hBk kk0.1, celB hBk kk0.2.1, celB hBk kk0.2.2.1, celB hBk kk0.2.2.2.1, celB hBk kk0.2.2.2.2⟩
    go_simp
    refine hK.out _ _ kk1 (fun hHn => ?_)
    clear hK KK
    try simp only [Act.put, List.setIfInBounds_toArray, List.set_cons_zero, List.set_cons_succ]
    clear hx1 hBk
    refine wpAnyH_ready (rs := [7, 11]) (by kernel_rfl) (by simp) ?_
    refine AllReadyH.cons (o := ⟨_, _, _, _, _, _⟩) rfl (fun KK hK => ?b10n0) (AllReadyH.cons (o := ⟨_, _, _, _, _, _⟩) rfl (fun KK hK => ?b10n1) AllReadyH.nil)
    case b10n0 =>
      refine step_appZ _ (by rfl) _ _ 22 (by rfl) x0.heap.size 3 i0 _ 1 8 Tryd.underlying22 hi0 hz0' hz1' hz2' rfl (by decide) (.slice (some ⟨x0.heap.size, 0, none⟩) 0 0) 0 [] (by rfl) (owns_emptyZ HE0 (Nat.le_refl _)) (.slice a0 s.steps.length c0) s.steps.length (zCells s.steps) (by rfl) (srcZ_ints _ (hst.below HB1)) (by unfold maxLen; omega) (by omega) (by omega) ?_
      intro v x2 hown hgrow hat
      try simp only [Nat.zero_add, List.nil_append] at hown
      obtain ⟨bv, dv, rfl⟩ := ownsZ_form hown
      have hOs := ownsZ_mono hown hE9
      have hBl : ∀ b o v, x1.cell? ⟨b, o, none⟩ = some v → b ≠ x0.heap.size → x2.cell? ⟨b, o, none⟩ = some v := fun b o v hc hne => (World.cell?_of_block (a := ⟨b, o, none⟩) (hgrow.block b (lt_of_cell hc) (fun e => hne (by simpa [Value.ownBlock] using e)))).trans hc
      have hBf : ∀ b o, b < x1.heap.size → b ≠ x0.heap.size → x2.frozen? ⟨b, o, none⟩ = x1.frozen? ⟨b, o, none⟩ := fun b o hlt hne => World.frozen?_of_block (a := ⟨b, o, none⟩) (hgrow.block b hlt (fun e => hne (by simpa [Value.ownBlock] using e)))
      have HB2 : Below x0.heap.size x0 x2 := HB1.grown hgrow HB1.size (fun b hb => by simp [Value.ownBlock] at hb; omega)
      have kk2 : x2.cell? ⟨w.heap.size, 0, none⟩ = some (.int .i64 s.epoch) ∧ x2.cell? ⟨w.heap.size, 1, none⟩ = some (.int .i64 s.leader) ∧ x2.cell? ⟨w.heap.size, 2, none⟩ = some (.slice a0 s.steps.length c0) ∧ x2.cell? ⟨w.heap.size, 3, none⟩ = some (.int .i64 s.high) ∧ x2.cell? ⟨w.heap.size, 4, none⟩ = some (.slice a1 s.reps.length c1) := ⟨hBl _ _ _ kk1.1 (by omega), hBl _ _ _ kk1.2.1 (by omega), hBl _ _ _ kk1.2.2.1 (by omega), hBl _ _ _ kk1.2.2.2.1 (by omega), hBl _ _ _ kk1.2.2.2.2 (by omega)⟩
      have HOl := hOs
      refine hK.out _ _ kk2 (fun hHn => ?_)
      clear hK KK
      try simp only [Act.put, List.setIfInBounds_toArray, List.set_cons_zero, List.set_cons_succ]
      clear hgrow hat hown hBl hBf
      refine wpAnyH_take (i := 10) (oi := ⟨_, _, _, _, _, _⟩) (v := ?vt11x) rfl (by kernel_rfl) (by kernel_rfl) (by kernel_rfl) (fun _ _ _ h => h) (Or.inl ⟨by rfl, ?yt11x⟩) (by assumption) ?rt11x
      case yt11x => intro w hSw; (try dsimp only at hSw); go_simp; try with_reducible rfl
      try simp only [Act.put, List.setIfInBounds_toArray, List.set_cons_zero, List.set_cons_succ]
      refine wpAnyH_ready (rs := [11]) (by kernel_rfl) (by simp) ?_
      refine AllReadyH.cons (o := ⟨_, _, _, _, _, _⟩) rfl (fun KK hK => ?b12n0) AllReadyH.nil
      case b12n0 =>
        obtain ⟨x3, hx3⟩ : ∃ u, x2.alloc (.cells #[.int .i64 0, .int .i64 0, .slice none 0 0, .int .i64 0, .slice none 0 0] 25) = u := ⟨_, rfl⟩
        have e0 : x3.cell? ⟨x2.heap.size, 0, none⟩ = some (.int .i64 0) := by rw [← hx3]; simp [go_sem]
        have e1 : x3.cell? ⟨x2.heap.size, 1, none⟩ = some (.int .i64 0) := by rw [← hx3]; simp [go_sem]
        have e2 : x3.cell? ⟨x2.heap.size, 2, none⟩ = some (.slice none 0 0) := by rw [← hx3]; simp [go_sem]
        have e3 : x3.cell? ⟨x2.heap.size, 3, none⟩ = some (.int .i64 0) := by rw [← hx3]; simp [go_sem]
        have e4 : x3.cell? ⟨x2.heap.size, 4, none⟩ = some (.slice none 0 0) := by rw [← hx3]; simp [go_sem]
        have ef : ∀ o, x3.frozen? ⟨x2.heap.size, o, none⟩ = false := fun o => by rw [← hx3]; simp [go_sem]
        have hEb : x2.heap.size < x3.heap.size := by rw [← hx3]; simp
        have hEx : x0.heap.size ≤ x2.heap.size := HB2.size
        have hBk : Below x2.heap.size x2 x3 := by rw [← hx3]; exact alGr _ _
        have HB3 : Below x0.heap.size x0 x3 := stGr HB2 hBk
        have kk3 : x3.cell? ⟨w.heap.size, 0, none⟩ = some (.int .i64 s.epoch) ∧ x3.cell? ⟨w.heap.size, 1, none⟩ = some (.int .i64 s.leader) ∧ x3.cell? ⟨w.heap.size, 2, none⟩ = some (.slice a0 s.steps.length c0) ∧ x3.cell? ⟨w.heap.size, 3, none⟩ = some (.int .i64 s.high) ∧ x3.cell? ⟨w.heap.size, 4, none⟩ = some (.slice a1 s.reps.length c1) := ⟨celB hBk kk2.1, celB hBk kk2.2.1, celB hBk kk2.2.2.1, celB hBk kk2.2.2.2.1, celB hBk kk2.2.2.2.2⟩
        replace HOl := ownsZ_below HOl hBk
        have hEd : ∀ b, (Value.slice bv s.steps.length dv).ownBlock = some b → b ≠ x2.heap.size := fun b e => by have := (hOs.lt b e).2; omega
        go_simp
        refine hK.out _ _ kk3 (fun hHn => ?_)
        clear hK KK
        try simp only [Act.put, List.setIfInBounds_toArray, List.set_cons_zero, List.set_cons_succ]
        clear hx3 hBk
        refine wpAnyH_ready (rs := [12]) (by kernel_rfl) (by simp) ?_
        refine AllReadyH.cons (o := ⟨_, _, _, _, _, _⟩) rfl (fun KK hK => ?b13n0) AllReadyH.nil
        case b13n0 =>
          have kkS : (((((x3.setCell ⟨x2.heap.size, 0, none⟩ (.int .i64 s.epoch)).setCell ⟨x2.heap.size, 1, none⟩ (.int .i64 s.leader)).setCell ⟨x2.heap.size, 2, none⟩ (.slice bv s.steps.length dv)).setCell ⟨x2.heap.size, 3, none⟩ (.int .i64 s.high)).setCell ⟨x2.heap.size, 4, none⟩ (.slice none 0 0)).cell? ⟨w.heap.size, 0, none⟩ = some (.int .i64 s.epoch) ∧ (((((x3.setCell ⟨x2.heap.size, 0, none⟩ (.int .i64 s.epoch)).setCell ⟨x2.heap.size, 1, none⟩ (.int .i64 s.leader)).setCell ⟨x2.heap.size, 2, none⟩ (.slice bv s.steps.length dv)).setCell ⟨x2.heap.size, 3, none⟩ (.int .i64 s.high)).setCell ⟨x2.heap.size, 4, none⟩ (.slice none 0 0)).cell? ⟨w.heap.size, 1, none⟩ = some (.int .i64 s.leader) ∧ (((((x3.setCell ⟨x2.heap.size, 0, none⟩ (.int .i64 s.epoch)).setCell ⟨x2.heap.size, 1, none⟩ (.int .i64 s.leader)).setCell ⟨x2.heap.size, 2, none⟩ (.slice bv s.steps.length dv)).setCell ⟨x2.heap.size, 3, none⟩ (.int .i64 s.high)).setCell ⟨x2.heap.size, 4, none⟩ (.slice none 0 0)).cell? ⟨w.heap.size, 2, none⟩ = some (.slice a0 s.steps.length c0) ∧ (((((x3.setCell ⟨x2.heap.size, 0, none⟩ (.int .i64 s.epoch)).setCell ⟨x2.heap.size, 1, none⟩ (.int .i64 s.leader)).setCell ⟨x2.heap.size, 2, none⟩ (.slice bv s.steps.length dv)).setCell ⟨x2.heap.size, 3, none⟩ (.int .i64 s.high)).setCell ⟨x2.heap.size, 4, none⟩ (.slice none 0 0)).cell? ⟨w.heap.size, 3, none⟩ = some (.int .i64 s.high) ∧ (((((x3.setCell ⟨x2.heap.size, 0, none⟩ (.int .i64 s.epoch)).setCell ⟨x2.heap.size, 1, none⟩ (.int .i64 s.leader)).setCell ⟨x2.heap.size, 2, none⟩ (.slice bv s.steps.length dv)).setCell ⟨x2.heap.size, 3, none⟩ (.int .i64 s.high)).setCell ⟨x2.heap.size, 4, none⟩ (.slice none 0 0)).cell? ⟨w.heap.size, 4, none⟩ = some (.slice a1 s.reps.length c1) := ⟨by rw [World.cell?_setCell_other _ _ _ _ (by first | (simp; done) | (simp; omega)), World.cell?_setCell_other _ _ _ _ (by first | (simp; done) | (simp; omega)), World.cell?_setCell_other _ _ _ _ (by first | (simp; done) | (simp; omega)), World.cell?_setCell_other _ _ _ _ (by first | (simp; done) | (simp; omega)), World.cell?_setCell_other _ _ _ _ (by first | (simp; done) | (simp; omega))]; exact kk3.1, by rw [World.cell?_setCell_other _ _ _ _ (by first | (simp; done) | (simp; omega)), World.cell?_setCell_other _ _ _ _ (by first | (simp; done) | (simp; omega)), World.cell?_setCell_other _ _ _ _ (by first | (simp; done) | (simp; omega)), World.cell?_setCell_other _ _ _ _ (by first | (simp; done) | (simp; omega)), World.cell?_setCell_other _ _ _ _ (by first | (simp; done) | (simp; omega))]; exact kk3.2.1, by rw [World.cell?_setCell_other _ _ _ _ (by first | (simp; done) | (simp; omega)), World.cell?_setCell_other _ _ _ _ (by first | (simp; done) | (simp; omega)), World.cell?_setCell_other _ _ _ _ (by first | (simp; done) | (simp; omega)), World.cell?_setCell_other _ _ _ _ (by first | (simp; done) | (simp; omega)), World.cell?_setCell_other _ _ _ _ (by first | (simp; done) | (simp; omega))]; exact kk3.2.2.1, by rw [World.cell?_setCell_other _ _ _ _ (by first | (simp; done) | (simp; omega)), World.cell?_setCell_other _ _ _ _ (by first | (simp; done) | (simp; omega)), World.cell?_setCell_other _ _ _ _ (by first | (simp; done) | (simp; omega)), World.cell?_setCell_other _ _ _ _ (by first | (simp; done) | (simp; omega)), World.cell?_setCell_other _ _ _ _ (by first | (simp; done) | (simp; omega))]; exact kk3.2.2.2.1, by rw [World.cell?_setCell_other _ _ _ _ (by first | (simp; done) | (simp; omega)), World.cell?_setCell_other _ _ _ _ (by first | (simp; done) | (simp; omega)), World.cell?_setCell_other _ _ _ _ (by first | (simp; done) | (simp; omega)), World.cell?_setCell_other _ _ _ _ (by first | (simp; done) | (simp; omega)), World.cell?_setCell_other _ _ _ _ (by first | (simp; done) | (simp; omega))]; exact kk3.2.2.2.2⟩
          go_simp
          refine hK.out _ _ kkS (fun hHn => ?_)
          clear hK KK
          try simp only [Act.put, List.setIfInBounds_toArray, List.set_cons_zero, List.set_cons_succ]
          refine wpAnyH_done (by kernel_rfl) (NoPanic.normal ?_) _
          obtain ⟨x, hx⟩ : ∃ u, (((((x3.setCell ⟨x2.heap.size, 0, none⟩ (.int .i64 s.epoch)).setCell ⟨x2.heap.size, 1, none⟩ (.int .i64 s.leader)).setCell ⟨x2.heap.size, 2, none⟩ (.slice bv s.steps.length dv)).setCell ⟨x2.heap.size, 3, none⟩ (.int .i64 s.high)).setCell ⟨x2.heap.size, 4, none⟩ (.slice none 0 0)) = u := ⟨_, rfl⟩
          try rw [hx]
          obtain ⟨S, hS⟩ : ∃ S, x2.heap.size = S := ⟨_, rfl⟩
          have hSx : S < x.heap.size := by rw [← hx, ← hS]; simpa using hEb
          have hxz : x0.heap.size ≤ S := by rw [← hS]; exact hEx
          have Bx : Below x0.heap.size x0 x := by rw [← hx]; exact ((((HB3.setCell hEx _).setCell hEx _).setCell hEx _).setCell hEx _).setCell hEx _
          have d0 : x.cell? ⟨S, 0, none⟩ = some (.int .i64 s.epoch) := by rw [← hx, ← hS]; simp [go_sem, e0]
          have d1 : x.cell? ⟨S, 1, none⟩ = some (.int .i64 s.leader) := by rw [← hx, ← hS]; simp [go_sem, e1]
          have d2 : x.cell? ⟨S, 2, none⟩ = some (.slice bv s.steps.length dv) := by rw [← hx, ← hS]; simp [go_sem, e2]
          have d3 : x.cell? ⟨S, 3, none⟩ = some (.int .i64 s.high) := by rw [← hx, ← hS]; simp [go_sem, e3]
          have d4 : x.cell? ⟨S, 4, none⟩ = some (.slice none 0 0) := by rw [← hx, ← hS]; simp [go_sem, e4]
          have df : ∀ o, x.frozen? ⟨S, o, none⟩ = false := fun o => by rw [← hx, ← hS]; simp [go_sem, ef]
          have HOx : Hid (x.ownsRow x0.heap.size 3 1 (.slice bv s.steps.length dv) s.steps.length (zCells s.steps)) := by
            obtain ⟨o1, o2⟩ := HOl
            refine ⟨o1, o2.imp id fun ⟨g', cap', cur, hv, hg, hh, r⟩ => ⟨g', cap', cur, hv, hg, ?_, r⟩⟩
            have hne := hEd g' (by rw [hv]; simp [Value.ownBlock])
            rw [← hx, Below.heap_setCell _ ⟨x2.heap.size, _, none⟩ _ g' (fun e => hne e), Below.heap_setCell _ ⟨x2.heap.size, _, none⟩ _ g' (fun e => hne e), Below.heap_setCell _ ⟨x2.heap.size, _, none⟩ _ g' (fun e => hne e), Below.heap_setCell _ ⟨x2.heap.size, _, none⟩ _ g' (fun e => hne e), Below.heap_setCell _ ⟨x2.heap.size, _, none⟩ _ g' (fun e => hne e)]
            exact hh
          have HEd : Hid (∀ b, (Value.slice bv s.steps.length dv).ownBlock = some b → b ≠ S ∧ b < x.heap.size) := fun b e => ⟨by rw [← hS]; exact hEd b e, (HOx.out.lt b e).2⟩
          try rw [hS]
          have hOw0 : OwS S x x (.slice none 0 0) [] := ⟨World.ownsRow_nil _ _ _ _, fun i q hq => by simp at hq, fun i q b hq => by simp at hq, fun i j q q' b hq => by simp at hq, fun _ _ _ => rfl, Nat.le_refl _, fun _ _ => Below.refl _ _, fun _ _ _ h => h, d4, df⟩
          have hBx := Bx.size
          have j0 := celB Bx g0
          have j1 := celB Bx g1
          have j2 := celB Bx g2
          have j3 := celB Bx g3
          have j4 := celB Bx g4
          clear hx hS kkS ef e0 e1 e2 e3 e4 hEb hEx hEd HOl hOs HE0 hE0 hE9 hHn
          go_wp2
          clear j0 j1 j2 j3 j4
          go_loopw [20] (fun i wr => ∃ (k : Nat) (v : Value) (qs : List Rq), k ≤ s.reps.length ∧ i = .int .i64 k ∧ Hid (qs.map Rq.p = s.reps.take k) ∧ OwS S x wr v qs) (fun i _ => s.reps.length - (intOf i).toNat)
          case atStart => exact ⟨0, _, [], Nat.zero_le _, rfl, rfl, hOw0⟩
          case round =>
            clear hOw0
            obtain ⟨k, v, qs, hk, rfl, HQ, hst'⟩ := hrel
            have BR : Below x0.heap.size x0 wr := Bx.trans (hst'.bel _ hxz)
            have hzr := hst'.size
            have hqa : qs.length ≤ k := by have := congrArg List.length HQ.out; simp at this; omega
            have hqb : k ≤ qs.length := by have := congrArg List.length HQ.out; simp at this; omega
            have cS := hst'.c4
            have fS := hst'.fr
            by_cases hlt : k < s.reps.length
            · obtain ⟨p, hp⟩ := getRp hlt
              obtain ⟨K, o, ea, r0, k0, f0, f1, f2, zl, ml⟩ := ((hs.reps.below b0).below BR) k p hp
              subst ea
              have hp30 := hlog k p hp
              have hki : (k : Int) < (s.reps.length : Int) := by omega
              have HP : Hid (s.reps[k]? = some p) := hp
              clear hp
              obtain ⟨u1, hu1⟩ : ∃ u, wr.alloc (.cells #[.slice r0 p.log.length k0, .int .i64 p.epoch, .int .i64 p.known] 81) = u := ⟨_, rfl⟩
              have B1 : Below wr.heap.size wr u1 := by rw [← hu1]; exact alGr _ _
              have z1a : u1.heap.size ≤ wr.heap.size + 1 := by rw [← hu1]; simp
              have z1b : wr.heap.size + 1 ≤ u1.heap.size := by rw [← hu1]; simp
              have m0 : u1.cell? ⟨wr.heap.size, 0, none⟩ = some (.slice r0 p.log.length k0) := by rw [← hu1]; simp [go_sem]
              have m1 : u1.cell? ⟨wr.heap.size, 1, none⟩ = some (.int .i64 p.epoch) := by rw [← hu1]; simp [go_sem]
              have m2 : u1.cell? ⟨wr.heap.size, 2, none⟩ = some (.int .i64 p.known) := by rw [← hu1]; simp [go_sem]
              have mf : ∀ o, u1.frozen? ⟨wr.heap.size, o, none⟩ = false := fun o => by rw [← hu1]; simp [go_sem]
              obtain ⟨u2, hu2⟩ : ∃ u, u1.alloc (.cells #[] 98) = u := ⟨_, rfl⟩
              have B2 : Below u1.heap.size u1 u2 := by rw [← hu2]; exact alGr _ _
              have HE1 : u2.heap[u1.heap.size]? = some (.cells #[] 98 (0, 0)) := by rw [← hu2]; exact heap_alloc_new _ _
              have z2a : u2.heap.size ≤ u1.heap.size + 1 := by rw [← hu2]; simp
              have z2b : u1.heap.size + 1 ≤ u2.heap.size := by rw [← hu2]; simp
              replace m0 := celB B2 m0
              replace m1 := celB B2 m1
              replace m2 := celB B2 m2
              replace mf := fun o => frzB (o := o) B2 (by omega) (mf o)
              have B12 := stGr B1 B2
              have hsrc : SrcZ u2 (.slice r0 p.log.length k0) p.log.length 2 (p.log.flatMap rwC) := by have := srcZ_rws k0 (zl.below B12) (Nat.le_refl _); rwa [List.take_length] at this
              have cS2 := celB B12 cS
              have fS2 := fun o => frzB (o := o) B12 (by omega) (fS o)
              go_wp2_with (at_builtin; refine wpList_appZ _ rfl _ _ 79 rfl u1.heap.size 98 i1 _ 2 16 Tryd.underlying79 hi1 hy0 hy1 hy2 rfl (by decide) (.slice (some ⟨u1.heap.size, 0, none⟩) 0 0) 0 [] rfl (owns_emptyZ HE1 (Nat.le_refl _)) (.slice r0 p.log.length k0) p.log.length (p.log.flatMap rwC) rfl hsrc ?q3 ?q4 ?q5 ?_)
              case q3 => unfold maxLen; omega
              case q4 => omega
              case q5 => omega
              intro v4 w4 hown4 hgrow4 hat4
              try simp only [Nat.zero_add, List.nil_append] at hown4
              obtain ⟨a', k', rfl⟩ := ownsZ_form hown4
              have hk' : p.log.length ≤ k' := by obtain ⟨a9, c9, e9, h9, -⟩ := ownsZ_cap hown4; simp only [Value.slice.injEq] at e9; omega
              have hbl : ∀ b, b < u2.heap.size → b ≠ u1.heap.size → w4.heap[b]? = u2.heap[b]? := fun b h1 h2 => hgrow4.block b h1 (fun e => h2 (by simpa [Value.ownBlock] using e))
              have z4' := hgrow4.size
              have B4 : Below wr.heap.size wr w4 := B12.grown hgrow4 (by omega) (fun b hb => by simp [Value.ownBlock] at hb; omega)
              have c4 : ∀ b o v, u2.cell? ⟨b, o, none⟩ = some v → b < u2.heap.size → b ≠ u1.heap.size → w4.cell? ⟨b, o, none⟩ = some v := fun b o v hc h1 h2 => (World.cell?_of_block (a := ⟨b, o, none⟩) (hbl b h1 h2)).trans hc
              replace m0 := c4 _ _ _ m0 (by omega) (by omega)
              replace m1 := c4 _ _ _ m1 (by omega) (by omega)
              replace m2 := c4 _ _ _ m2 (by omega) (by omega)
              replace mf : ∀ o, w4.frozen? ⟨wr.heap.size, o, none⟩ = false := fun o => (World.frozen?_of_block (a := ⟨wr.heap.size, o, none⟩) (hbl wr.heap.size (by omega) (by omega))).trans (mf o)
              replace cS2 := celB B4 cS
              replace fS2 := fun o => frzB (o := o) B4 (by omega) (fS o)
              have hrow4 : RowRw w4 u1.heap.size a' p.log.length := rowRw_of_owns hown4
              have hlie4 : Rws w4 a' p.log := rws_of_owns hown4
              obtain ⟨u5, hu5⟩ : ∃ u, w4.setCell ⟨wr.heap.size, 0, none⟩ (.slice a' p.log.length k') = u := ⟨_, rfl⟩
              have z5a : u5.heap.size ≤ w4.heap.size := by rw [← hu5]; simp
              have z5b : w4.heap.size ≤ u5.heap.size := by rw [← hu5]; simp
              have B5 : Below wr.heap.size wr u5 := by rw [← hu5]; exact B4.setCell (Nat.le_refl _) _
              have hs5 : ∀ b, InI a' p.log.length b → u5.heap[b]? = w4.heap[b]? := fun b hi => by rw [← hu5]; exact Below.heap_setCell _ ⟨wr.heap.size, 0, none⟩ _ b (by have := (hrow4.lt hi).1; simp; omega)
              have hlie5 := hlie4.of_block hs5
              have hrow5 := hrow4.of_block hs5
              have n0 : u5.cell? ⟨wr.heap.size, 0, none⟩ = some (.slice a' p.log.length k') := by rw [← hu5]; simp [go_sem, m0]
              have n1 : u5.cell? ⟨wr.heap.size, 1, none⟩ = some (.int .i64 p.epoch) := by rw [← hu5]; simp [go_sem, m1]
              have n2 : u5.cell? ⟨wr.heap.size, 2, none⟩ = some (.int .i64 p.known) := by rw [← hu5]; simp [go_sem, m2]
              have cS5 := celB B5 cS
              have fS5 := fun o => frzB (o := o) B5 (by omega) (fS o)
              obtain ⟨u6, hu6⟩ : ∃ u, u5.alloc (.cells #[.slice a' p.log.length k', .int .i64 p.epoch, .int .i64 p.known] 81) = u := ⟨_, rfl⟩
              have B56 : Below u5.heap.size u5 u6 := by rw [← hu6]; exact alGr _ _
              have B6 := stGr B5 B56
              have z6a : u6.heap.size ≤ u5.heap.size + 1 := by rw [← hu6]; simp
              have z6b : u5.heap.size + 1 ≤ u6.heap.size := by rw [← hu6]; simp
              have HE6 : u6.heap[u5.heap.size]? = some (.cells #[.slice a' p.log.length k', .int .i64 p.epoch, .int .i64 p.known] 81 (0, 0)) := by rw [← hu6]; exact heap_alloc_new _ _
              have hst6 := hst'.below hSx B6
              have cS6 := hst6.c4
              have fS6 := hst6.fr
              go_wp2_with (at_builtin; refine wpList_append_lies _ rfl _ _ 23 rfl x.heap.size 81 i2 _ 3 40 Tryd.underlying23 hi2 hw0 hw1 hw2 rfl (by decide) v qs.length (qs.flatMap rqC) rfl hst6.own ⟨u5.heap.size, 0, none⟩ 1 1 [.slice a' p.log.length k', .int .i64 p.epoch, .int .i64 p.known] rfl rfl ?q1 ?q2 (by omega) ?q6 ?q7 ?q8 u6.heap.size ?q9 ?_)
              case q1 => exact World.news_of_block (cs := #[.slice a' p.log.length k', .int .i64 p.epoch, .int .i64 p.known]) (t := 81) (fr := (0, 0)) HE6
              case q2 => simp [Value.oneCell']
              case q6 => unfold maxLen; omega
              case q7 => omega
              case q8 => omega
              case q9 => rfl
              intro g2 cap2 w7 HO7 hgrow7 hat7 hlt7
              have HN : Hid (OwS S x (w7.setCell ⟨S, 4, none⟩ (.slice (some ⟨g2, 0, none⟩) (qs.length + 1) cap2)) (.slice (some ⟨g2, 0, none⟩) (qs.length + 1) cap2) (qs ++ [⟨p, a', k'⟩])) := hst'.step (q := ⟨p, a', k'⟩) hSx B6 (hlie5.below B56) ml ((hrow5.below B56).mono (by omega)) hk' HO7 hgrow7 (fun b e => by simp only [Value.ownBlock, Option.some.injEq] at e; subst e; rcases hat7 with h | h; (· exact .inl h); exact .inr (by omega))
              have HM : Hid ((qs ++ [(⟨p, a', k'⟩ : Rq)]).map Rq.p = s.reps.take (k + 1)) := by show _ = _; rw [List.map_append, HQ.out, takeRp_snoc HP.out]; rfl
              have hvS : some S ≠ v.ownBlock := fun e => by have := (hst6.own.lt S e.symm).1; omega
              have y4 : w7.cell? ⟨S, 4, none⟩ = some v := (World.cell?_of_block (a := ⟨S, 4, none⟩) (hgrow7.block S (by omega) hvS)).trans cS6
              have yf : ∀ o, w7.frozen? ⟨S, o, none⟩ = false := fun o => (World.frozen?_of_block (a := ⟨S, o, none⟩) (hgrow7.block S (by omega) hvS)).trans (fS6 o)
              clear HO7 hgrow7 hat7 hst6 hst' hu1 hu2 hu5 hu6 hown4 hgrow4 hat4 hbl c4
              go_wp2
              go_roundw
              case rel => exact ⟨k + 1, _, _, by omega, by go_num, HM.out, HN.out⟩
              case measure => simp [intOf]; omega
            · obtain rfl : k = s.reps.length := by omega
              have hqm : qs.map Rq.p = s.reps := by rw [HQ.out, List.take_length]
              obtain ⟨R, cv, fq, rfl, -, -, -, -⟩ := row_of_ownsZ hst'.own (by omega)
              have HG : Hid (Gow wr x0.heap.size s bv R qs) := by
                have hI := ints_of_owns HOx.out
                have sm : ∀ b, InI bv s.steps.length b → wr.heap[b]? = x.heap[b]? := fun b hi => by
                  obtain ⟨h9, o9, s9, e9⟩ := hi
                  have hob : (Value.slice bv s.steps.length dv).ownBlock = some b := by rw [e9]; rfl
                  have := HEd.out b hob
                  exact hst'.oth b this.2 this.1
                refine ⟨hqm, hI.1.of_block sm, hI.2.of_block sm, fun b hi => ?_, ?_⟩
                · obtain ⟨h9, o9, s9, e9⟩ := hi
                  have h7 := HEd.out b (by rw [e9]; rfl)
                  have h8 := (hst'.own.lt R rfl).1
                  omega
                · exact (hst'.done (by omega)).mono (by omega)
              have HOw : Hid (wr.ownsRow x0.heap.size 3 1 (.slice bv s.steps.length dv) s.steps.length (zCells s.steps)) := by
                obtain ⟨o1, o2⟩ := HOx.out
                refine ⟨o1, o2.imp id fun ⟨g', cap', cur, hv, hg, hh, r⟩ => ⟨g', cap', cur, hv, hg, ?_, r⟩⟩
                have := HEd.out g' (by rw [hv]; simp [Value.ownBlock])
                rw [hst'.oth g' this.2 this.1]
                exact hh
              have y0 := hst'.cel 0 _ (by omega) d0
              have y1 := hst'.cel 1 _ (by omega) d1
              have y2 := hst'.cel 2 _ (by omega) d2
              have y3 := hst'.cel 3 _ (by omega) d3
              have v0 := celB BR z0
              have v1 := celB BR z1
              have v2 := celB BR z2
              have v3 := celB BR z3
              have v4 := celB BR z4
              have vf : ∀ o, wr.frozen? ⟨w.heap.size + 1, o, none⟩ = false := fun o => frzB BR (by omega) (zf o)
              have BW : Below w.heap.size w wr := b0.trans (BR.mono (by omega))
              rw [show qs.length = s.reps.length by omega] at cS
              clear hst'
              go_wp2
              refine bodyPost_ret (v := grV s bv dv (some ⟨R, 0, none⟩) cv) (by simp [results, Tryd.results42, go_sem, v0, v1, v2, v3, v4]) rfl ⟨bv, dv, R, cv, qs, rfl, ?_, ?_, ?_⟩
              · exact (((((HG.out.setO (by omega) _ _).setO (by omega) _ _).setO (by omega) _ _).setO (by omega) _ _).setO (by omega) _ _).mono (by omega)
              · exact ownsZ_mono (owns_setO (owns_setO (owns_setO (owns_setO (owns_setO HOw.out (by omega)) (by omega)) (by omega)) (by omega)) (by omega)) (by omega)
              · exact ((((BW.setCell (by simp) _).setCell (by simp) _).setCell (by simp) _).setCell (by simp) _).setCell (by simp) _
    case b10n1 =>
      have hgb : x1.heap.size ≠ x0.heap.size := by omega
      obtain ⟨x2, hx2⟩ : ∃ u, x1.alloc (.cells #[.int .i64 0, .int .i64 0, .slice none 0 0, .int .i64 0, .slice none 0 0] 25) = u := ⟨_, rfl⟩
      have e0 : x2.cell? ⟨x1.heap.size, 0, none⟩ = some (.int .i64 0) := by rw [← hx2]; simp [go_sem]
      have e1 : x2.cell? ⟨x1.heap.size, 1, none⟩ = some (.int .i64 0) := by rw [← hx2]; simp [go_sem]
      have e2 : x2.cell? ⟨x1.heap.size, 2, none⟩ = some (.slice none 0 0) := by rw [← hx2]; simp [go_sem]
      have e3 : x2.cell? ⟨x1.heap.size, 3, none⟩ = some (.int .i64 0) := by rw [← hx2]; simp [go_sem]
      have e4 : x2.cell? ⟨x1.heap.size, 4, none⟩ = some (.slice none 0 0) := by rw [← hx2]; simp [go_sem]
      have ef : ∀ o, x2.frozen? ⟨x1.heap.size, o, none⟩ = false := fun o => by rw [← hx2]; simp [go_sem]
      have hEb : x1.heap.size < x2.heap.size := by rw [← hx2]; simp
      have hEx : x0.heap.size ≤ x1.heap.size := HB1.size
      have hBk : Below x1.heap.size x1 x2 := by rw [← hx2]; exact alGr _ _
      have HB2 : Below x0.heap.size x0 x2 := stGr HB1 hBk
      have kk2 : x2.cell? ⟨w.heap.size, 0, none⟩ = some (.int .i64 s.epoch) ∧ x2.cell? ⟨w.heap.size, 1, none⟩ = some (.int .i64 s.leader) ∧ x2.cell? ⟨w.heap.size, 2, none⟩ = some (.slice a0 s.steps.length c0) ∧ x2.cell? ⟨w.heap.size, 3, none⟩ = some (.int .i64 s.high) ∧ x2.cell? ⟨w.heap.size, 4, none⟩ = some (.slice a1 s.reps.length c1) := ⟨celB hBk kk1.1, celB hBk kk1.2.1, celB hBk kk1.2.2.1, celB hBk kk1.2.2.2.1, celB hBk kk1.2.2.2.2⟩
      replace HE0 := (hBk.block _ hE0).trans HE0
      replace hE0 : x0.heap.size < x2.heap.size := Nat.lt_of_lt_of_le hE0 hBk.size
      go_simp
      refine hK.out _ _ kk2 (fun hHn => ?_)
      clear hK KK
      try simp only [Act.put, List.setIfInBounds_toArray, List.set_cons_zero, List.set_cons_succ]
      clear hx2 hBk
      refine wpAnyH_ready (rs := [7]) (by kernel_rfl) (by simp) ?_
      refine AllReadyH.cons (o := ⟨_, _, _, _, _, _⟩) rfl (fun KK hK => ?b14n0) AllReadyH.nil
      case b14n0 =>
        refine step_appZ _ (by rfl) _ _ 22 (by rfl) x0.heap.size 3 i0 _ 1 8 Tryd.underlying22 hi0 hz0' hz1' hz2' rfl (by decide) (.slice (some ⟨x0.heap.size, 0, none⟩) 0 0) 0 [] (by rfl) (owns_emptyZ HE0 (Nat.le_refl _)) (.slice a0 s.steps.length c0) s.steps.length (zCells s.steps) (by rfl) (srcZ_ints _ (hst.below HB2)) (by unfold maxLen; omega) (by omega) (by omega) ?_
        intro v x3 hown hgrow hat
        try simp only [Nat.zero_add, List.nil_append] at hown
        obtain ⟨bv, dv, rfl⟩ := ownsZ_form hown
        have hOs := ownsZ_mono hown hE9
        have hBl : ∀ b o v, x2.cell? ⟨b, o, none⟩ = some v → b ≠ x0.heap.size → x3.cell? ⟨b, o, none⟩ = some v := fun b o v hc hne => (World.cell?_of_block (a := ⟨b, o, none⟩) (hgrow.block b (lt_of_cell hc) (fun e => hne (by simpa [Value.ownBlock] using e)))).trans hc
        have hBf : ∀ b o, b < x2.heap.size → b ≠ x0.heap.size → x3.frozen? ⟨b, o, none⟩ = x2.frozen? ⟨b, o, none⟩ := fun b o hlt hne => World.frozen?_of_block (a := ⟨b, o, none⟩) (hgrow.block b hlt (fun e => hne (by simpa [Value.ownBlock] using e)))
        have HB3 : Below x0.heap.size x0 x3 := HB2.grown hgrow HB2.size (fun b hb => by simp [Value.ownBlock] at hb; omega)
        have kk3 : x3.cell? ⟨w.heap.size, 0, none⟩ = some (.int .i64 s.epoch) ∧ x3.cell? ⟨w.heap.size, 1, none⟩ = some (.int .i64 s.leader) ∧ x3.cell? ⟨w.heap.size, 2, none⟩ = some (.slice a0 s.steps.length c0) ∧ x3.cell? ⟨w.heap.size, 3, none⟩ = some (.int .i64 s.high) ∧ x3.cell? ⟨w.heap.size, 4, none⟩ = some (.slice a1 s.reps.length c1) := ⟨hBl _ _ _ kk2.1 (by omega), hBl _ _ _ kk2.2.1 (by omega), hBl _ _ _ kk2.2.2.1 (by omega), hBl _ _ _ kk2.2.2.2.1 (by omega), hBl _ _ _ kk2.2.2.2.2 (by omega)⟩
        have HOl := hOs
        replace e0 := hBl _ _ _ e0 (by omega)
        replace e1 := hBl _ _ _ e1 (by omega)
        replace e2 := hBl _ _ _ e2 (by omega)
        replace e3 := hBl _ _ _ e3 (by omega)
        replace e4 := hBl _ _ _ e4 (by omega)
        replace ef := fun o => (hBf x1.heap.size o hEb (by omega)).trans (ef o)
        have hEd : ∀ b, (Value.slice bv s.steps.length dv).ownBlock = some b → b ≠ x1.heap.size := fun b e => by rcases hat with h | h <;> rw [e] at h <;> simp [Value.ownBlock] at h <;> omega
        replace hEb : x1.heap.size < x3.heap.size := Nat.lt_of_lt_of_le hEb hgrow.size
        refine hK.out _ _ kk3 (fun hHn => ?_)
        clear hK KK
        try simp only [Act.put, List.setIfInBounds_toArray, List.set_cons_zero, List.set_cons_succ]
        clear hgrow hat hown hBl hBf
        refine wpAnyH_take (i := 10) (oi := ⟨_, _, _, _, _, _⟩) (v := ?vt15x) rfl (by kernel_rfl) (by kernel_rfl) (by kernel_rfl) (fun _ _ _ h => h) (Or.inl ⟨by rfl, ?yt15x⟩) (by assumption) ?rt15x
        case yt15x => intro w hSw; (try dsimp only at hSw); go_simp; try with_reducible rfl
        try simp only [Act.put, List.setIfInBounds_toArray, List.set_cons_zero, List.set_cons_succ]
        refine wpAnyH_ready (rs := [12]) (by kernel_rfl) (by simp) ?_
        refine AllReadyH.cons (o := ⟨_, _, _, _, _, _⟩) rfl (fun KK hK => ?b16n0) AllReadyH.nil
        case b16n0 =>
          have kkS : (((((x3.setCell ⟨x1.heap.size, 0, none⟩ (.int .i64 s.epoch)).setCell ⟨x1.heap.size, 1, none⟩ (.int .i64 s.leader)).setCell ⟨x1.heap.size, 2, none⟩ (.slice bv s.steps.length dv)).setCell ⟨x1.heap.size, 3, none⟩ (.int .i64 s.high)).setCell ⟨x1.heap.size, 4, none⟩ (.slice none 0 0)).cell? ⟨w.heap.size, 0, none⟩ = some (.int .i64 s.epoch) ∧ (((((x3.setCell ⟨x1.heap.size, 0, none⟩ (.int .i64 s.epoch)).setCell ⟨x1.heap.size, 1, none⟩ (.int .i64 s.leader)).setCell ⟨x1.heap.size, 2, none⟩ (.slice bv s.steps.length dv)).setCell ⟨x1.heap.size, 3, none⟩ (.int .i64 s.high)).setCell ⟨x1.heap.size, 4, none⟩ (.slice none 0 0)).cell? ⟨w.heap.size, 1, none⟩ = some (.int .i64 s.leader) ∧ (((((x3.setCell ⟨x1.heap.size, 0, none⟩ (.int .i64 s.epoch)).setCell ⟨x1.heap.size, 1, none⟩ (.int .i64 s.leader)).setCell ⟨x1.heap.size, 2, none⟩ (.slice bv s.steps.length dv)).setCell ⟨x1.heap.size, 3, none⟩ (.int .i64 s.high)).setCell ⟨x1.heap.size, 4, none⟩ (.slice none 0 0)).cell? ⟨w.heap.size, 2, none⟩ = some (.slice a0 s.steps.length c0) ∧ (((((x3.setCell ⟨x1.heap.size, 0, none⟩ (.int .i64 s.epoch)).setCell ⟨x1.heap.size, 1, none⟩ (.int .i64 s.leader)).setCell ⟨x1.heap.size, 2, none⟩ (.slice bv s.steps.length dv)).setCell ⟨x1.heap.size, 3, none⟩ (.int .i64 s.high)).setCell ⟨x1.heap.size, 4, none⟩ (.slice none 0 0)).cell? ⟨w.heap.size, 3, none⟩ = some (.int .i64 s.high) ∧ (((((x3.setCell ⟨x1.heap.size, 0, none⟩ (.int .i64 s.epoch)).setCell ⟨x1.heap.size, 1, none⟩ (.int .i64 s.leader)).setCell ⟨x1.heap.size, 2, none⟩ (.slice bv s.steps.length dv)).setCell ⟨x1.heap.size, 3, none⟩ (.int .i64 s.high)).setCell ⟨x1.heap.size, 4, none⟩ (.slice none 0 0)).cell? ⟨w.heap.size, 4, none⟩ = some (.slice a1 s.reps.length c1) := ⟨by rw [World.cell?_setCell_other _ _ _ _ (by first | (simp; done) | (simp; omega)), World.cell?_setCell_other _ _ _ _ (by first | (simp; done) | (simp; omega)), World.cell?_setCell_other _ _ _ _ (by first | (simp; done) | (simp; omega)), World.cell?_setCell_other _ _ _ _ (by first | (simp; done) | (simp; omega)), World.cell?_setCell_other _ _ _ _ (by first | (simp; done) | (simp; omega))]; exact kk3.1, by rw [World.cell?_setCell_other _ _ _ _ (by first | (simp; done) | (simp; omega)), World.cell?_setCell_other _ _ _ _ (by first | (simp; done) | (simp; omega)), World.cell?_setCell_other _ _ _ _ (by first | (simp; done) | (simp; omega)), World.cell?_setCell_other _ _ _ _ (by first | (simp; done) | (simp; omega)), World.cell?_setCell_other _ _ _ _ (by first | (simp; done) | (simp; omega))]; exact kk3.2.1, by rw [World.cell?_setCell_other _ _ _ _ (by first | (simp; done) | (simp; omega)), World.cell?_setCell_other _ _ _ _ (by first | (simp; done) | (simp; omega)), World.cell?_setCell_other _ _ _ _ (by first | (simp; done) | (simp; omega)), World.cell?_setCell_other _ _ _ _ (by first | (simp; done) | (simp; omega)), World.cell?_setCell_other _ _ _ _ (by first | (simp; done) | (simp; omega))]; exact kk3.2.2.1, by rw [World.cell?_setCell_other _ _ _ _ (by first | (simp; done) | (simp; omega)), World.cell?_setCell_other _ _ _ _ (by first | (simp; done) | (simp; omega)), World.cell?_setCell_other _ _ _ _ (by first | (simp; done) | (simp; omega)), World.cell?_setCell_other _ _ _ _ (by first | (simp; done) | (simp; omega)), World.cell?_setCell_other _ _ _ _ (by first | (simp; done) | (simp; omega))]; exact kk3.2.2.2.1, by rw [World.cell?_setCell_other _ _ _ _ (by first | (simp; done) | (simp; omega)), World.cell?_setCell_other _ _ _ _ (by first | (simp; done) | (simp; omega)), World.cell?_setCell_other _ _ _ _ (by first | (simp; done) | (simp; omega)), World.cell?_setCell_other _ _ _ _ (by first | (simp; done) | (simp; omega)), World.cell?_setCell_other _ _ _ _ (by first | (simp; done) | (simp; omega))]; exact kk3.2.2.2.2⟩
          go_simp
          refine hK.out _ _ kkS (fun hHn => ?_)
          clear hK KK
          try simp only [Act.put, List.setIfInBounds_toArray, List.set_cons_zero, List.set_cons_succ]
          refine wpAnyH_done (by kernel_rfl) (NoPanic.normal ?_) _
          obtain ⟨x, hx⟩ : ∃ u, (((((x3.setCell ⟨x1.heap.size, 0, none⟩ (.int .i64 s.epoch)).setCell ⟨x1.heap.size, 1, none⟩ (.int .i64 s.leader)).setCell ⟨x1.heap.size, 2, none⟩ (.slice bv s.steps.length dv)).setCell ⟨x1.heap.size, 3, none⟩ (.int .i64 s.high)).setCell ⟨x1.heap.size, 4, none⟩ (.slice none 0 0)) = u := ⟨_, rfl⟩
          try rw [hx]
          obtain ⟨S, hS⟩ : ∃ S, x1.heap.size = S := ⟨_, rfl⟩
          have hSx : S < x.heap.size := by rw [← hx, ← hS]; simpa using hEb
          have hxz : x0.heap.size ≤ S := by rw [← hS]; exact hEx
          have Bx : Below x0.heap.size x0 x := by rw [← hx]; exact ((((HB3.setCell hEx _).setCell hEx _).setCell hEx _).setCell hEx _).setCell hEx _
          have d0 : x.cell? ⟨S, 0, none⟩ = some (.int .i64 s.epoch) := by rw [← hx, ← hS]; simp [go_sem, e0]
          have d1 : x.cell? ⟨S, 1, none⟩ = some (.int .i64 s.leader) := by rw [← hx, ← hS]; simp [go_sem, e1]
          have d2 : x.cell? ⟨S, 2, none⟩ = some (.slice bv s.steps.length dv) := by rw [← hx, ← hS]; simp [go_sem, e2]
          have d3 : x.cell? ⟨S, 3, none⟩ = some (.int .i64 s.high) := by rw [← hx, ← hS]; simp [go_sem, e3]
          have d4 : x.cell? ⟨S, 4, none⟩ = some (.slice none 0 0) := by rw [← hx, ← hS]; simp [go_sem, e4]
          have df : ∀ o, x.frozen? ⟨S, o, none⟩ = false := fun o => by rw [← hx, ← hS]; simp [go_sem, ef]
          have HOx : Hid (x.ownsRow x0.heap.size 3 1 (.slice bv s.steps.length dv) s.steps.length (zCells s.steps)) := by
            obtain ⟨o1, o2⟩ := HOl
            refine ⟨o1, o2.imp id fun ⟨g', cap', cur, hv, hg, hh, r⟩ => ⟨g', cap', cur, hv, hg, ?_, r⟩⟩
            have hne := hEd g' (by rw [hv]; simp [Value.ownBlock])
            rw [← hx, Below.heap_setCell _ ⟨x1.heap.size, _, none⟩ _ g' (fun e => hne e), Below.heap_setCell _ ⟨x1.heap.size, _, none⟩ _ g' (fun e => hne e), Below.heap_setCell _ ⟨x1.heap.size, _, none⟩ _ g' (fun e => hne e), Below.heap_setCell _ ⟨x1.heap.size, _, none⟩ _ g' (fun e => hne e), Below.heap_setCell _ ⟨x1.heap.size, _, none⟩ _ g' (fun e => hne e)]
            exact hh
          have HEd : Hid (∀ b, (Value.slice bv s.steps.length dv).ownBlock = some b → b ≠ S ∧ b < x.heap.size) := fun b e => ⟨by rw [← hS]; exact hEd b e, (HOx.out.lt b e).2⟩
          try rw [hS]
          have hOw0 : OwS S x x (.slice none 0 0) [] := ⟨World.ownsRow_nil _ _ _ _, fun i q hq => by simp at hq, fun i q b hq => by simp at hq, fun i j q q' b hq => by simp at hq, fun _ _ _ => rfl, Nat.le_refl _, fun _ _ => Below.refl _ _, fun _ _ _ h => h, d4, df⟩
          have hBx := Bx.size
          have j0 := celB Bx g0
          have j1 := celB Bx g1
          have j2 := celB Bx g2
          have j3 := celB Bx g3
          have j4 := celB Bx g4
          clear hx hS kkS ef e0 e1 e2 e3 e4 hEb hEx hEd HOl hOs HE0 hE0 hE9 hHn
          go_wp2
          clear j0 j1 j2 j3 j4
          go_loopw [20] (fun i wr => ∃ (k : Nat) (v : Value) (qs : List Rq), k ≤ s.reps.length ∧ i = .int .i64 k ∧ Hid (qs.map Rq.p = s.reps.take k) ∧ OwS S x wr v qs) (fun i _ => s.reps.length - (intOf i).toNat)
          case atStart => exact ⟨0, _, [], Nat.zero_le _, rfl, rfl, hOw0⟩
          case round =>
            clear hOw0
            obtain ⟨k, v, qs, hk, rfl, HQ, hst'⟩ := hrel
            have BR : Below x0.heap.size x0 wr := Bx.trans (hst'.bel _ hxz)
            have hzr := hst'.size
            have hqa : qs.length ≤ k := by have := congrArg List.length HQ.out; simp at this; omega
            have hqb : k ≤ qs.length := by have := congrArg List.length HQ.out; simp at this; omega
            have cS := hst'.c4
            have fS := hst'.fr
            by_cases hlt : k < s.reps.length
            · obtain ⟨p, hp⟩ := getRp hlt
              obtain ⟨K, o, ea, r0, k0, f0, f1, f2, zl, ml⟩ := ((hs.reps.below b0).below BR) k p hp
              subst ea
              have hp30 := hlog k p hp
              have hki : (k : Int) < (s.reps.length : Int) := by omega
              have HP : Hid (s.reps[k]? = some p) := hp
              clear hp
              obtain ⟨u1, hu1⟩ : ∃ u, wr.alloc (.cells #[.slice r0 p.log.length k0, .int .i64 p.epoch, .int .i64 p.known] 81) = u := ⟨_, rfl⟩
              have B1 : Below wr.heap.size wr u1 := by rw [← hu1]; exact alGr _ _
              have z1a : u1.heap.size ≤ wr.heap.size + 1 := by rw [← hu1]; simp
              have z1b : wr.heap.size + 1 ≤ u1.heap.size := by rw [← hu1]; simp
              have m0 : u1.cell? ⟨wr.heap.size, 0, none⟩ = some (.slice r0 p.log.length k0) := by rw [← hu1]; simp [go_sem]
              have m1 : u1.cell? ⟨wr.heap.size, 1, none⟩ = some (.int .i64 p.epoch) := by rw [← hu1]; simp [go_sem]
              have m2 : u1.cell? ⟨wr.heap.size, 2, none⟩ = some (.int .i64 p.known) := by rw [← hu1]; simp [go_sem]
              have mf : ∀ o, u1.frozen? ⟨wr.heap.size, o, none⟩ = false := fun o => by rw [← hu1]; simp [go_sem]
              obtain ⟨u2, hu2⟩ : ∃ u, u1.alloc (.cells #[] 98) = u := ⟨_, rfl⟩
              have B2 : Below u1.heap.size u1 u2 := by rw [← hu2]; exact alGr _ _
              have HE1 : u2.heap[u1.heap.size]? = some (.cells #[] 98 (0, 0)) := by rw [← hu2]; exact heap_alloc_new _ _
              have z2a : u2.heap.size ≤ u1.heap.size + 1 := by rw [← hu2]; simp
              have z2b : u1.heap.size + 1 ≤ u2.heap.size := by rw [← hu2]; simp
              replace m0 := celB B2 m0
              replace m1 := celB B2 m1
              replace m2 := celB B2 m2
              replace mf := fun o => frzB (o := o) B2 (by omega) (mf o)
              have B12 := stGr B1 B2
              have hsrc : SrcZ u2 (.slice r0 p.log.length k0) p.log.length 2 (p.log.flatMap rwC) := by have := srcZ_rws k0 (zl.below B12) (Nat.le_refl _); rwa [List.take_length] at this
              have cS2 := celB B12 cS
              have fS2 := fun o => frzB (o := o) B12 (by omega) (fS o)
              go_wp2_with (at_builtin; refine wpList_appZ _ rfl _ _ 79 rfl u1.heap.size 98 i1 _ 2 16 Tryd.underlying79 hi1 hy0 hy1 hy2 rfl (by decide) (.slice (some ⟨u1.heap.size, 0, none⟩) 0 0) 0 [] rfl (owns_emptyZ HE1 (Nat.le_refl _)) (.slice r0 p.log.length k0) p.log.length (p.log.flatMap rwC) rfl hsrc ?q3 ?q4 ?q5 ?_)
              case q3 => unfold maxLen; omega
              case q4 => omega
              case q5 => omega
              intro v4 w4 hown4 hgrow4 hat4
              try simp only [Nat.zero_add, List.nil_append] at hown4
              obtain ⟨a', k', rfl⟩ := ownsZ_form hown4
              have hk' : p.log.length ≤ k' := by obtain ⟨a9, c9, e9, h9, -⟩ := ownsZ_cap hown4; simp only [Value.slice.injEq] at e9; omega
              have hbl : ∀ b, b < u2.heap.size → b ≠ u1.heap.size → w4.heap[b]? = u2.heap[b]? := fun b h1 h2 => hgrow4.block b h1 (fun e => h2 (by simpa [Value.ownBlock] using e))
              have z4' := hgrow4.size
              have B4 : Below wr.heap.size wr w4 := B12.grown hgrow4 (by omega) (fun b hb => by simp [Value.ownBlock] at hb; omega)
              have c4 : ∀ b o v, u2.cell? ⟨b, o, none⟩ = some v → b < u2.heap.size → b ≠ u1.heap.size → w4.cell? ⟨b, o, none⟩ = some v := fun b o v hc h1 h2 => (World.cell?_of_block (a := ⟨b, o, none⟩) (hbl b h1 h2)).trans hc
              replace m0 := c4 _ _ _ m0 (by omega) (by omega)
              replace m1 := c4 _ _ _ m1 (by omega) (by omega)
              replace m2 := c4 _ _ _ m2 (by omega) (by omega)
              replace mf : ∀ o, w4.frozen? ⟨wr.heap.size, o, none⟩ = false := fun o => (World.frozen?_of_block (a := ⟨wr.heap.size, o, none⟩) (hbl wr.heap.size (by omega) (by omega))).trans (mf o)
              replace cS2 := celB B4 cS
              replace fS2 := fun o => frzB (o := o) B4 (by omega) (fS o)
              have hrow4 : RowRw w4 u1.heap.size a' p.log.length := rowRw_of_owns hown4
              have hlie4 : Rws w4 a' p.log := rws_of_owns hown4
              obtain ⟨u5, hu5⟩ : ∃ u, w4.setCell ⟨wr.heap.size, 0, none⟩ (.slice a' p.log.length k') = u := ⟨_, rfl⟩
              have z5a : u5.heap.size ≤ w4.heap.size := by rw [← hu5]; simp
              have z5b : w4.heap.size ≤ u5.heap.size := by rw [← hu5]; simp
              have B5 : Below wr.heap.size wr u5 := by rw [← hu5]; exact B4.setCell (Nat.le_refl _) _
              have hs5 : ∀ b, InI a' p.log.length b → u5.heap[b]? = w4.heap[b]? := fun b hi => by rw [← hu5]; exact Below.heap_setCell _ ⟨wr.heap.size, 0, none⟩ _ b (by have := (hrow4.lt hi).1; simp; omega)
              have hlie5 := hlie4.of_block hs5
              have hrow5 := hrow4.of_block hs5
              have n0 : u5.cell? ⟨wr.heap.size, 0, none⟩ = some (.slice a' p.log.length k') := by rw [← hu5]; simp [go_sem, m0]
              have n1 : u5.cell? ⟨wr.heap.size, 1, none⟩ = some (.int .i64 p.epoch) := by rw [← hu5]; simp [go_sem, m1]
              have n2 : u5.cell? ⟨wr.heap.size, 2, none⟩ = some (.int .i64 p.known) := by rw [← hu5]; simp [go_sem, m2]
              have cS5 := celB B5 cS
              have fS5 := fun o => frzB (o := o) B5 (by omega) (fS o)
              obtain ⟨u6, hu6⟩ : ∃ u, u5.alloc (.cells #[.slice a' p.log.length k', .int .i64 p.epoch, .int .i64 p.known] 81) = u := ⟨_, rfl⟩
              have B56 : Below u5.heap.size u5 u6 := by rw [← hu6]; exact alGr _ _
              have B6 := stGr B5 B56
              have z6a : u6.heap.size ≤ u5.heap.size + 1 := by rw [← hu6]; simp
              have z6b : u5.heap.size + 1 ≤ u6.heap.size := by rw [← hu6]; simp
              have HE6 : u6.heap[u5.heap.size]? = some (.cells #[.slice a' p.log.length k', .int .i64 p.epoch, .int .i64 p.known] 81 (0, 0)) := by rw [← hu6]; exact heap_alloc_new _ _
              have hst6 := hst'.below hSx B6
              have cS6 := hst6.c4
              have fS6 := hst6.fr
              go_wp2_with (at_builtin; refine wpList_append_lies _ rfl _ _ 23 rfl x.heap.size 81 i2 _ 3 40 Tryd.underlying23 hi2 hw0 hw1 hw2 rfl (by decide) v qs.length (qs.flatMap rqC) rfl hst6.own ⟨u5.heap.size, 0, none⟩ 1 1 [.slice a' p.log.length k', .int .i64 p.epoch, .int .i64 p.known] rfl rfl ?q1 ?q2 (by omega) ?q6 ?q7 ?q8 u6.heap.size ?q9 ?_)
              case q1 => exact World.news_of_block (cs := #[.slice a' p.log.length k', .int .i64 p.epoch, .int .i64 p.known]) (t := 81) (fr := (0, 0)) HE6
              case q2 => simp [Value.oneCell']
              case q6 => unfold maxLen; omega
              case q7 => omega
              case q8 => omega
              case q9 => rfl
              intro g2 cap2 w7 HO7 hgrow7 hat7 hlt7
              have HN : Hid (OwS S x (w7.setCell ⟨S, 4, none⟩ (.slice (some ⟨g2, 0, none⟩) (qs.length + 1) cap2)) (.slice (some ⟨g2, 0, none⟩) (qs.length + 1) cap2) (qs ++ [⟨p, a', k'⟩])) := hst'.step (q := ⟨p, a', k'⟩) hSx B6 (hlie5.below B56) ml ((hrow5.below B56).mono (by omega)) hk' HO7 hgrow7 (fun b e => by simp only [Value.ownBlock, Option.some.injEq] at e; subst e; rcases hat7 with h | h; (· exact .inl h); exact .inr (by omega))
              have HM : Hid ((qs ++ [(⟨p, a', k'⟩ : Rq)]).map Rq.p = s.reps.take (k + 1)) := by show _ = _; rw [List.map_append, HQ.out, takeRp_snoc HP.out]; rfl
              have hvS : some S ≠ v.ownBlock := fun e => by have := (hst6.own.lt S e.symm).1; omega
              have y4 : w7.cell? ⟨S, 4, none⟩ = some v := (World.cell?_of_block (a := ⟨S, 4, none⟩) (hgrow7.block S (by omega) hvS)).trans cS6
              have yf : ∀ o, w7.frozen? ⟨S, o, none⟩ = false := fun o => (World.frozen?_of_block (a := ⟨S, o, none⟩) (hgrow7.block S (by omega) hvS)).trans (fS6 o)
              clear HO7 hgrow7 hat7 hst6 hst' hu1 hu2 hu5 hu6 hown4 hgrow4 hat4 hbl c4
              go_wp2
              go_roundw
              case rel => exact ⟨k + 1, _, _, by omega, by go_num, HM.out, HN.out⟩
              case measure => simp [intOf]; omega
            · obtain rfl : k = s.reps.length := by omega
              have hqm : qs.map Rq.p = s.reps := by rw [HQ.out, List.take_length]
              obtain ⟨R, cv, fq, rfl, -, -, -, -⟩ := row_of_ownsZ hst'.own (by omega)
              have HG : Hid (Gow wr x0.heap.size s bv R qs) := by
                have hI := ints_of_owns HOx.out
                have sm : ∀ b, InI bv s.steps.length b → wr.heap[b]? = x.heap[b]? := fun b hi => by
                  obtain ⟨h9, o9, s9, e9⟩ := hi
                  have hob : (Value.slice bv s.steps.length dv).ownBlock = some b := by rw [e9]; rfl
                  have := HEd.out b hob
                  exact hst'.oth b this.2 this.1
                refine ⟨hqm, hI.1.of_block sm, hI.2.of_block sm, fun b hi => ?_, ?_⟩
                · obtain ⟨h9, o9, s9, e9⟩ := hi
                  have h7 := HEd.out b (by rw [e9]; rfl)
                  have h8 := (hst'.own.lt R rfl).1
                  omega
                · exact (hst'.done (by omega)).mono (by omega)
              have HOw : Hid (wr.ownsRow x0.heap.size 3 1 (.slice bv s.steps.length dv) s.steps.length (zCells s.steps)) := by
                obtain ⟨o1, o2⟩ := HOx.out
                refine ⟨o1, o2.imp id fun ⟨g', cap', cur, hv, hg, hh, r⟩ => ⟨g', cap', cur, hv, hg, ?_, r⟩⟩
                have := HEd.out g' (by rw [hv]; simp [Value.ownBlock])
                rw [hst'.oth g' this.2 this.1]
                exact hh
              have y0 := hst'.cel 0 _ (by omega) d0
              have y1 := hst'.cel 1 _ (by omega) d1
              have y2 := hst'.cel 2 _ (by omega) d2
              have y3 := hst'.cel 3 _ (by omega) d3
              have v0 := celB BR z0
              have v1 := celB BR z1
              have v2 := celB BR z2
              have v3 := celB BR z3
              have v4 := celB BR z4
              have vf : ∀ o, wr.frozen? ⟨w.heap.size + 1, o, none⟩ = false := fun o => frzB BR (by omega) (zf o)
              have BW : Below w.heap.size w wr := b0.trans (BR.mono (by omega))
              rw [show qs.length = s.reps.length by omega] at cS
              clear hst'
              go_wp2
              refine bodyPost_ret (v := grV s bv dv (some ⟨R, 0, none⟩) cv) (by simp [results, Tryd.results42, go_sem, v0, v1, v2, v3, v4]) rfl ⟨bv, dv, R, cv, qs, rfl, ?_, ?_, ?_⟩
              · exact (((((HG.out.setO (by omega) _ _).setO (by omega) _ _).setO (by omega) _ _).setO (by omega) _ _).setO (by omega) _ _).mono (by omega)
              · exact ownsZ_mono (owns_setO (owns_setO (owns_setO (owns_setO (owns_setO HOw.out (by omega)) (by omega)) (by omega)) (by omega)) (by omega)) (by omega)
              · exact ((((BW.setCell (by simp) _).setCell (by simp) _).setCell (by simp) _).setCell (by simp) _).setCell (by simp) _
  case b9n1 =>
    obtain ⟨x1, hx1⟩ : ∃ u, x0.alloc (.cells #[.int .i64 0, .int .i64 0, .slice none 0 0, .int .i64 0, .slice none 0 0] 25) = u := ⟨_, rfl⟩
    have e0 : x1.cell? ⟨x0.heap.size, 0, none⟩ = some (.int .i64 0) := by rw [← hx1]; simp [go_sem]
    have e1 : x1.cell? ⟨x0.heap.size, 1, none⟩ = some (.int .i64 0) := by rw [← hx1]; simp [go_sem]
    have e2 : x1.cell? ⟨x0.heap.size, 2, none⟩ = some (.slice none 0 0) := by rw [← hx1]; simp [go_sem]
    have e3 : x1.cell? ⟨x0.heap.size, 3, none⟩ = some (.int .i64 0) := by rw [← hx1]; simp [go_sem]
    have e4 : x1.cell? ⟨x0.heap.size, 4, none⟩ = some (.slice none 0 0) := by rw [← hx1]; simp [go_sem]
    have ef : ∀ o, x1.frozen? ⟨x0.heap.size, o, none⟩ = false := fun o => by rw [← hx1]; simp [go_sem]
    have hEb : x0.heap.size < x1.heap.size := by rw [← hx1]; simp
    have hEx : x0.heap.size ≤ x0.heap.size := HB0.size
    have hBk : Below x0.heap.size x0 x1 := by rw [← hx1]; exact alGr _ _
    have HB1 : Below x0.heap.size x0 x1 := stGr HB0 hBk
    have kk1 : x1.cell? ⟨w.heap.size, 0, none⟩ = some (.int .i64 s.epoch) ∧ x1.cell? ⟨w.heap.size, 1, none⟩ = some (.int .i64 s.leader) ∧ x1.cell? ⟨w.heap.size, 2, none⟩ = some (.slice a0 s.steps.length c0) ∧ x1.cell? ⟨w.heap.size, 3, none⟩ = some (.int .i64 s.high) ∧ x1.cell? ⟨w.heap.size, 4, none⟩ = some (.slice a1 s.reps.length c1) := ⟨celB hBk kk0.1, celB hBk kk0.2.1, celB hBk kk0.2.2.1, celB hBk kk0.2.2.2.1, celB hBk kk0.2.2.2.2⟩
    go_simp
    refine hK.out _ _ kk1 (fun hHn => ?_)
    clear hK KK
    try simp only [Act.put, List.setIfInBounds_toArray, List.set_cons_zero, List.set_cons_succ]
    clear hx1 hBk
    refine wpAnyH_ready (rs := [4]) (by kernel_rfl) (by simp) ?_
    refine AllReadyH.cons (o := ⟨_, _, _, _, _, _⟩) rfl (fun KK hK => ?b17n0) AllReadyH.nil
    case b17n0 =>
      have hgb : x0.heap.size ≠ x1.heap.size := by omega
      obtain ⟨x2, hx2⟩ : ∃ u, x1.alloc (.cells #[] 3) = u := ⟨_, rfl⟩
      have HE0 : x2.heap[x1.heap.size]? = some (.cells #[] 3 (0, 0)) := by rw [← hx2]; exact heap_alloc_new _ _
      have hE0 : x1.heap.size < x2.heap.size := by rw [← hx2]; simp
      have hE9 : x0.heap.size ≤ x1.heap.size := HB1.size
      have hBk : Below x1.heap.size x1 x2 := by rw [← hx2]; exact alGr _ _
      have HB2 : Below x0.heap.size x0 x2 := stGr HB1 hBk
      have kk2 : x2.cell? ⟨w.heap.size, 0, none⟩ = some (.int .i64 s.epoch) ∧ x2.cell? ⟨w.heap.size, 1, none⟩ = some (.int .i64 s.leader) ∧ x2.cell? ⟨w.heap.size, 2, none⟩ = some (.slice a0 s.steps.length c0) ∧ x2.cell? ⟨w.heap.size, 3, none⟩ = some (.int .i64 s.high) ∧ x2.cell? ⟨w.heap.size, 4, none⟩ = some (.slice a1 s.reps.length c1) := ⟨celB hBk kk1.1, celB hBk kk1.2.1, celB hBk kk1.2.2.1, celB hBk kk1.2.2.2.1, celB hBk kk1.2.2.2.2⟩
      replace e0 := celB hBk e0
      replace e1 := celB hBk e1
      replace e2 := celB hBk e2
      replace e3 := celB hBk e3
      replace e4 := celB hBk e4
      replace ef := fun o => frzB (o := o) hBk hEb (ef o)
      replace hEb : x0.heap.size < x2.heap.size := Nat.lt_of_lt_of_le hEb hBk.size
      go_simp
      refine hK.out _ _ kk2 (fun hHn => ?_)
      clear hK KK
      try simp only [Act.put, List.setIfInBounds_toArray, List.set_cons_zero, List.set_cons_succ]
      clear hx2 hBk
      refine wpAnyH_ready (rs := [7]) (by kernel_rfl) (by simp) ?_
      refine AllReadyH.cons (o := ⟨_, _, _, _, _, _⟩) rfl (fun KK hK => ?b18n0) AllReadyH.nil
      case b18n0 =>
        refine step_appZ _ (by rfl) _ _ 22 (by rfl) x1.heap.size 3 i0 _ 1 8 Tryd.underlying22 hi0 hz0' hz1' hz2' rfl (by decide) (.slice (some ⟨x1.heap.size, 0, none⟩) 0 0) 0 [] (by rfl) (owns_emptyZ HE0 (Nat.le_refl _)) (.slice a0 s.steps.length c0) s.steps.length (zCells s.steps) (by rfl) (srcZ_ints _ (hst.below HB2)) (by unfold maxLen; omega) (by omega) (by omega) ?_
        intro v x3 hown hgrow hat
        try simp only [Nat.zero_add, List.nil_append] at hown
        obtain ⟨bv, dv, rfl⟩ := ownsZ_form hown
        have hOs := ownsZ_mono hown hE9
        have hBl : ∀ b o v, x2.cell? ⟨b, o, none⟩ = some v → b ≠ x1.heap.size → x3.cell? ⟨b, o, none⟩ = some v := fun b o v hc hne => (World.cell?_of_block (a := ⟨b, o, none⟩) (hgrow.block b (lt_of_cell hc) (fun e => hne (by simpa [Value.ownBlock] using e)))).trans hc
        have hBf : ∀ b o, b < x2.heap.size → b ≠ x1.heap.size → x3.frozen? ⟨b, o, none⟩ = x2.frozen? ⟨b, o, none⟩ := fun b o hlt hne => World.frozen?_of_block (a := ⟨b, o, none⟩) (hgrow.block b hlt (fun e => hne (by simpa [Value.ownBlock] using e)))
        have HB3 : Below x0.heap.size x0 x3 := HB2.grown hgrow HB2.size (fun b hb => by simp [Value.ownBlock] at hb; omega)
        have kk3 : x3.cell? ⟨w.heap.size, 0, none⟩ = some (.int .i64 s.epoch) ∧ x3.cell? ⟨w.heap.size, 1, none⟩ = some (.int .i64 s.leader) ∧ x3.cell? ⟨w.heap.size, 2, none⟩ = some (.slice a0 s.steps.length c0) ∧ x3.cell? ⟨w.heap.size, 3, none⟩ = some (.int .i64 s.high) ∧ x3.cell? ⟨w.heap.size, 4, none⟩ = some (.slice a1 s.reps.length c1) := ⟨hBl _ _ _ kk2.1 (by omega), hBl _ _ _ kk2.2.1 (by omega), hBl _ _ _ kk2.2.2.1 (by omega), hBl _ _ _ kk2.2.2.2.1 (by omega), hBl _ _ _ kk2.2.2.2.2 (by omega)⟩
        have HOl := hOs
        replace e0 := hBl _ _ _ e0 (by omega)
        replace e1 := hBl _ _ _ e1 (by omega)
        replace e2 := hBl _ _ _ e2 (by omega)
        replace e3 := hBl _ _ _ e3 (by omega)
        replace e4 := hBl _ _ _ e4 (by omega)
        replace ef := fun o => (hBf x0.heap.size o hEb (by omega)).trans (ef o)
        have hEd : ∀ b, (Value.slice bv s.steps.length dv).ownBlock = some b → b ≠ x0.heap.size := fun b e => by rcases hat with h | h <;> rw [e] at h <;> simp [Value.ownBlock] at h <;> omega
        replace hEb : x0.heap.size < x3.heap.size := Nat.lt_of_lt_of_le hEb hgrow.size
        refine hK.out _ _ kk3 (fun hHn => ?_)
        clear hK KK
        try simp only [Act.put, List.setIfInBounds_toArray, List.set_cons_zero, List.set_cons_succ]
        clear hgrow hat hown hBl hBf
        refine wpAnyH_take (i := 10) (oi := ⟨_, _, _, _, _, _⟩) (v := ?vt19x) rfl (by kernel_rfl) (by kernel_rfl) (by kernel_rfl) (fun _ _ _ h => h) (Or.inl ⟨by rfl, ?yt19x⟩) (by assumption) ?rt19x
        case yt19x => intro w hSw; (try dsimp only at hSw); go_simp; try with_reducible rfl
        try simp only [Act.put, List.setIfInBounds_toArray, List.set_cons_zero, List.set_cons_succ]
        refine wpAnyH_ready (rs := [12]) (by kernel_rfl) (by simp) ?_
        refine AllReadyH.cons (o := ⟨_, _, _, _, _, _⟩) rfl (fun KK hK => ?b20n0) AllReadyH.nil
        case b20n0 =>
          have kkS : (((((x3.setCell ⟨x0.heap.size, 0, none⟩ (.int .i64 s.epoch)).setCell ⟨x0.heap.size, 1, none⟩ (.int .i64 s.leader)).setCell ⟨x0.heap.size, 2, none⟩ (.slice bv s.steps.length dv)).setCell ⟨x0.heap.size, 3, none⟩ (.int .i64 s.high)).setCell ⟨x0.heap.size, 4, none⟩ (.slice none 0 0)).cell? ⟨w.heap.size, 0, none⟩ = some (.int .i64 s.epoch) ∧ (((((x3.setCell ⟨x0.heap.size, 0, none⟩ (.int .i64 s.epoch)).setCell ⟨x0.heap.size, 1, none⟩ (.int .i64 s.leader)).setCell ⟨x0.heap.size, 2, none⟩ (.slice bv s.steps.length dv)).setCell ⟨x0.heap.size, 3, none⟩ (.int .i64 s.high)).setCell ⟨x0.heap.size, 4, none⟩ (.slice none 0 0)).cell? ⟨w.heap.size, 1, none⟩ = some (.int .i64 s.leader) ∧ (((((x3.setCell ⟨x0.heap.size, 0, none⟩ (.int .i64 s.epoch)).setCell ⟨x0.heap.size, 1, none⟩ (.int .i64 s.leader)).setCell ⟨x0.heap.size, 2, none⟩ (.slice bv s.steps.length dv)).setCell ⟨x0.heap.size, 3, none⟩ (.int .i64 s.high)).setCell ⟨x0.heap.size, 4, none⟩ (.slice none 0 0)).cell? ⟨w.heap.size, 2, none⟩ = some (.slice a0 s.steps.length c0) ∧ (((((x3.setCell ⟨x0.heap.size, 0, none⟩ (.int .i64 s.epoch)).setCell ⟨x0.heap.size, 1, none⟩ (.int .i64 s.leader)).setCell ⟨x0.heap.size, 2, none⟩ (.slice bv s.steps.length dv)).setCell ⟨x0.heap.size, 3, none⟩ (.int .i64 s.high)).setCell ⟨x0.heap.size, 4, none⟩ (.slice none 0 0)).cell? ⟨w.heap.size, 3, none⟩ = some (.int .i64 s.high) ∧ (((((x3.setCell ⟨x0.heap.size, 0, none⟩ (.int .i64 s.epoch)).setCell ⟨x0.heap.size, 1, none⟩ (.int .i64 s.leader)).setCell ⟨x0.heap.size, 2, none⟩ (.slice bv s.steps.length dv)).setCell ⟨x0.heap.size, 3, none⟩ (.int .i64 s.high)).setCell ⟨x0.heap.size, 4, none⟩ (.slice none 0 0)).cell? ⟨w.heap.size, 4, none⟩ = some (.slice a1 s.reps.length c1) := ⟨by rw [World.cell?_setCell_other _ _ _ _ (by first | (simp; done) | (simp; omega)), World.cell?_setCell_other _ _ _ _ (by first | (simp; done) | (simp; omega)), World.cell?_setCell_other _ _ _ _ (by first | (simp; done) | (simp; omega)), World.cell?_setCell_other _ _ _ _ (by first | (simp; done) | (simp; omega)), World.cell?_setCell_other _ _ _ _ (by first | (simp; done) | (simp; omega))]; exact kk3.1, by rw [World.cell?_setCell_other _ _ _ _ (by first | (simp; done) | (simp; omega)), World.cell?_setCell_other _ _ _ _ (by first | (simp; done) | (simp; omega)), World.cell?_setCell_other _ _ _ _ (by first | (simp; done) | (simp; omega)), World.cell?_setCell_other _ _ _ _ (by first | (simp; done) | (simp; omega)), World.cell?_setCell_other _ _ _ _ (by first | (simp; done) | (simp; omega))]; exact kk3.2.1, by rw [World.cell?_setCell_other _ _ _ _ (by first | (simp; done) | (simp; omega)), World.cell?_setCell_other _ _ _ _ (by first | (simp; done) | (simp; omega)), World.cell?_setCell_other _ _ _ _ (by first | (simp; done) | (simp; omega)), World.cell?_setCell_other _ _ _ _ (by first | (simp; done) | (simp; omega)), World.cell?_setCell_other _ _ _ _ (by first | (simp; done) | (simp; omega))]; exact kk3.2.2.1, by rw [World.cell?_setCell_other _ _ _ _ (by first | (simp; done) | (simp; omega)), World.cell?_setCell_other _ _ _ _ (by first | (simp; done) | (simp; omega)), World.cell?_setCell_other _ _ _ _ (by first | (simp; done) | (simp; omega)), World.cell?_setCell_other _ _ _ _ (by first | (simp; done) | (simp; omega)), World.cell?_setCell_other _ _ _ _ (by first | (simp; done) | (simp; omega))]; exact kk3.2.2.2.1, by rw [World.cell?_setCell_other _ _ _ _ (by first | (simp; done) | (simp; omega)), World.cell?_setCell_other _ _ _ _ (by first | (simp; done) | (simp; omega)), World.cell?_setCell_other _ _ _ _ (by first | (simp; done) | (simp; omega)), World.cell?_setCell_other _ _ _ _ (by first | (simp; done) | (simp; omega)), World.cell?_setCell_other _ _ _ _ (by first | (simp; done) | (simp; omega))]; exact kk3.2.2.2.2⟩
          go_simp
          refine hK.out _ _ kkS (fun hHn => ?_)
          clear hK KK
          try simp only [Act.put, List.setIfInBounds_toArray, List.set_cons_zero, List.set_cons_succ]
          refine wpAnyH_done (by kernel_rfl) (NoPanic.normal ?_) _
          obtain ⟨x, hx⟩ : ∃ u, (((((x3.setCell ⟨x0.heap.size, 0, none⟩ (.int .i64 s.epoch)).setCell ⟨x0.heap.size, 1, none⟩ (.int .i64 s.leader)).setCell ⟨x0.heap.size, 2, none⟩ (.slice bv s.steps.length dv)).setCell ⟨x0.heap.size, 3, none⟩ (.int .i64 s.high)).setCell ⟨x0.heap.size, 4, none⟩ (.slice none 0 0)) = u := ⟨_, rfl⟩
          try rw [hx]
          obtain ⟨S, hS⟩ : ∃ S, x0.heap.size = S := ⟨_, rfl⟩
          have hSx : S < x.heap.size := by rw [← hx, ← hS]; simpa using hEb
          have hxz : x0.heap.size ≤ S := by rw [← hS]; exact hEx
          have Bx : Below x0.heap.size x0 x := by rw [← hx]; exact ((((HB3.setCell hEx _).setCell hEx _).setCell hEx _).setCell hEx _).setCell hEx _
          have d0 : x.cell? ⟨S, 0, none⟩ = some (.int .i64 s.epoch) := by rw [← hx, ← hS]; simp [go_sem, e0]
          have d1 : x.cell? ⟨S, 1, none⟩ = some (.int .i64 s.leader) := by rw [← hx, ← hS]; simp [go_sem, e1]
          have d2 : x.cell? ⟨S, 2, none⟩ = some (.slice bv s.steps.length dv) := by rw [← hx, ← hS]; simp [go_sem, e2]
          have d3 : x.cell? ⟨S, 3, none⟩ = some (.int .i64 s.high) := by rw [← hx, ← hS]; simp [go_sem, e3]
          have d4 : x.cell? ⟨S, 4, none⟩ = some (.slice none 0 0) := by rw [← hx, ← hS]; simp [go_sem, e4]
          have df : ∀ o, x.frozen? ⟨S, o, none⟩ = false := fun o => by rw [← hx, ← hS]; simp [go_sem, ef]
          have HOx : Hid (x.ownsRow x0.heap.size 3 1 (.slice bv s.steps.length dv) s.steps.length (zCells s.steps)) := by
            obtain ⟨o1, o2⟩ := HOl
            refine ⟨o1, o2.imp id fun ⟨g', cap', cur, hv, hg, hh, r⟩ => ⟨g', cap', cur, hv, hg, ?_, r⟩⟩
            have hne := hEd g' (by rw [hv]; simp [Value.ownBlock])
            rw [← hx, Below.heap_setCell _ ⟨x0.heap.size, _, none⟩ _ g' (fun e => hne e), Below.heap_setCell _ ⟨x0.heap.size, _, none⟩ _ g' (fun e => hne e), Below.heap_setCell _ ⟨x0.heap.size, _, none⟩ _ g' (fun e => hne e), Below.heap_setCell _ ⟨x0.heap.size, _, none⟩ _ g' (fun e => hne e), Below.heap_setCell _ ⟨x0.heap.size, _, none⟩ _ g' (fun e => hne e)]
            exact hh
          have HEd : Hid (∀ b, (Value.slice bv s.steps.length dv).ownBlock = some b → b ≠ S ∧ b < x.heap.size) := fun b e => ⟨by rw [← hS]; exact hEd b e, (HOx.out.lt b e).2⟩
          try rw [hS]
          have hOw0 : OwS S x x (.slice none 0 0) [] := ⟨World.ownsRow_nil _ _ _ _, fun i q hq => by simp at hq, fun i q b hq => by simp at hq, fun i j q q' b hq => by simp at hq, fun _ _ _ => rfl, Nat.le_refl _, fun _ _ => Below.refl _ _, fun _ _ _ h => h, d4, df⟩
          have hBx := Bx.size
          have j0 := celB Bx g0
          have j1 := celB Bx g1
          have j2 := celB Bx g2
          have j3 := celB Bx g3
          have j4 := celB Bx g4
          clear hx hS kkS ef e0 e1 e2 e3 e4 hEb hEx hEd HOl hOs HE0 hE0 hE9 hHn
          go_wp2
          clear j0 j1 j2 j3 j4
          go_loopw [20] (fun i wr => ∃ (k : Nat) (v : Value) (qs : List Rq), k ≤ s.reps.length ∧ i = .int .i64 k ∧ Hid (qs.map Rq.p = s.reps.take k) ∧ OwS S x wr v qs) (fun i _ => s.reps.length - (intOf i).toNat)
          case atStart => exact ⟨0, _, [], Nat.zero_le _, rfl, rfl, hOw0⟩
          case round =>
            clear hOw0
            obtain ⟨k, v, qs, hk, rfl, HQ, hst'⟩ := hrel
            have BR : Below x0.heap.size x0 wr := Bx.trans (hst'.bel _ hxz)
            have hzr := hst'.size
            have hqa : qs.length ≤ k := by have := congrArg List.length HQ.out; simp at this; omega
            have hqb : k ≤ qs.length := by have := congrArg List.length HQ.out; simp at this; omega
            have cS := hst'.c4
            have fS := hst'.fr
            by_cases hlt : k < s.reps.length
            · obtain ⟨p, hp⟩ := getRp hlt
              obtain ⟨K, o, ea, r0, k0, f0, f1, f2, zl, ml⟩ := ((hs.reps.below b0).below BR) k p hp
              subst ea
              have hp30 := hlog k p hp
              have hki : (k : Int) < (s.reps.length : Int) := by omega
              have HP : Hid (s.reps[k]? = some p) := hp
              clear hp
              obtain ⟨u1, hu1⟩ : ∃ u, wr.alloc (.cells #[.slice r0 p.log.length k0, .int .i64 p.epoch, .int .i64 p.known] 81) = u := ⟨_, rfl⟩
              have B1 : Below wr.heap.size wr u1 := by rw [← hu1]; exact alGr _ _
              have z1a : u1.heap.size ≤ wr.heap.size + 1 := by rw [← hu1]; simp
              have z1b : wr.heap.size + 1 ≤ u1.heap.size := by rw [← hu1]; simp
              have m0 : u1.cell? ⟨wr.heap.size, 0, none⟩ = some (.slice r0 p.log.length k0) := by rw [← hu1]; simp [go_sem]
              have m1 : u1.cell? ⟨wr.heap.size, 1, none⟩ = some (.int .i64 p.epoch) := by rw [← hu1]; simp [go_sem]
              have m2 : u1.cell? ⟨wr.heap.size, 2, none⟩ = some (.int .i64 p.known) := by rw [← hu1]; simp [go_sem]
              have mf : ∀ o, u1.frozen? ⟨wr.heap.size, o, none⟩ = false := fun o => by rw [← hu1]; simp [go_sem]
              obtain ⟨u2, hu2⟩ : ∃ u, u1.alloc (.cells #[] 98) = u := ⟨_, rfl⟩
              have B2 : Below u1.heap.size u1 u2 := by rw [← hu2]; exact alGr _ _
              have HE1 : u2.heap[u1.heap.size]? = some (.cells #[] 98 (0, 0)) := by rw [← hu2]; exact heap_alloc_new _ _
              have z2a : u2.heap.size ≤ u1.heap.size + 1 := by rw [← hu2]; simp
              have z2b : u1.heap.size + 1 ≤ u2.heap.size := by rw [← hu2]; simp
              replace m0 := celB B2 m0
              replace m1 := celB B2 m1
              replace m2 := celB B2 m2
              replace mf := fun o => frzB (o := o) B2 (by omega) (mf o)
              have B12 := stGr B1 B2
              have hsrc : SrcZ u2 (.slice r0 p.log.length k0) p.log.length 2 (p.log.flatMap rwC) := by have := srcZ_rws k0 (zl.below B12) (Nat.le_refl _); rwa [List.take_length] at this
              have cS2 := celB B12 cS
              have fS2 := fun o => frzB (o := o) B12 (by omega) (fS o)
              go_wp2_with (at_builtin; refine wpList_appZ _ rfl _ _ 79 rfl u1.heap.size 98 i1 _ 2 16 Tryd.underlying79 hi1 hy0 hy1 hy2 rfl (by decide) (.slice (some ⟨u1.heap.size, 0, none⟩) 0 0) 0 [] rfl (owns_emptyZ HE1 (Nat.le_refl _)) (.slice r0 p.log.length k0) p.log.length (p.log.flatMap rwC) rfl hsrc ?q3 ?q4 ?q5 ?_)
              case q3 => unfold maxLen; omega
              case q4 => omega
              case q5 => omega
              intro v4 w4 hown4 hgrow4 hat4
              try simp only [Nat.zero_add, List.nil_append] at hown4
              obtain ⟨a', k', rfl⟩ := ownsZ_form hown4
              have hk' : p.log.length ≤ k' := by obtain ⟨a9, c9, e9, h9, -⟩ := ownsZ_cap hown4; simp only [Value.slice.injEq] at e9; omega
              have hbl : ∀ b, b < u2.heap.size → b ≠ u1.heap.size → w4.heap[b]? = u2.heap[b]? := fun b h1 h2 => hgrow4.block b h1 (fun e => h2 (by simpa [Value.ownBlock] using e))
              have z4' := hgrow4.size
              have B4 : Below wr.heap.size wr w4 := B12.grown hgrow4 (by omega) (fun b hb => by simp [Value.ownBlock] at hb; omega)
              have c4 : ∀ b o v, u2.cell? ⟨b, o, none⟩ = some v → b < u2.heap.size → b ≠ u1.heap.size → w4.cell? ⟨b, o, none⟩ = some v := fun b o v hc h1 h2 => (World.cell?_of_block (a := ⟨b, o, none⟩) (hbl b h1 h2)).trans hc
              replace m0 := c4 _ _ _ m0 (by omega) (by omega)
              replace m1 := c4 _ _ _ m1 (by omega) (by omega)
              replace m2 := c4 _ _ _ m2 (by omega) (by omega)
              replace mf : ∀ o, w4.frozen? ⟨wr.heap.size, o, none⟩ = false := fun o => (World.frozen?_of_block (a := ⟨wr.heap.size, o, none⟩) (hbl wr.heap.size (by omega) (by omega))).trans (mf o)
              replace cS2 := celB B4 cS
              replace fS2 := fun o => frzB (o := o) B4 (by omega) (fS o)
              have hrow4 : RowRw w4 u1.heap.size a' p.log.length := rowRw_of_owns hown4
              have hlie4 : Rws w4 a' p.log := rws_of_owns hown4
              obtain ⟨u5, hu5⟩ : ∃ u, w4.setCell ⟨wr.heap.size, 0, none⟩ (.slice a' p.log.length k') = u := ⟨_, rfl⟩
              have z5a : u5.heap.size ≤ w4.heap.size := by rw [← hu5]; simp
              have z5b : w4.heap.size ≤ u5.heap.size := by rw [← hu5]; simp
              have B5 : Below wr.heap.size wr u5 := by rw [← hu5]; exact B4.setCell (Nat.le_refl _) _
              have hs5 : ∀ b, InI a' p.log.length b → u5.heap[b]? = w4.heap[b]? := fun b hi => by rw [← hu5]; exact Below.heap_setCell _ ⟨wr.heap.size, 0, none⟩ _ b (by have := (hrow4.lt hi).1; simp; omega)
              have hlie5 := hlie4.of_block hs5
              have hrow5 := hrow4.of_block hs5
              have n0 : u5.cell? ⟨wr.heap.size, 0, none⟩ = some (.slice a' p.log.length k') := by rw [← hu5]; simp [go_sem, m0]
              have n1 : u5.cell? ⟨wr.heap.size, 1, none⟩ = some (.int .i64 p.epoch) := by rw [← hu5]; simp [go_sem, m1]
              have n2 : u5.cell? ⟨wr.heap.size, 2, none⟩ = some (.int .i64 p.known) := by rw [← hu5]; simp [go_sem, m2]
              have cS5 := celB B5 cS
              have fS5 := fun o => frzB (o := o) B5 (by omega) (fS o)
              obtain ⟨u6, hu6⟩ : ∃ u, u5.alloc (.cells #[.slice a' p.log.length k', .int .i64 p.epoch, .int .i64 p.known] 81) = u := ⟨_, rfl⟩
              have B56 : Below u5.heap.size u5 u6 := by rw [← hu6]; exact alGr _ _
              have B6 := stGr B5 B56
              have z6a : u6.heap.size ≤ u5.heap.size + 1 := by rw [← hu6]; simp
              have z6b : u5.heap.size + 1 ≤ u6.heap.size := by rw [← hu6]; simp
              have HE6 : u6.heap[u5.heap.size]? = some (.cells #[.slice a' p.log.length k', .int .i64 p.epoch, .int .i64 p.known] 81 (0, 0)) := by rw [← hu6]; exact heap_alloc_new _ _
              have hst6 := hst'.below hSx B6
              have cS6 := hst6.c4
              have fS6 := hst6.fr
              go_wp2_with (at_builtin; refine wpList_append_lies _ rfl _ _ 23 rfl x.heap.size 81 i2 _ 3 40 Tryd.underlying23 hi2 hw0 hw1 hw2 rfl (by decide) v qs.length (qs.flatMap rqC) rfl hst6.own ⟨u5.heap.size, 0, none⟩ 1 1 [.slice a' p.log.length k', .int .i64 p.epoch, .int .i64 p.known] rfl rfl ?q1 ?q2 (by omega) ?q6 ?q7 ?q8 u6.heap.size ?q9 ?_)
              case q1 => exact World.news_of_block (cs := #[.slice a' p.log.length k', .int .i64 p.epoch, .int .i64 p.known]) (t := 81) (fr := (0, 0)) HE6
              case q2 => simp [Value.oneCell']
              case q6 => unfold maxLen; omega
              case q7 => omega
              case q8 => omega
              case q9 => rfl
              intro g2 cap2 w7 HO7 hgrow7 hat7 hlt7
              have HN : Hid (OwS S x (w7.setCell ⟨S, 4, none⟩ (.slice (some ⟨g2, 0, none⟩) (qs.length + 1) cap2)) (.slice (some ⟨g2, 0, none⟩) (qs.length + 1) cap2) (qs ++ [⟨p, a', k'⟩])) := hst'.step (q := ⟨p, a', k'⟩) hSx B6 (hlie5.below B56) ml ((hrow5.below B56).mono (by omega)) hk' HO7 hgrow7 (fun b e => by simp only [Value.ownBlock, Option.some.injEq] at e; subst e; rcases hat7 with h | h; (· exact .inl h); exact .inr (by omega))
              have HM : Hid ((qs ++ [(⟨p, a', k'⟩ : Rq)]).map Rq.p = s.reps.take (k + 1)) := by show _ = _; rw [List.map_append, HQ.out, takeRp_snoc HP.out]; rfl
              have hvS : some S ≠ v.ownBlock := fun e => by have := (hst6.own.lt S e.symm).1; omega
              have y4 : w7.cell? ⟨S, 4, none⟩ = some v := (World.cell?_of_block (a := ⟨S, 4, none⟩) (hgrow7.block S (by omega) hvS)).trans cS6
              have yf : ∀ o, w7.frozen? ⟨S, o, none⟩ = false := fun o => (World.frozen?_of_block (a := ⟨S, o, none⟩) (hgrow7.block S (by omega) hvS)).trans (fS6 o)
              clear HO7 hgrow7 hat7 hst6 hst' hu1 hu2 hu5 hu6 hown4 hgrow4 hat4 hbl c4
              go_wp2
              go_roundw
              case rel => exact ⟨k + 1, _, _, by omega, by go_num, HM.out, HN.out⟩
              case measure => simp [intOf]; omega
            · obtain rfl : k = s.reps.length := by omega
              have hqm : qs.map Rq.p = s.reps := by rw [HQ.out, List.take_length]
              obtain ⟨R, cv, fq, rfl, -, -, -, -⟩ := row_of_ownsZ hst'.own (by omega)
              have HG : Hid (Gow wr x0.heap.size s bv R qs) := by
                have hI := ints_of_owns HOx.out
                have sm : ∀ b, InI bv s.steps.length b → wr.heap[b]? = x.heap[b]? := fun b hi => by
                  obtain ⟨h9, o9, s9, e9⟩ := hi
                  have hob : (Value.slice bv s.steps.length dv).ownBlock = some b := by rw [e9]; rfl
                  have := HEd.out b hob
                  exact hst'.oth b this.2 this.1
                refine ⟨hqm, hI.1.of_block sm, hI.2.of_block sm, fun b hi => ?_, ?_⟩
                · obtain ⟨h9, o9, s9, e9⟩ := hi
                  have h7 := HEd.out b (by rw [e9]; rfl)
                  have h8 := (hst'.own.lt R rfl).1
                  omega
                · exact (hst'.done (by omega)).mono (by omega)
              have HOw : Hid (wr.ownsRow x0.heap.size 3 1 (.slice bv s.steps.length dv) s.steps.length (zCells s.steps)) := by
                obtain ⟨o1, o2⟩ := HOx.out
                refine ⟨o1, o2.imp id fun ⟨g', cap', cur, hv, hg, hh, r⟩ => ⟨g', cap', cur, hv, hg, ?_, r⟩⟩
                have := HEd.out g' (by rw [hv]; simp [Value.ownBlock])
                rw [hst'.oth g' this.2 this.1]
                exact hh
              have y0 := hst'.cel 0 _ (by omega) d0
              have y1 := hst'.cel 1 _ (by omega) d1
              have y2 := hst'.cel 2 _ (by omega) d2
              have y3 := hst'.cel 3 _ (by omega) d3
              have v0 := celB BR z0
              have v1 := celB BR z1
              have v2 := celB BR z2
              have v3 := celB BR z3
              have v4 := celB BR z4
              have vf : ∀ o, wr.frozen? ⟨w.heap.size + 1, o, none⟩ = false := fun o => frzB BR (by omega) (zf o)
              have BW : Below w.heap.size w wr := b0.trans (BR.mono (by omega))
              rw [show qs.length = s.reps.length by omega] at cS
              clear hst'
              go_wp2
              refine bodyPost_ret (v := grV s bv dv (some ⟨R, 0, none⟩) cv) (by simp [results, Tryd.results42, go_sem, v0, v1, v2, v3, v4]) rfl ⟨bv, dv, R, cv, qs, rfl, ?_, ?_, ?_⟩
              · exact (((((HG.out.setO (by omega) _ _).setO (by omega) _ _).setO (by omega) _ _).setO (by omega) _ _).setO (by omega) _ _).mono (by omega)
              · exact ownsZ_mono (owns_setO (owns_setO (owns_setO (owns_setO (owns_setO HOw.out (by omega)) (by omega)) (by omega)) (by omega)) (by omega)) (by omega)
              · exact ((((BW.setCell (by simp) _).setCell (by simp) _).setCell (by simp) _).setCell (by simp) _).setCell (by simp) _

end Go.Proofs.YtkhbgdnhkaeamaaDoor
