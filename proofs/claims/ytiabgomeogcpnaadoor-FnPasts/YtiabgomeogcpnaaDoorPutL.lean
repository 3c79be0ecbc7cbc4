/-
  A number put to its place in a list, once: 'putL', and the contract of spec.l1Put.
-/
import Derived.Test.YtiabgomeogcpnaaDoorZan
import Derived.Laws.AppendOwnNone
namespace Go.Proofs.YtiabgomeogcpnaaDoor
open Go.RowKit

def putL : List Int → Int → List Int
  | [], x => [x]
  | y :: ys, x => if y < x then y :: putL ys x else if y = x then y :: ys else x :: y :: ys

theorem putL_at : ∀ (zs : List Int) (x : Int) (k : Nat), k ≤ zs.length → (∀ j, j < k → zA zs j < x) → (k = zs.length ∨ x < zA zs k) → putL zs x = zs.take k ++ [x] ++ zs.drop k
  | [], x, k, hk, _, _ => by simp at hk; subst hk; rfl
  | y :: ys, x, 0, _, _, h2 => by
    have h : x < y := by
      rcases h2 with h2 | h2
      · simp at h2
      · simpa [zA] using h2
    simp only [putL]
    rw [if_neg (by omega), if_neg (by omega)]; rfl
  | y :: ys, x, k + 1, hk, h1, h2 => by
    have h0 : y < x := by have := h1 0 (by omega); simpa [zA] using this
    have ih := putL_at ys x k (by simpa using hk) (fun j hj => by have := h1 (j + 1) (by omega); simpa [zA] using this) (by
      rcases h2 with h2 | h2
      · left; simpa using h2
      · right; simpa [zA] using h2)
    simp only [putL]
    rw [if_pos h0, ih]; rfl

theorem putL_old : ∀ (zs : List Int) (x : Int) (k : Nat), k < zs.length → (∀ j, j < k → zA zs j < x) → zA zs k = x → putL zs x = zs
  | [], x, k, hk, _, _ => by simp at hk
  | y :: ys, x, 0, _, _, h2 => by
    have h : y = x := by simpa [zA] using h2
    simp only [putL]
    rw [if_neg (by omega), if_pos h]
  | y :: ys, x, k + 1, hk, h1, h2 => by
    have h0 : y < x := by have := h1 0 (by omega); simpa [zA] using this
    have ih := putL_old ys x k (by simpa using hk) (fun j hj => by have := h1 (j + 1) (by omega); simpa [zA] using this) (by simpa [zA] using h2)
    simp only [putL]
    rw [if_pos h0, ih]

-- behind l6List
theorem news_takeO {w : World} {g o n : Nat} {zs : List Int} (h : Ints w (some ⟨g, o, none⟩) zs) : ∀ j u, (zCells (zs.take n))[j]? = some u → w.cell? ((⟨g, o, none⟩ : Addr).add j) = some u := fun j u hu => by
  simp only [zCells, List.getElem?_map, Option.map_eq_some_iff] at hu
  obtain ⟨z, hz, rfl⟩ := hu
  have hlt := (List.getElem?_eq_some_iff.1 hz).1
  rw [List.length_take] at hlt
  rw [List.getElem?_take_of_lt (by omega)] at hz
  obtain ⟨b, o', e, hc⟩ := h j z hz
  simp only [Option.some.injEq, Addr.mk.injEq, and_true] at e
  obtain ⟨rfl, rfl⟩ := e
  rw [Go.WideShapes.add_plain]; exact hc

theorem news_dropO {w : World} {g o n : Nat} {zs : List Int} (h : Ints w (some ⟨g, o, none⟩) zs) : ∀ j u, (zCells (zs.drop n))[j]? = some u → w.cell? ((⟨g, o + n, none⟩ : Addr).add j) = some u := fun j u hu => by
  simp only [zCells, List.getElem?_map, Option.map_eq_some_iff, List.getElem?_drop] at hu
  obtain ⟨z, hz, rfl⟩ := hu
  obtain ⟨b, o', e, hc⟩ := h (n + j) z hz
  simp only [Option.some.injEq, Addr.mk.injEq, and_true] at e
  obtain ⟨rfl, rfl⟩ := e
  rw [Go.WideShapes.add_plain, Nat.add_assoc]; exact hc

/-- What l1Put answers. -/
def PutAns (B : Nat) (w : World) (zs : List Int) (r : Ending) (w' : World) : Prop :=
  ∃ a c, r = .returned (.slice a zs.length c) ∧ w'.ownsRow B 3 1 (.slice a zs.length c) zs.length (zCells zs) ∧ Below w.heap.size w w'

theorem ownsZ_mono {w : World} {B B' : Nat} {e : TypeId} {size : Nat} {v : Value} {n : Nat} {xs : List Value} (h : w.ownsRow B e size v n xs) (hB : B' ≤ B) : w.ownsRow B' e size v n xs := by
  obtain ⟨h1, h2 | ⟨g, cap, cur, hv, hg, r⟩⟩ := h
  · exact ⟨h1, .inl h2⟩
  · exact ⟨h1, .inr ⟨g, cap, cur, hv, by omega, r⟩⟩

set_option maxRecDepth 100000 in
set_option maxHeartbeats 4000000 in
theorem l1Put_nil (x : Int) (B : Nat) (w : World) (hB : B ≤ w.heap.size) :
    Calls Tryd.prog 32 #[.slice none 0 0, .int .i64 (x : Int)] w fun r w' => PutAns B w [(x : Int)] r w' := by
  obtain ⟨i0, hi, hz0, hz1, hz2⟩ := info_parts Tryd.infoInt
  have ha : ∀ ob, Below w.heap.size w (w.alloc ob) := fun ob => (Below.refl _ _).alloc (Nat.le_refl _) ob
  go_enter Tryd.func32, Tryd.ntmps32
  go_wp2
  go_loop [5] (fun i => i = .int .i64 0) (fun _ => 0)
  case atStart => rfl
  case round =>
    obtain rfl := hrel
    go_wp2_with (first
      | (at_builtin; refine wpList_append_own_none rfl (.tmp 34) (.tmp 37) 26 rfl w.heap.size 3 i0 1 Tryd.underlying26 hi (.slice none 0 0) 0 [] rfl (World.ownsRow_nil _ _ _ _) rfl ?_)
      | (at_builtin; refine wpList_append_lies _ rfl (.tmp 39) (.tmp 41) 26 rfl w.heap.size 3 i0 _ 1 8 Tryd.underlying26 hi hz0 hz1 hz2 rfl (by decide) (.slice none 0 0) 0 [] rfl (World.ownsRow_nil _ _ _ _) ⟨w.heap.size, 0, none⟩ 1 1 (zCells [(x : Int)]) rfl rfl (World.news_of_block (cs := #[.int .i64 (x : Int)]) (t := 3) (fr := (0, 0)) (by first | exact (heap_alloc_new w _) | simpa using (heap_alloc_new w _))) (by simp [zCells, Value.oneCell']) (by omega) (by unfold maxLen; omega) (by omega) (by simp) (w.heap.size + 1) (by simp) ?_; intro g4 cap4 w4 hown4 hgrow4 hat4 _; try simp only [Nat.zero_add, List.nil_append] at hown4)
      | (at_builtin; refine wpList_append_own_none rfl (.tmp 43) (.tmp 46) 26 rfl w.heap.size 3 i0 1 Tryd.underlying26 hi (.slice (some ⟨g4, 0, none⟩) 1 cap4) 1 (zCells [(x : Int)]) rfl hown4 rfl ?_))
    go_ret
    exact ⟨_, _, rfl, ownsZ_mono hown4 hB, (ha _).grown hgrow4 (by simp) (fun k hk => by simp [Value.ownBlock] at hk)⟩

set_option maxRecDepth 100000 in
set_option maxHeartbeats 8000000 in
theorem l1Put_own (zs : List Int) (x : Int) (hml : zs.length ≤ 100) (B g c : Nat) (w : World) (hB : B ≤ w.heap.size) (hown : w.ownsRow B 3 1 (.slice (some ⟨g, 0, none⟩) zs.length c) zs.length (zCells zs)) (hc : zs.length ≤ c) (hcm : c ≤ maxLen) :
    Calls Tryd.prog 32 #[.slice (some ⟨g, 0, none⟩) zs.length c, .int .i64 (x : Int)] w fun r w' => PutAns B w (putL zs x) r w' := by
  unfold maxLen at hcm
  obtain ⟨i0, hi, hz0, hz1, hz2⟩ := info_parts Tryd.infoInt
  have hI := (ints_of_owns hown).1
  have HOWN : Hid (w.ownsRow B 3 1 (.slice (some ⟨g, 0, none⟩) zs.length c) zs.length (zCells zs)) := hown
  clear hown
  go_enter Tryd.func32, Tryd.ntmps32
  go_wp2
  go_loop [5] (fun i => ∃ k : Nat, k ≤ zs.length ∧ i = .int .i64 (k : Int) ∧ ∀ j, j < k → zA zs j < (x : Int)) (fun i => zs.length - (intOf i).toNat)
  case atStart => exact ⟨0, Nat.zero_le _, rfl, fun i hi => absurd hi (Nat.not_lt_zero _)⟩
  case round =>
    obtain ⟨k, hk, rfl, hok⟩ := hrel
    have HO : Hid (∀ j, j < k → zA zs j < (x : Int)) := hok
    clear hok
    have hnew : (k = zs.length ∨ (x : Int) < zA zs k) → putL zs x = zs.take k ++ [(x : Int)] ++ zs.drop k := fun h => putL_at zs x k hk HO.out h
    have hold : k < zs.length → zA zs k = (x : Int) → putL zs x = zs := fun hl e => putL_old zs x k hl HO.out e
    have HNEW : Hid ((k = zs.length ∨ (x : Int) < zA zs k) → putL zs x = zs.take k ++ [(x : Int)] ++ zs.drop k) := hnew
    have HOLD : Hid (k < zs.length → zA zs k = (x : Int) → putL zs x = zs) := hold
    clear hnew hold
    by_cases hlt : k < zs.length
    · obtain ⟨g', o', e', hcell⟩ := hI k _ (zA_get hlt)
      simp only [Option.some.injEq, Addr.mk.injEq, and_true] at e'
      obtain ⟨rfl, rfl⟩ := e'
      rw [Nat.zero_add] at hcell
      by_cases hlx : zA zs k < (x : Int)
      · clear hI
        go_wp2
        go_round
        case rel =>
          refine ⟨k + 1, by omega, by go_num, fun j hj => ?_⟩
          by_cases e : j = k
          · subst e; exact hlx
          · exact HO.out j (by omega)
        case measure => simp [intOf]; omega
      by_cases hex : zA zs k = (x : Int)
      · have heb : (zA zs k == (x : Int)) = true := by simp [hex]
        have HE := HOLD.out hlt hex
        have HE2 : Hid (putL zs x = zs) := HE
        clear hI HE hex
        go_wp2
        go_ret
        rw [HE2.out]
        exact ⟨_, _, rfl, HOWN.out, Below.refl _ _⟩
      · have heb : (zA zs k == (x : Int)) = false := by simp [hex]
        have HE : Hid (putL zs x = zs.take k ++ [(x : Int)] ++ zs.drop k) := HNEW.out (.inr (by omega))
        clear hex
        have ha : ∀ (u : World) ob, Below u.heap.size u (u.alloc ob) := fun u ob => (Below.refl _ _).alloc (Nat.le_refl _) ob
        have ck : ((k : Nat) : Int) ≤ (c : Int) := by omega
        have tl : (zCells (zs.take k)).length = k * 1 := by rw [zCells_len, List.length_take]; omega
        have q1 : ¬ (c = k) := by omega
        go_wp2_with (first
          | (at_builtin; refine wpList_append_own _ rfl (.tmp 34) (.tmp 37) 26 rfl w.heap.size 3 i0 (.int .i64 0) 1 8 Tryd.underlying26 hi hz0 hz1 hz2 rfl (by decide) (.slice none 0 0) 0 [] rfl (World.ownsRow_nil _ _ _ _) ⟨g, 0, none⟩ k c (zCells (zs.take k)) rfl tl (news_takeO hI) (zCells_one _) (by unfold maxLen; omega) (by omega) (Nat.le_refl _) ?_; intro v1 w1 hown1 hgrow1 _; try simp only [Nat.zero_add, List.nil_append] at hown1; obtain ⟨a1, c1, rfl⟩ := ownsZ_form hown1; have B1 : Below w.heap.size w w1 := (Below.refl _ _).grown hgrow1 (Nat.le_refl _) (fun q hq => by simp [Value.ownBlock] at hq))
          | (at_builtin; refine wpList_append_lies _ rfl (.tmp 39) (.tmp 41) 26 rfl w.heap.size 3 i0 _ 1 8 Tryd.underlying26 hi hz0 hz1 hz2 rfl (by decide) (.slice a1 k c1) k (zCells (zs.take k)) rfl (ownsZ_below hown1 (ha w1 _)) ⟨w1.heap.size, 0, none⟩ 1 1 (zCells [(x : Int)]) rfl rfl (World.news_of_block (cs := #[.int .i64 (x : Int)]) (t := 3) (fr := (0, 0)) (by first | exact (heap_alloc_new w1 _) | simpa using (heap_alloc_new w1 _))) (by simp [zCells, Value.oneCell']) (by omega) (by unfold maxLen; omega) (by omega) (by have := B1.size; simp; omega) (w1.heap.size + 1) (by simp) ?_; intro g2 cap2 w2 hown2 hgrow2 hat2 _; have B2 : Below w.heap.size w w2 := (B1.trans ((ha w1 _).mono B1.size)).grown hgrow2 (by have := B1.size; simp; omega) (fun q hq => (hown1.lt q hq).1))
          | (at_builtin; refine wpList_append_own _ rfl (.tmp 43) (.tmp 46) 26 rfl w.heap.size 3 i0 (.int .i64 0) 1 8 Tryd.underlying26 hi hz0 hz1 hz2 rfl (by decide) (.slice (some ⟨g2, 0, none⟩) (k + 1) cap2) (k + 1) (zCells (zs.take k) ++ zCells [(x : Int)]) rfl hown2 ⟨g, k, none⟩ (zs.length - k) (c - k) (zCells (zs.drop k)) rfl (by rw [zCells_len, List.length_drop]) (by have h := news_dropO (n := k) (hI.below B2); simpa only [Nat.zero_add] using h) (zCells_one _) (by unfold maxLen; omega) (by omega) (by have := B2.size; omega) ?_; intro v3 w3 hown3 hgrow3 _; obtain ⟨a3, c3, rfl⟩ := ownsZ_form hown3; have B3 : Below w.heap.size w w3 := B2.grown hgrow3 (by have := B2.size; omega) (fun q hq => (hown2.lt q hq).1)))
        have HF : Hid (w3.ownsRow B 3 1 (.slice a3 (putL zs x).length c3) (putL zs x).length (zCells (putL zs x))) := by
          show w3.ownsRow _ _ _ _ _ _
          have el : (putL zs x).length = k + 1 + (zs.length - k) := by rw [HE.out]; simp; try omega
          rw [el, HE.out, zCells_app, zCells_app]
          exact ownsZ_mono (by simpa [show zCells [] = [] from rfl] using hown3) hB
        have EL : Hid ((putL zs x).length = k + 1 + (zs.length - k)) := by show _ = _; rw [HE.out]; simp; try omega
        go_ret
        exact ⟨_, _, by rw [EL.out]; rfl, HF.out, B3⟩
    · obtain rfl : k = zs.length := by omega
      have HE : Hid (putL zs x = zs.take zs.length ++ [(x : Int)] ++ zs.drop zs.length) := HNEW.out (.inl rfl)
      have ha : ∀ (u : World) ob, Below u.heap.size u (u.alloc ob) := fun u ob => (Below.refl _ _).alloc (Nat.le_refl _) ob
      have ck : ((zs.length : Nat) : Int) ≤ (c : Int) := by omega
      have tl : (zCells (zs.take zs.length)).length = zs.length * 1 := by rw [zCells_len, List.length_take]; omega
      by_cases hcc : c = zs.length
      · subst hcc
        go_wp2_with (first
          | (at_builtin; refine wpList_append_own _ rfl (.tmp 34) (.tmp 37) 26 rfl w.heap.size 3 i0 (.int .i64 0) 1 8 Tryd.underlying26 hi hz0 hz1 hz2 rfl (by decide) (.slice none 0 0) 0 [] rfl (World.ownsRow_nil _ _ _ _) ⟨g, 0, none⟩ zs.length zs.length (zCells (zs.take zs.length)) rfl tl (news_takeO hI) (zCells_one _) (by unfold maxLen; omega) (by omega) (Nat.le_refl _) ?_; intro v1 w1 hown1 hgrow1 _; try simp only [Nat.zero_add, List.nil_append] at hown1; obtain ⟨a1, c1, rfl⟩ := ownsZ_form hown1; have B1 : Below w.heap.size w w1 := (Below.refl _ _).grown hgrow1 (Nat.le_refl _) (fun q hq => by simp [Value.ownBlock] at hq))
          | (at_builtin; refine wpList_append_lies _ rfl (.tmp 39) (.tmp 41) 26 rfl w.heap.size 3 i0 _ 1 8 Tryd.underlying26 hi hz0 hz1 hz2 rfl (by decide) (.slice a1 zs.length c1) zs.length (zCells (zs.take zs.length)) rfl (ownsZ_below hown1 (ha w1 _)) ⟨w1.heap.size, 0, none⟩ 1 1 (zCells [(x : Int)]) rfl rfl (World.news_of_block (cs := #[.int .i64 (x : Int)]) (t := 3) (fr := (0, 0)) (by first | exact (heap_alloc_new w1 _) | simpa using (heap_alloc_new w1 _))) (by simp [zCells, Value.oneCell']) (by omega) (by unfold maxLen; omega) (by omega) (by have := B1.size; simp; omega) (w1.heap.size + 1) (by simp) ?_; intro g2 cap2 w2 hown2 hgrow2 hat2 _; have B2 : Below w.heap.size w w2 := (B1.trans ((ha w1 _).mono B1.size)).grown hgrow2 (by have := B1.size; simp; omega) (fun q hq => (hown1.lt q hq).1))
          | (at_builtin; refine wpList_append_own _ rfl (.tmp 43) (.tmp 46) 26 rfl w.heap.size 3 i0 (.int .i64 0) 1 8 Tryd.underlying26 hi hz0 hz1 hz2 rfl (by decide) (.slice (some ⟨g2, 0, none⟩) (zs.length + 1) cap2) (zs.length + 1) (zCells (zs.take zs.length) ++ zCells [(x : Int)]) rfl hown2 ⟨g, 0, none⟩ 0 0 [] rfl rfl (fun j u h => by simp at h) (fun u h => by simp at h) (by unfold maxLen; omega) (by omega) (by have := B2.size; omega) ?_; intro v3 w3 hown3 hgrow3 _; obtain ⟨a3, c3, rfl⟩ := ownsZ_form hown3; have B3 : Below w.heap.size w w3 := B2.grown hgrow3 (by have := B2.size; omega) (fun q hq => (hown2.lt q hq).1)))
        have HF : Hid (w3.ownsRow B 3 1 (.slice a3 (putL zs x).length c3) (putL zs x).length (zCells (putL zs x))) := by
          show w3.ownsRow _ _ _ _ _ _
          have el : (putL zs x).length = zs.length + 1 := by rw [HE.out]; simp; try omega
          rw [el, HE.out, zCells_app, zCells_app]
          exact ownsZ_mono (by simpa [show zCells [] = [] from rfl] using hown3) hB
        have EL : Hid ((putL zs x).length = zs.length + 1) := by show _ = _; rw [HE.out]; simp; try omega
        go_ret
        exact ⟨_, _, by rw [EL.out]; rfl, HF.out, B3⟩
      · have q1 : ¬ (c = zs.length) := hcc
        go_wp2_with (first
          | (at_builtin; refine wpList_append_own _ rfl (.tmp 34) (.tmp 37) 26 rfl w.heap.size 3 i0 (.int .i64 0) 1 8 Tryd.underlying26 hi hz0 hz1 hz2 rfl (by decide) (.slice none 0 0) 0 [] rfl (World.ownsRow_nil _ _ _ _) ⟨g, 0, none⟩ zs.length c (zCells (zs.take zs.length)) rfl tl (news_takeO hI) (zCells_one _) (by unfold maxLen; omega) (by omega) (Nat.le_refl _) ?_; intro v1 w1 hown1 hgrow1 _; try simp only [Nat.zero_add, List.nil_append] at hown1; obtain ⟨a1, c1, rfl⟩ := ownsZ_form hown1; have B1 : Below w.heap.size w w1 := (Below.refl _ _).grown hgrow1 (Nat.le_refl _) (fun q hq => by simp [Value.ownBlock] at hq))
          | (at_builtin; refine wpList_append_lies _ rfl (.tmp 39) (.tmp 41) 26 rfl w.heap.size 3 i0 _ 1 8 Tryd.underlying26 hi hz0 hz1 hz2 rfl (by decide) (.slice a1 zs.length c1) zs.length (zCells (zs.take zs.length)) rfl (ownsZ_below hown1 (ha w1 _)) ⟨w1.heap.size, 0, none⟩ 1 1 (zCells [(x : Int)]) rfl rfl (World.news_of_block (cs := #[.int .i64 (x : Int)]) (t := 3) (fr := (0, 0)) (by first | exact (heap_alloc_new w1 _) | simpa using (heap_alloc_new w1 _))) (by simp [zCells, Value.oneCell']) (by omega) (by unfold maxLen; omega) (by omega) (by have := B1.size; simp; omega) (w1.heap.size + 1) (by simp) ?_; intro g2 cap2 w2 hown2 hgrow2 hat2 _; have B2 : Below w.heap.size w w2 := (B1.trans ((ha w1 _).mono B1.size)).grown hgrow2 (by have := B1.size; simp; omega) (fun q hq => (hown1.lt q hq).1))
          | (at_builtin; refine wpList_append_own _ rfl (.tmp 43) (.tmp 46) 26 rfl w.heap.size 3 i0 (.int .i64 0) 1 8 Tryd.underlying26 hi hz0 hz1 hz2 rfl (by decide) (.slice (some ⟨g2, 0, none⟩) (zs.length + 1) cap2) (zs.length + 1) (zCells (zs.take zs.length) ++ zCells [(x : Int)]) rfl hown2 ⟨g, zs.length, none⟩ 0 (c - zs.length) [] rfl rfl (fun j u h => by simp at h) (fun u h => by simp at h) (by unfold maxLen; omega) (by omega) (by have := B2.size; omega) ?_; intro v3 w3 hown3 hgrow3 _; obtain ⟨a3, c3, rfl⟩ := ownsZ_form hown3; have B3 : Below w.heap.size w w3 := B2.grown hgrow3 (by have := B2.size; omega) (fun q hq => (hown2.lt q hq).1)))
        have HF : Hid (w3.ownsRow B 3 1 (.slice a3 (putL zs x).length c3) (putL zs x).length (zCells (putL zs x))) := by
          show w3.ownsRow _ _ _ _ _ _
          have el : (putL zs x).length = zs.length + 1 := by rw [HE.out]; simp; try omega
          rw [el, HE.out, zCells_app, zCells_app]
          exact ownsZ_mono (by simpa [show zCells [] = [] from rfl] using hown3) hB
        have EL : Hid ((putL zs x).length = zs.length + 1) := by show _ = _; rw [HE.out]; simp; try omega
        go_ret
        exact ⟨_, _, by rw [EL.out]; rfl, HF.out, B3⟩

theorem l1Put_any (zs : List Int) (x : Int) (hml : zs.length ≤ 100) (B : Nat) (a : Option Addr) (c : Nat) (w : World) (hB : B ≤ w.heap.size) (hown : w.ownsRow B 3 1 (.slice a zs.length c) zs.length (zCells zs)) :
    Calls Tryd.prog 32 #[.slice a zs.length c, .int .i64 (x : Int)] w fun r w' => PutAns B w (putL zs x) r w' := by
  have h0 := hown
  obtain ⟨-, ⟨hv, hl⟩ | ⟨g, cap, cur, hv, -, -, hc, hm, -⟩⟩ := h0
  · obtain rfl : zs = [] := List.eq_nil_of_length_eq_zero hl
    simp only [Value.slice.injEq] at hv
    obtain ⟨rfl, -, rfl⟩ := hv
    exact l1Put_nil x B w hB
  · simp only [Value.slice.injEq] at hv
    obtain ⟨rfl, -, rfl⟩ := hv
    exact l1Put_own zs x hml B g c w hB hown hc hm

end Go.Proofs.YtiabgomeogcpnaaDoor
