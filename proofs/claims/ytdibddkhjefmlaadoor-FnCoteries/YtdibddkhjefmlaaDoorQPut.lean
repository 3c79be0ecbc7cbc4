/-
  A member put among members: the contract of spec.l1Put.
-/
import Derived.Test.YtdibddkhjefmlaaDoorQSp3
import Derived.Test.YtdibddkhjefmlaaDoorQWt
import Derived.Laws.AppendOwnNone
namespace Go.Proofs.YtdibddkhjefmlaaDoor
open Go.RowKit

def putChk : Bool := (List.range 128).all fun n => (List.range 7).all fun x => (List.range 8).all fun k =>
  !(decide (k ≤ (mem7 n).length) && ((List.range k).all fun i => decide ((mem7 n).getD i 0 < x)) && (decide (k = (mem7 n).length) || decide (x < (mem7 n).getD k 0))) || decide (mem7 (n ||| 2 ^ x) = (mem7 n).take k ++ x :: (mem7 n).drop k)
theorem putChk_t : putChk = true := by decide +kernel

theorem put_new {n x k : Nat} (hn : n < 128) (hx : x < 7) (hk : k ≤ (mem7 n).length) (h1 : ∀ i, i < k → (mem7 n).getD i 0 < x) (h2 : k = (mem7 n).length ∨ x < (mem7 n).getD k 0) : mem7 (n ||| 2 ^ x) = (mem7 n).take k ++ x :: (mem7 n).drop k := by
  have hlen := mem7_len n
  have h := List.all_eq_true.1 (List.all_eq_true.1 (List.all_eq_true.1 putChk_t n (List.mem_range.2 hn)) x (List.mem_range.2 hx)) k (List.mem_range.2 (by omega))
  rw [Bool.or_eq_true] at h
  rcases h with h | h
  · exfalso
    have a1 : decide (k ≤ (mem7 n).length) = true := decide_eq_true hk
    have a2 : ((List.range k).all fun i => decide ((mem7 n).getD i 0 < x)) = true := List.all_eq_true.2 fun i hi => decide_eq_true (h1 i (List.mem_range.1 hi))
    have a3 : (decide (k = (mem7 n).length) || decide (x < (mem7 n).getD k 0)) = true := by
      rw [Bool.or_eq_true, decide_eq_true_eq, decide_eq_true_eq]; exact h2
    rw [a1, a2, a3] at h
    cases h
  · exact of_decide_eq_true h

theorem put_old : ∀ n, n < 128 → ∀ x, x < 7 → n.testBit x = true → n ||| 2 ^ x = n := by decide +kernel

theorem zA_mi {n k : Nat} (h : k < (mi n).length) : zA (mi n) k = (((mem7 n).getD k 0 : Nat) : Int) := by
  refine zA_some ?_
  have h' : k < (mem7 n).length := by simpa [mi] using h
  unfold mi
  rw [List.getElem?_map, List.getD_eq_getElem?_getD, List.getElem?_eq_getElem h']
  rfl

theorem mi_put {n x k : Nat} (hn : n < 128) (hx : x < 7) (hk : k ≤ (mi n).length) (h1 : ∀ i, i < k → zA (mi n) i < (x : Int)) (h2 : k = (mi n).length ∨ (x : Int) < zA (mi n) k) : mi (n ||| 2 ^ x) = (mi n).take k ++ [(x : Int)] ++ (mi n).drop k := by
  have el : (mi n).length = (mem7 n).length := by simp [mi]
  have e := put_new (k := k) hn hx (by omega) (fun i hi => by
    have := h1 i hi
    rw [zA_mi (by omega)] at this
    omega) (by
    rcases h2 with h2 | h2
    · exact .inl (by omega)
    · by_cases hkl : k < (mi n).length
      · rw [zA_mi hkl] at h2
        exact .inr (by omega)
      · exact .inl (by omega))
  unfold mi
  rw [e]
  simp

/-- What l1Put answers. -/
def PutAns (B : Nat) (w : World) (zs : List Int) (r : Ending) (w' : World) : Prop :=
  ∃ a c, r = .returned (.slice a zs.length c) ∧ w'.ownsRow B 3 1 (.slice a zs.length c) zs.length (zCells zs) ∧ Below w.heap.size w w'

theorem ownsZ_mono {w : World} {B B' : Nat} {e : TypeId} {size : Nat} {v : Value} {n : Nat} {xs : List Value} (h : w.ownsRow B e size v n xs) (hB : B' ≤ B) : w.ownsRow B' e size v n xs := by
  obtain ⟨h1, h2 | ⟨g, cap, cur, hv, hg, r⟩⟩ := h
  · exact ⟨h1, .inl h2⟩
  · exact ⟨h1, .inr ⟨g, cap, cur, hv, by omega, r⟩⟩

theorem mi_one {x : Nat} (hx : x < 7) : mi (0 ||| 2 ^ x) = [(x : Int)] := by
  rw [mi_put (n := 0) (k := 0) (by omega) hx (by simp) (fun i hi => by omega) (.inl (by simp [mi_zero])), mi_zero]; rfl

set_option maxRecDepth 100000 in
set_option maxHeartbeats 4000000 in
theorem l1Put_nil (x : Nat) (B : Nat) (w : World) (hB : B ≤ w.heap.size) :
    Calls Tryd.prog 50 #[.slice none 0 0, .int .i64 (x : Int)] w fun r w' => PutAns B w [(x : Int)] r w' := by
  obtain ⟨i0, hi, hz0, hz1, hz2⟩ := info_parts Tryd.infoInt
  have ha : ∀ ob, Below w.heap.size w (w.alloc ob) := fun ob => (Below.refl _ _).alloc (Nat.le_refl _) ob
  go_enter Tryd.func50, Tryd.ntmps50
  go_wp2
  go_loop [5] (fun i => i = .int .i64 0) (fun _ => 0)
  case atStart => rfl
  case round =>
    obtain rfl := hrel
    go_wp2_with (first
      | (at_builtin; refine wpList_append_own_none rfl (.tmp 34) (.tmp 37) 31 rfl w.heap.size 3 i0 1 Tryd.underlying31 hi (.slice none 0 0) 0 [] rfl (World.ownsRow_nil _ _ _ _) rfl ?_)
      | (at_builtin; refine wpList_append_lies _ rfl (.tmp 39) (.tmp 41) 31 rfl w.heap.size 3 i0 _ 1 8 Tryd.underlying31 hi hz0 hz1 hz2 rfl (by decide) (.slice none 0 0) 0 [] rfl (World.ownsRow_nil _ _ _ _) ⟨w.heap.size, 0, none⟩ 1 1 (zCells [(x : Int)]) rfl rfl (World.news_of_block (cs := #[.int .i64 (x : Int)]) (t := 3) (fr := (0, 0)) (by first | exact (heap_alloc_new w _) | simpa using (heap_alloc_new w _))) (by simp [zCells, Value.oneCell']) (by omega) (by unfold maxLen; omega) (by omega) (by simp) (w.heap.size + 1) (by simp) ?_; intro g4 cap4 w4 hown4 hgrow4 hat4 _; try simp only [Nat.zero_add, List.nil_append] at hown4)
      | (at_builtin; refine wpList_append_own_none rfl (.tmp 43) (.tmp 46) 31 rfl w.heap.size 3 i0 1 Tryd.underlying31 hi (.slice (some ⟨g4, 0, none⟩) 1 cap4) 1 (zCells [(x : Int)]) rfl hown4 rfl ?_))
    go_ret
    exact ⟨_, _, rfl, ownsZ_mono hown4 hB, (ha _).grown hgrow4 (by simp) (fun k hk => by simp [Value.ownBlock] at hk)⟩

set_option maxRecDepth 100000 in
set_option maxHeartbeats 8000000 in
theorem l1Put_own (n x : Nat) (hn : n < 128) (hx : x < 7) (B g c : Nat) (w : World) (hB : B ≤ w.heap.size) (hown : w.ownsRow B 3 1 (.slice (some ⟨g, 0, none⟩) (mi n).length c) (mi n).length (zCells (mi n))) (hc : (mi n).length ≤ c) (hcm : c ≤ maxLen) :
    Calls Tryd.prog 50 #[.slice (some ⟨g, 0, none⟩) (mi n).length c, .int .i64 (x : Int)] w fun r w' => PutAns B w (mi (n ||| 2 ^ x)) r w' := by
  unfold maxLen at hcm
  obtain ⟨i0, hi, hz0, hz1, hz2⟩ := info_parts Tryd.infoInt
  have hI := (ints_of_owns hown).1
  have HOWN : Hid (w.ownsRow B 3 1 (.slice (some ⟨g, 0, none⟩) (mi n).length c) (mi n).length (zCells (mi n))) := hown
  have hml := mi_len n
  clear hown
  go_enter Tryd.func50, Tryd.ntmps50
  go_wp2
  go_loop [5] (fun i => ∃ k : Nat, k ≤ (mi n).length ∧ i = .int .i64 (k : Int) ∧ ∀ j, j < k → zA (mi n) j < (x : Int)) (fun i => (mi n).length - (intOf i).toNat)
  case atStart => exact ⟨0, Nat.zero_le _, rfl, fun i hi => absurd hi (Nat.not_lt_zero _)⟩
  case round =>
    obtain ⟨k, hk, rfl, hok⟩ := hrel
    have HO : Hid (∀ j, j < k → zA (mi n) j < (x : Int)) := hok
    clear hok
    have hnew : (k = (mi n).length ∨ (x : Int) < zA (mi n) k) → mi (n ||| 2 ^ x) = (mi n).take k ++ [(x : Int)] ++ (mi n).drop k := fun h => mi_put hn hx hk HO.out h
    have hold : k < (mi n).length → zA (mi n) k = (x : Int) → mi (n ||| 2 ^ x) = mi n := fun hl e => by
      obtain ⟨m, hm, e2⟩ := mi_get (zA_get hl)
      have : m = x := by rw [e] at e2; omega
      subst this
      rw [put_old n hn m hx (mem7_iff.1 hm).2]
    have HNEW : Hid ((k = (mi n).length ∨ (x : Int) < zA (mi n) k) → mi (n ||| 2 ^ x) = (mi n).take k ++ [(x : Int)] ++ (mi n).drop k) := hnew
    have HOLD : Hid (k < (mi n).length → zA (mi n) k = (x : Int) → mi (n ||| 2 ^ x) = mi n) := hold
    clear hnew hold
    by_cases hlt : k < (mi n).length
    · obtain ⟨g', o', e', hcell⟩ := hI k _ (zA_get hlt)
      simp only [Option.some.injEq, Addr.mk.injEq, and_true] at e'
      obtain ⟨rfl, rfl⟩ := e'
      rw [Nat.zero_add] at hcell
      by_cases hlx : zA (mi n) k < (x : Int)
      · clear hI
        go_wp2
        go_round
        case rel =>
          refine ⟨k + 1, by omega, by go_num, fun j hj => ?_⟩
          by_cases e : j = k
          · subst e; exact hlx
          · exact HO.out j (by omega)
        case measure => simp [intOf]; omega
      by_cases hex : zA (mi n) k = (x : Int)
      · have heb : (zA (mi n) k == (x : Int)) = true := by simp [hex]
        have HE := HOLD.out hlt hex
        have HE2 : Hid (mi (n ||| 2 ^ x) = mi n) := HE
        clear hI HE hex
        go_wp2
        go_ret
        rw [HE2.out]
        exact ⟨_, _, rfl, HOWN.out, Below.refl _ _⟩
      · have heb : (zA (mi n) k == (x : Int)) = false := by simp [hex]
        have HE : Hid (mi (n ||| 2 ^ x) = (mi n).take k ++ [(x : Int)] ++ (mi n).drop k) := HNEW.out (.inr (by omega))
        clear hex
        have ha : ∀ (u : World) ob, Below u.heap.size u (u.alloc ob) := fun u ob => (Below.refl _ _).alloc (Nat.le_refl _) ob
        have ck : ((k : Nat) : Int) ≤ (c : Int) := by omega
        have tl : (zCells ((mi n).take k)).length = k * 1 := by rw [zCells_len, List.length_take]; omega
        have q1 : ¬ (c = k) := by omega
        go_wp2_with (first
          | (at_builtin; refine wpList_append_own _ rfl (.tmp 34) (.tmp 37) 31 rfl w.heap.size 3 i0 (.int .i64 0) 1 8 Tryd.underlying31 hi hz0 hz1 hz2 rfl (by decide) (.slice none 0 0) 0 [] rfl (World.ownsRow_nil _ _ _ _) ⟨g, 0, none⟩ k c (zCells ((mi n).take k)) rfl tl (news_takeO hI) (zCells_one _) (by unfold maxLen; omega) (by omega) (Nat.le_refl _) ?_; intro v1 w1 hown1 hgrow1 _; try simp only [Nat.zero_add, List.nil_append] at hown1; obtain ⟨a1, c1, rfl⟩ := ownsZ_form hown1; have B1 : Below w.heap.size w w1 := (Below.refl _ _).grown hgrow1 (Nat.le_refl _) (fun q hq => by simp [Value.ownBlock] at hq))
          | (at_builtin; refine wpList_append_lies _ rfl (.tmp 39) (.tmp 41) 31 rfl w.heap.size 3 i0 _ 1 8 Tryd.underlying31 hi hz0 hz1 hz2 rfl (by decide) (.slice a1 k c1) k (zCells ((mi n).take k)) rfl (ownsZ_below hown1 (ha w1 _)) ⟨w1.heap.size, 0, none⟩ 1 1 (zCells [(x : Int)]) rfl rfl (World.news_of_block (cs := #[.int .i64 (x : Int)]) (t := 3) (fr := (0, 0)) (by first | exact (heap_alloc_new w1 _) | simpa using (heap_alloc_new w1 _))) (by simp [zCells, Value.oneCell']) (by omega) (by unfold maxLen; omega) (by omega) (by have := B1.size; simp; omega) (w1.heap.size + 1) (by simp) ?_; intro g2 cap2 w2 hown2 hgrow2 hat2 _; have B2 : Below w.heap.size w w2 := (B1.trans ((ha w1 _).mono B1.size)).grown hgrow2 (by have := B1.size; simp; omega) (fun q hq => (hown1.lt q hq).1))
          | (at_builtin; refine wpList_append_own _ rfl (.tmp 43) (.tmp 46) 31 rfl w.heap.size 3 i0 (.int .i64 0) 1 8 Tryd.underlying31 hi hz0 hz1 hz2 rfl (by decide) (.slice (some ⟨g2, 0, none⟩) (k + 1) cap2) (k + 1) (zCells ((mi n).take k) ++ zCells [(x : Int)]) rfl hown2 ⟨g, k, none⟩ ((mi n).length - k) (c - k) (zCells ((mi n).drop k)) rfl (by rw [zCells_len, List.length_drop]) (by have h := news_dropO (n := k) (hI.below B2); simpa only [Nat.zero_add] using h) (zCells_one _) (by unfold maxLen; omega) (by omega) (by have := B2.size; omega) ?_; intro v3 w3 hown3 hgrow3 _; obtain ⟨a3, c3, rfl⟩ := ownsZ_form hown3; have B3 : Below w.heap.size w w3 := B2.grown hgrow3 (by have := B2.size; omega) (fun q hq => (hown2.lt q hq).1)))
        have HF : Hid (w3.ownsRow B 3 1 (.slice a3 (mi (n ||| 2 ^ x)).length c3) (mi (n ||| 2 ^ x)).length (zCells (mi (n ||| 2 ^ x)))) := by
          show w3.ownsRow _ _ _ _ _ _
          have el : (mi (n ||| 2 ^ x)).length = k + 1 + ((mi n).length - k) := by rw [HE.out]; simp; try omega
          rw [el, HE.out, zCells_app, zCells_app]
          exact ownsZ_mono (by simpa [show zCells [] = [] from rfl] using hown3) hB
        have EL : Hid ((mi (n ||| 2 ^ x)).length = k + 1 + ((mi n).length - k)) := by show _ = _; rw [HE.out]; simp; try omega
        go_ret
        exact ⟨_, _, by rw [EL.out]; rfl, HF.out, B3⟩
    · obtain rfl : k = (mi n).length := by omega
      have HE : Hid (mi (n ||| 2 ^ x) = (mi n).take (mi n).length ++ [(x : Int)] ++ (mi n).drop (mi n).length) := HNEW.out (.inl rfl)
      have ha : ∀ (u : World) ob, Below u.heap.size u (u.alloc ob) := fun u ob => (Below.refl _ _).alloc (Nat.le_refl _) ob
      have ck : (((mi n).length : Nat) : Int) ≤ (c : Int) := by omega
      have tl : (zCells ((mi n).take (mi n).length)).length = (mi n).length * 1 := by rw [zCells_len, List.length_take]; omega
      by_cases hcc : c = (mi n).length
      · subst hcc
        go_wp2_with (first
          | (at_builtin; refine wpList_append_own _ rfl (.tmp 34) (.tmp 37) 31 rfl w.heap.size 3 i0 (.int .i64 0) 1 8 Tryd.underlying31 hi hz0 hz1 hz2 rfl (by decide) (.slice none 0 0) 0 [] rfl (World.ownsRow_nil _ _ _ _) ⟨g, 0, none⟩ (mi n).length (mi n).length (zCells ((mi n).take (mi n).length)) rfl tl (news_takeO hI) (zCells_one _) (by unfold maxLen; omega) (by omega) (Nat.le_refl _) ?_; intro v1 w1 hown1 hgrow1 _; try simp only [Nat.zero_add, List.nil_append] at hown1; obtain ⟨a1, c1, rfl⟩ := ownsZ_form hown1; have B1 : Below w.heap.size w w1 := (Below.refl _ _).grown hgrow1 (Nat.le_refl _) (fun q hq => by simp [Value.ownBlock] at hq))
          | (at_builtin; refine wpList_append_lies _ rfl (.tmp 39) (.tmp 41) 31 rfl w.heap.size 3 i0 _ 1 8 Tryd.underlying31 hi hz0 hz1 hz2 rfl (by decide) (.slice a1 (mi n).length c1) (mi n).length (zCells ((mi n).take (mi n).length)) rfl (ownsZ_below hown1 (ha w1 _)) ⟨w1.heap.size, 0, none⟩ 1 1 (zCells [(x : Int)]) rfl rfl (World.news_of_block (cs := #[.int .i64 (x : Int)]) (t := 3) (fr := (0, 0)) (by first | exact (heap_alloc_new w1 _) | simpa using (heap_alloc_new w1 _))) (by simp [zCells, Value.oneCell']) (by omega) (by unfold maxLen; omega) (by omega) (by have := B1.size; simp; omega) (w1.heap.size + 1) (by simp) ?_; intro g2 cap2 w2 hown2 hgrow2 hat2 _; have B2 : Below w.heap.size w w2 := (B1.trans ((ha w1 _).mono B1.size)).grown hgrow2 (by have := B1.size; simp; omega) (fun q hq => (hown1.lt q hq).1))
          | (at_builtin; refine wpList_append_own _ rfl (.tmp 43) (.tmp 46) 31 rfl w.heap.size 3 i0 (.int .i64 0) 1 8 Tryd.underlying31 hi hz0 hz1 hz2 rfl (by decide) (.slice (some ⟨g2, 0, none⟩) ((mi n).length + 1) cap2) ((mi n).length + 1) (zCells ((mi n).take (mi n).length) ++ zCells [(x : Int)]) rfl hown2 ⟨g, 0, none⟩ 0 0 [] rfl rfl (fun j u h => by simp at h) (fun u h => by simp at h) (by unfold maxLen; omega) (by omega) (by have := B2.size; omega) ?_; intro v3 w3 hown3 hgrow3 _; obtain ⟨a3, c3, rfl⟩ := ownsZ_form hown3; have B3 : Below w.heap.size w w3 := B2.grown hgrow3 (by have := B2.size; omega) (fun q hq => (hown2.lt q hq).1)))
        have HF : Hid (w3.ownsRow B 3 1 (.slice a3 (mi (n ||| 2 ^ x)).length c3) (mi (n ||| 2 ^ x)).length (zCells (mi (n ||| 2 ^ x)))) := by
          show w3.ownsRow _ _ _ _ _ _
          have el : (mi (n ||| 2 ^ x)).length = (mi n).length + 1 := by rw [HE.out]; simp; try omega
          rw [el, HE.out, zCells_app, zCells_app]
          exact ownsZ_mono (by simpa [show zCells [] = [] from rfl] using hown3) hB
        have EL : Hid ((mi (n ||| 2 ^ x)).length = (mi n).length + 1) := by show _ = _; rw [HE.out]; simp; try omega
        go_ret
        exact ⟨_, _, by rw [EL.out]; rfl, HF.out, B3⟩
      · have q1 : ¬ (c = (mi n).length) := hcc
        go_wp2_with (first
          | (at_builtin; refine wpList_append_own _ rfl (.tmp 34) (.tmp 37) 31 rfl w.heap.size 3 i0 (.int .i64 0) 1 8 Tryd.underlying31 hi hz0 hz1 hz2 rfl (by decide) (.slice none 0 0) 0 [] rfl (World.ownsRow_nil _ _ _ _) ⟨g, 0, none⟩ (mi n).length c (zCells ((mi n).take (mi n).length)) rfl tl (news_takeO hI) (zCells_one _) (by unfold maxLen; omega) (by omega) (Nat.le_refl _) ?_; intro v1 w1 hown1 hgrow1 _; try simp only [Nat.zero_add, List.nil_append] at hown1; obtain ⟨a1, c1, rfl⟩ := ownsZ_form hown1; have B1 : Below w.heap.size w w1 := (Below.refl _ _).grown hgrow1 (Nat.le_refl _) (fun q hq => by simp [Value.ownBlock] at hq))
          | (at_builtin; refine wpList_append_lies _ rfl (.tmp 39) (.tmp 41) 31 rfl w.heap.size 3 i0 _ 1 8 Tryd.underlying31 hi hz0 hz1 hz2 rfl (by decide) (.slice a1 (mi n).length c1) (mi n).length (zCells ((mi n).take (mi n).length)) rfl (ownsZ_below hown1 (ha w1 _)) ⟨w1.heap.size, 0, none⟩ 1 1 (zCells [(x : Int)]) rfl rfl (World.news_of_block (cs := #[.int .i64 (x : Int)]) (t := 3) (fr := (0, 0)) (by first | exact (heap_alloc_new w1 _) | simpa using (heap_alloc_new w1 _))) (by simp [zCells, Value.oneCell']) (by omega) (by unfold maxLen; omega) (by omega) (by have := B1.size; simp; omega) (w1.heap.size + 1) (by simp) ?_; intro g2 cap2 w2 hown2 hgrow2 hat2 _; have B2 : Below w.heap.size w w2 := (B1.trans ((ha w1 _).mono B1.size)).grown hgrow2 (by have := B1.size; simp; omega) (fun q hq => (hown1.lt q hq).1))
          | (at_builtin; refine wpList_append_own _ rfl (.tmp 43) (.tmp 46) 31 rfl w.heap.size 3 i0 (.int .i64 0) 1 8 Tryd.underlying31 hi hz0 hz1 hz2 rfl (by decide) (.slice (some ⟨g2, 0, none⟩) ((mi n).length + 1) cap2) ((mi n).length + 1) (zCells ((mi n).take (mi n).length) ++ zCells [(x : Int)]) rfl hown2 ⟨g, (mi n).length, none⟩ 0 (c - (mi n).length) [] rfl rfl (fun j u h => by simp at h) (fun u h => by simp at h) (by unfold maxLen; omega) (by omega) (by have := B2.size; omega) ?_; intro v3 w3 hown3 hgrow3 _; obtain ⟨a3, c3, rfl⟩ := ownsZ_form hown3; have B3 : Below w.heap.size w w3 := B2.grown hgrow3 (by have := B2.size; omega) (fun q hq => (hown2.lt q hq).1)))
        have HF : Hid (w3.ownsRow B 3 1 (.slice a3 (mi (n ||| 2 ^ x)).length c3) (mi (n ||| 2 ^ x)).length (zCells (mi (n ||| 2 ^ x)))) := by
          show w3.ownsRow _ _ _ _ _ _
          have el : (mi (n ||| 2 ^ x)).length = (mi n).length + 1 := by rw [HE.out]; simp; try omega
          rw [el, HE.out, zCells_app, zCells_app]
          exact ownsZ_mono (by simpa [show zCells [] = [] from rfl] using hown3) hB
        have EL : Hid ((mi (n ||| 2 ^ x)).length = (mi n).length + 1) := by show _ = _; rw [HE.out]; simp; try omega
        go_ret
        exact ⟨_, _, by rw [EL.out]; rfl, HF.out, B3⟩

theorem mem7_nil : ∀ n, n < 128 → mem7 n = [] → n = 0 := by decide +kernel

theorem l1Put_any (n x : Nat) (hn : n < 128) (hx : x < 7) (B : Nat) (a : Option Addr) (c : Nat) (w : World) (hB : B ≤ w.heap.size) (hown : w.ownsRow B 3 1 (.slice a (mi n).length c) (mi n).length (zCells (mi n))) :
    Calls Tryd.prog 50 #[.slice a (mi n).length c, .int .i64 (x : Int)] w fun r w' => PutAns B w (mi (n ||| 2 ^ x)) r w' := by
  have h0 := hown
  obtain ⟨-, ⟨hv, hl⟩ | ⟨g, cap, cur, hv, -, -, hc, hm, -⟩⟩ := h0
  · have e : mem7 n = [] := List.eq_nil_of_length_eq_zero (by simpa [mi] using hl)
    obtain rfl := mem7_nil n hn e
    simp only [Value.slice.injEq] at hv
    obtain ⟨rfl, -, rfl⟩ := hv
    rw [mi_one hx, mi_zero]
    exact l1Put_nil x B w hB
  · simp only [Value.slice.injEq] at hv
    obtain ⟨rfl, -, rfl⟩ := hv
    exact l1Put_own n x hn hx B g c w hB hown hc hm

end Go.Proofs.YtdibddkhjefmlaaDoor
