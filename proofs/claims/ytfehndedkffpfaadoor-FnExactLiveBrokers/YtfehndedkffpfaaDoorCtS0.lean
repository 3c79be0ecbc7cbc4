/-
  The control, the specification's side: l12First, l12Part, GoodControl. Made by mkcts.py.
-/
import Derived.Test.YtfehndedkffpfaaDoorCtM
import Derived.Test.YtfehndedkffpfaaDoorQSpec
import Derived.WalkMore
namespace Go.Proofs.YtfehndedkffpfaaDoor
open Go.RowKit

theorem l1In_k (n lo hi : Int) (b : Bool) (w : World) (h : inB n lo hi = b) : Calls Tryd.prog 27 #[.int .i64 n, .int .i64 lo, .int .i64 hi] w fun e w' => e = .returned (.bool b) ∧ w' = w := by
  rw [← h]; exact l1In_any n lo hi w
theorem l6Group_k (a : Option Addr) (c : Nat) (zs : List Int) (many : Int) (b : Bool) (w : World) (hs : Ints w a zs) (hl : zs.length ≤ maxLen) (h : riseB zs many = b) : Calls Tryd.prog 44 #[.slice a zs.length c, .int .i64 many] w fun e w' => e = .returned (.bool b) ∧ w' = w := by
  rw [← h]; exact l6Group_any a c zs many w hs hl
theorem l6Has_k (a a2 : Option Addr) (c c2 : Nat) (xs ys : List Int) (b : Bool) (w : World) (hx : Ints w a xs) (hy : Ints w a2 ys) (hl : xs.length ≤ maxLen) (hl2 : ys.length ≤ maxLen) (h : hasL xs ys = b) :
    Calls Tryd.prog 45 #[.slice a xs.length c, .slice a2 ys.length c2] w fun e w' => e = .returned (.bool b) ∧ w' = w := by
  rw [← h]; exact l6Has_any a a2 c c2 xs ys w hx hy hl hl2
theorem l1Has_k (a : Option Addr) (c : Nat) (zs : List Int) (n : Int) (b : Bool) (w : World) (hs : Ints w a zs) (hl : zs.length ≤ maxLen) (h : zs.contains n = b) :
    Calls Tryd.prog 47 #[.slice a zs.length c, .int .i64 n] w fun e w' => e = .returned (.bool b) ∧ w' = w := by
  rw [← h]; exact l1Has_any a c zs n w hs hl

theorem findG_at {α : Type} {f : α → Bool} : ∀ {l : List α} {k : Nat} {x : α}, allTo (fun y => !f y) l k → l[k]? = some x → f x = true → l.find? f = some x
  | [], k, x, _, h, _ => by simp at h
  | a :: l, 0, x, _, h, hf => by
    simp at h
    subst h
    simp [hf]
  | a :: l, k + 1, x, hm, h, hf => by
    have ha := hm 0 a (by omega) rfl
    have ih := findG_at (l := l) (k := k) (x := x) (fun i y hi hy => hm (i + 1) y (by omega) (by simpa using hy)) (by simpa using h) hf
    simp at ha
    simp [ha, ih]
theorem findG_no {α : Type} {f : α → Bool} {l : List α} (h : allTo (fun y => !f y) l l.length) : l.find? f = none := by
  rw [List.find?_eq_none]
  intro x hx
  obtain ⟨i, hi, e⟩ := List.getElem_of_mem hx
  have := h i x hi (by rw [List.getElem?_eq_getElem hi, e])
  simpa using this
theorem firstZ_t {brs : List Br} {l : List Int} (h : l.any (live brs) = true) (h0 : ∀ z, z ∈ l → 0 ≤ z) : 0 ≤ firstZ brs l := by
  unfold firstZ
  cases e : l.find? (live brs) with
  | none =>
    rw [List.find?_eq_none] at e
    obtain ⟨x, hx, hp⟩ := List.any_eq_true.1 h
    exact absurd hp (e x hx)
  | some x => exact h0 x (List.mem_of_find?_eq_some e)
theorem firstZ_f {brs : List Br} {l : List Int} (h : l.any (live brs) = false) : firstZ brs l = -1 := by
  have : l.find? (live brs) = none := by
    rw [List.find?_eq_none]
    intro x hx
    rw [List.any_eq_false] at h
    exact h x hx
  simp [firstZ, this]

set_option maxRecDepth 100000 in
set_option maxHeartbeats 4000000 in
theorem l12First_any (s : Ct) (a0 a1 : Option Addr) (c0 c1 : Nat) (l : List Int) (r : Option Addr) (k0 : Nat) (w : World) (hb : Brs w a0 s.brks) (_hn : s.brks.length ≤ maxLen) (hi : Ints w r l) (hl : l.length ≤ maxLen) (hr : ∀ z, z ∈ l → 0 ≤ z ∧ z < (s.brks.length : Int)) :
    Calls Tryd.prog 46 #[ctV s a0 c0 a1 c1, .slice r l.length k0] w fun e w' => e = .returned (.int .i64 (firstZ s.brks l)) ∧ Below w.heap.size w w' := by
  unfold maxLen at hl
  have HR : Hid (∀ z, z ∈ l → 0 ≤ z ∧ z < (s.brks.length : Int)) := hr
  clear hr
  obtain ⟨u0, hu0⟩ : ∃ u0, (w.alloc (.cells #[.slice a0 s.brks.length c0, .slice a1 s.parts.length c1, .int .i64 s.next] 33)) = u0 := ⟨_, rfl⟩
  have q0 : u0.cell? ⟨w.heap.size, 0, none⟩ = some (.slice a0 s.brks.length c0) := by rw [← hu0]; simp [go_sem]
  have bB : Below w.heap.size w u0 := by rw [← hu0]; exact alCt _ _
  replace hb := hb.below bB
  replace hi := hi.below bB
  go_enter Tryd.func46, Tryd.ntmps46
  go_wp2
  clear hu0
  go_loopw [9] (fun i wr => ∃ k : Nat, k ≤ l.length ∧ i = .int .i64 k ∧ Hid (allTo (fun z => !live s.brks z) l k) ∧ wr = u0) (fun i _ => l.length - (intOf i).toNat)
  case atStart => exact ⟨0, Nat.zero_le _, rfl, allTo_zero _ _, rfl⟩
  case round =>
    obtain ⟨k, hk, rfl, HO, rfl⟩ := hrel
    by_cases hlt : k < l.length
    · have hmem : zA l k ∈ l := List.mem_of_getElem? (zA_get hlt)
      obtain ⟨f1, f2⟩ := HR.out _ hmem
      obtain ⟨b, off, rfl, hc⟩ := hi k _ (zA_get hlt)
      obtain ⟨f, hf⟩ : ∃ f : Nat, zA l k = f := ⟨(zA l k).toNat, by omega⟩
      have hfn : f < s.brks.length := by omega
      have HK : Hid (l[k]? = some (f : Int)) := by show _ = _; rw [zA_get hlt, hf]
      rw [hf] at hc
      have hfi : (f : Int) < (s.brks.length : Int) := by omega
      have h0f : (0 : Int) ≤ (f : Int) := by omega
      have hki : (k : Int) < (l.length : Int) := by omega
      obtain ⟨K, O, rfl, -, -, e2⟩ := hb f _ (brA_get hfn)
      have HV : Hid (live s.brks (f : Int) = !(brA s.brks f).fenced) := by show _ = _; unfold live; rfl
      obtain ⟨x, hx⟩ : ∃ x, (brA s.brks f).fenced = x := ⟨_, rfl⟩
      have HV' : Hid (live s.brks (f : Int) = !x) := by show _ = _; rw [HV.out, hx]
      rw [hx] at e2
      clear hx HV hmem f1 f2 hf hb hi
      cases x with
      | true =>
        have HN : Hid (allTo (fun z => !live s.brks z) l (k + 1)) := allTo_succ HO.out HK.out (by simp only [HV'.out]; rfl)
        go_wp2
        go_roundw
        case rel => exact ⟨k + 1, by omega, by go_num, HN.out, by first | trivial | rfl⟩
        case measure => simp [intOf]; omega
      | false =>
        have HE : Hid (firstZ s.brks l = (f : Int)) := by show _ = _; rw [firstZ, findG_at HO.out HK.out (by rw [HV'.out]; rfl)]; rfl
        go_wp2
        go_ret
        exact ⟨ret_int (by rw [HE.out]), bB⟩
    · obtain rfl : k = l.length := by omega
      have HE : Hid (firstZ s.brks l = -1) := by show _ = _; rw [firstZ, findG_no HO.out]; rfl
      go_wp2
      go_ret
      exact ⟨ret_int (by rw [HE.out]), bB⟩

set_option maxRecDepth 100000 in
set_option maxHeartbeats 16000000 in
theorem l12Part_any (s : Ct) (a0 a1 : Option Addr) (c0 c1 : Nat) (p : Pn) (r0 r1 : Option Addr) (k0 k1 : Nat) (w : World) (hb : Brs w a0 s.brks) (hn : s.brks.length ≤ maxLen) (h0 : Ints w r0 p.homes) (l0 : p.homes.length ≤ maxLen) (h1 : Ints w r1 p.steps) (l1 : p.steps.length ≤ maxLen) :
    Calls Tryd.prog 28 #[ctV s a0 c0 a1 c1, .agg #[.slice r0 p.homes.length k0, .slice r1 p.steps.length k1, .int .i64 p.leader, .int .i64 p.epoch, .int .i64 p.stamp]] w fun e w' => e = .returned (.bool (okPn s.brks p)) ∧ Below w.heap.size w w' := by
  have HB : ∀ x y, Below w.heap.size w ((w.alloc x).alloc y) := fun _ _ => ((Below.refl _ _).alloc (Nat.le_refl _) _).alloc (by simp) _
  have H0 : ∀ x y, Ints ((w.alloc x).alloc y) r0 p.homes := fun x y => h0.below (HB x y)
  have H1 : ∀ x y, Ints ((w.alloc x).alloc y) r1 p.steps := fun x y => h1.below (HB x y)
  have HBr : ∀ x y, Brs ((w.alloc x).alloc y) a0 s.brks := fun x y => hb.below (HB x y)
  clear h0 h1
  by_cases g1 : p.homes.length = 0
  · have d1 : (((p.homes.length : Nat) : Int) == 0) = true := by rw [g1]; rfl
    have HE : Hid (okPn s.brks p = false) := by show _ = _; unfold okPn; rw [decide_eq_true g1]; rfl
    go_enter Tryd.func28, Tryd.ntmps28
    go_wp2
    go_ret
    exact ⟨ret_bool HE.out.symm, HB _ _⟩
  have d1 : (((p.homes.length : Nat) : Int) == 0) = false := by rw [beq_eq_false_iff_ne]; omega
  have q1 : (!decide (p.homes.length = 0)) = true := by simp [g1]
  cases g2 : riseB p.homes s.brks.length with
  | false =>
    have HE : Hid (okPn s.brks p = false) := by show _ = _; unfold okPn; rw [g2]; simp
    go_enter Tryd.func28, Tryd.ntmps28
    go_wp2_with (first | (go_at_call 44; refine (l6Group_k _ _ _ _ _ _ (by first | exact H0 _ _ | exact H1 _ _) (by first | exact l0 | exact l1) (by first | exact g2 | exact g4)).mono ?_; rintro e w' ⟨rfl, rfl⟩))
    go_ret
    exact ⟨ret_bool HE.out.symm, HB _ _⟩
  | true =>
    by_cases g3 : p.steps.length = 0
    · have d3 : (((p.steps.length : Nat) : Int) == 0) = true := by rw [g3]; rfl
      have HE : Hid (okPn s.brks p = false) := by show _ = _; unfold okPn; rw [decide_eq_true g3]; simp
      go_enter Tryd.func28, Tryd.ntmps28
      go_wp2_with (first | (go_at_call 44; refine (l6Group_k _ _ _ _ _ _ (by first | exact H0 _ _ | exact H1 _ _) (by first | exact l0 | exact l1) (by first | exact g2 | exact g4)).mono ?_; rintro e w' ⟨rfl, rfl⟩))
      go_ret
      exact ⟨ret_bool HE.out.symm, HB _ _⟩
    have d3 : (((p.steps.length : Nat) : Int) == 0) = false := by rw [beq_eq_false_iff_ne]; omega
    have q3 : (!decide (p.steps.length = 0)) = true := by simp [g3]
    cases g4 : riseB p.steps s.brks.length with
    | false =>
      have HE : Hid (okPn s.brks p = false) := by show _ = _; unfold okPn; rw [g4]; simp
      go_enter Tryd.func28, Tryd.ntmps28
      go_wp2_with (first | (go_at_call 44; refine (l6Group_k _ _ _ _ _ _ (by first | exact H0 _ _ | exact H1 _ _) (by first | exact l0 | exact l1) (by first | exact g2 | exact g4)).mono ?_; rintro e w' ⟨rfl, rfl⟩))
      go_ret
      exact ⟨ret_bool HE.out.symm, HB _ _⟩
    | true =>
      cases g5 : hasL p.homes p.steps with
      | false =>
        have HE : Hid (okPn s.brks p = false) := by show _ = _; unfold okPn; rw [g5]; simp
        go_enter Tryd.func28, Tryd.ntmps28
        go_wp2_with (first | (go_at_call 44; refine (l6Group_k _ _ _ _ _ _ (by first | exact H0 _ _ | exact H1 _ _) (by first | exact l0 | exact l1) (by first | exact g2 | exact g4)).mono ?_; rintro e w' ⟨rfl, rfl⟩) | (go_at_call 45; refine (l6Has_k _ _ _ _ _ _ _ _ (H0 _ _) (H1 _ _) l0 l1 g5).mono ?_; rintro e w' ⟨rfl, rfl⟩))
        go_ret
        exact ⟨ret_bool HE.out.symm, HB _ _⟩
      | true =>
        have HQ : Hid (okPn s.brks p = (ldOk s.brks p && (inB p.epoch 0 1000 && inB p.stamp 0 1000))) := by show _ = _; unfold okPn; rw [q1, g2, q3, g4, g5]; rfl
        by_cases g7 : p.leader = -1
        · have d7 : (p.leader == -1) = true := by rw [g7]; rfl
          have d7' : (p.leader != -1) = false := by rw [g7]; rfl
          have hL : ldOk s.brks p = !p.steps.any (live s.brks) := by unfold ldOk; rw [if_pos g7]
          obtain ⟨z, hz⟩ : ∃ z, firstZ s.brks p.steps = z := ⟨_, rfl⟩
          have HF : Hid (firstZ s.brks p.steps = z) := hz
          cases g6 : p.steps.any (live s.brks) with
          | true =>
            have hz0 : 0 ≤ z := by rw [← hz]; exact firstZ_t g6 (fun x hx => (rise_mem g4 hx).1)
            clear g7 hz
            have HE : Hid (okPn s.brks p = false) := by show _ = _; rw [HQ.out, hL, g6]; rfl
            go_enter Tryd.func28, Tryd.ntmps28
            go_wp2_with (first | (go_at_call 44; refine (l6Group_k _ _ _ _ _ _ (by first | exact H0 _ _ | exact H1 _ _) (by first | exact l0 | exact l1) (by first | exact g2 | exact g4)).mono ?_; rintro e w' ⟨rfl, rfl⟩) | (go_at_call 45; refine (l6Has_k _ _ _ _ _ _ _ _ (H0 _ _) (H1 _ _) l0 l1 g5).mono ?_; rintro e w' ⟨rfl, rfl⟩) | (go_at_call 46; refine (l12First_any s _ _ _ _ _ _ _ _ (HBr _ _) hn (H1 _ _) l1 (fun z hz => rise_mem g4 hz)).mono ?_; rintro e w1 ⟨he, hB1⟩; rw [HF.out] at he; subst he; have BB := stCt (HB _ _) hB1; have y3 : w1.cell? ⟨w.heap.size + 1, 3, none⟩ = some (.int .i64 p.epoch) := celB hB1 (by simp [go_sem]); have y4 : w1.cell? ⟨w.heap.size + 1, 4, none⟩ = some (.int .i64 p.stamp) := celB hB1 (by simp [go_sem]); have y2 : w1.cell? ⟨w.heap.size + 1, 2, none⟩ = some (.int .i64 p.leader) := celB hB1 (by simp [go_sem])))
            go_ret
            exact ⟨ret_bool HE.out.symm, BB⟩
          | false =>
            have hz0 : z < 0 := by rw [← hz, firstZ_f g6]; decide
            have hQ : ldOk s.brks p = true := by rw [hL, g6]; rfl
            clear g7 hz
            cases g8 : inB p.epoch 0 1000 with
            | false =>
              have HE : Hid (okPn s.brks p = false) := by show _ = _; rw [HQ.out, hQ, g8]; simp
              go_enter Tryd.func28, Tryd.ntmps28
              go_wp2_with (first | (go_at_call 44; refine (l6Group_k _ _ _ _ _ _ (by first | exact H0 _ _ | exact H1 _ _) (by first | exact l0 | exact l1) (by first | exact g2 | exact g4)).mono ?_; rintro e w' ⟨rfl, rfl⟩) | (go_at_call 45; refine (l6Has_k _ _ _ _ _ _ _ _ (H0 _ _) (H1 _ _) l0 l1 g5).mono ?_; rintro e w' ⟨rfl, rfl⟩) | (go_at_call 46; refine (l12First_any s _ _ _ _ _ _ _ _ (HBr _ _) hn (H1 _ _) l1 (fun z hz => rise_mem g4 hz)).mono ?_; rintro e w1 ⟨he, hB1⟩; rw [HF.out] at he; subst he; have BB := stCt (HB _ _) hB1; have y3 : w1.cell? ⟨w.heap.size + 1, 3, none⟩ = some (.int .i64 p.epoch) := celB hB1 (by simp [go_sem]); have y4 : w1.cell? ⟨w.heap.size + 1, 4, none⟩ = some (.int .i64 p.stamp) := celB hB1 (by simp [go_sem]); have y2 : w1.cell? ⟨w.heap.size + 1, 2, none⟩ = some (.int .i64 p.leader) := celB hB1 (by simp [go_sem])) | (go_at_call 27; refine (l1In_k _ _ _ _ _ g8).mono ?_; rintro e w' ⟨rfl, rfl⟩))
              go_ret
              exact ⟨ret_bool HE.out.symm, BB⟩
            | true =>
              obtain ⟨x, g9⟩ : ∃ x, inB p.stamp 0 1000 = x := ⟨_, rfl⟩
              have HE : Hid (okPn s.brks p = x) := by show _ = _; rw [HQ.out, hQ, g8, g9]; rfl
              go_enter Tryd.func28, Tryd.ntmps28
              go_wp2_with (first | (go_at_call 44; refine (l6Group_k _ _ _ _ _ _ (by first | exact H0 _ _ | exact H1 _ _) (by first | exact l0 | exact l1) (by first | exact g2 | exact g4)).mono ?_; rintro e w' ⟨rfl, rfl⟩) | (go_at_call 45; refine (l6Has_k _ _ _ _ _ _ _ _ (H0 _ _) (H1 _ _) l0 l1 g5).mono ?_; rintro e w' ⟨rfl, rfl⟩) | (go_at_call 46; refine (l12First_any s _ _ _ _ _ _ _ _ (HBr _ _) hn (H1 _ _) l1 (fun z hz => rise_mem g4 hz)).mono ?_; rintro e w1 ⟨he, hB1⟩; rw [HF.out] at he; subst he; have BB := stCt (HB _ _) hB1; have y3 : w1.cell? ⟨w.heap.size + 1, 3, none⟩ = some (.int .i64 p.epoch) := celB hB1 (by simp [go_sem]); have y4 : w1.cell? ⟨w.heap.size + 1, 4, none⟩ = some (.int .i64 p.stamp) := celB hB1 (by simp [go_sem]); have y2 : w1.cell? ⟨w.heap.size + 1, 2, none⟩ = some (.int .i64 p.leader) := celB hB1 (by simp [go_sem])) | (go_at_call 27; refine (l1In_k _ _ _ _ _ (by first | exact g8 | exact g9)).mono ?_; rintro e w' ⟨rfl, rfl⟩))
              go_ret
              exact ⟨ret_bool HE.out.symm, BB⟩
        · have d7 : (p.leader == -1) = false := by rw [beq_eq_false_iff_ne]; exact g7
          have d7' : (p.leader != -1) = true := by simp [g7]
          have hL : ldOk s.brks p = (p.steps.contains p.leader && live s.brks p.leader) := by unfold ldOk; rw [if_neg g7]
          cases g6 : p.steps.contains p.leader with
          | false =>
            have HE : Hid (okPn s.brks p = false) := by show _ = _; rw [HQ.out, hL, g6]; rfl
            go_enter Tryd.func28, Tryd.ntmps28
            go_wp2_with (first | (go_at_call 44; refine (l6Group_k _ _ _ _ _ _ (by first | exact H0 _ _ | exact H1 _ _) (by first | exact l0 | exact l1) (by first | exact g2 | exact g4)).mono ?_; rintro e w' ⟨rfl, rfl⟩) | (go_at_call 45; refine (l6Has_k _ _ _ _ _ _ _ _ (H0 _ _) (H1 _ _) l0 l1 g5).mono ?_; rintro e w' ⟨rfl, rfl⟩) | (go_at_call 47; refine (l1Has_k _ _ _ _ _ _ (H1 _ _) l1 g6).mono ?_; rintro e w' ⟨rfl, rfl⟩))
            go_ret
            exact ⟨ret_bool HE.out.symm, HB _ _⟩
          | true =>
            obtain ⟨f1, f2⟩ := rise_mem g4 (by simpa using g6)
            obtain ⟨f, hf⟩ : ∃ f : Nat, p.leader = f := ⟨p.leader.toNat, by omega⟩
            have hfn : f < s.brks.length := by omega
            have hfi : (f : Int) < (s.brks.length : Int) := by omega
            have h0f : (0 : Int) ≤ (f : Int) := by omega
            obtain ⟨K, O, rfl, -, -, e2⟩ := hb f _ (brA_get hfn)
            have hV : live s.brks p.leader = !(brA s.brks f).fenced := by unfold live; rw [hf]; rfl
            obtain ⟨x2, hx2⟩ : ∃ x, (brA s.brks f).fenced = x := ⟨_, rfl⟩
            rw [hx2] at e2 hV
            have y2 : ∀ x y, ((w.alloc x).alloc y).cell? ⟨K, O + f * 3 + 2, none⟩ = some (.bool x2) := fun x y => celB (HB x y) e2
            clear hx2 e2 hb g7
            obtain ⟨homes, steps, leader, epoch, stamp⟩ := p
            simp only at *
            subst hf
            cases x2 with
            | true =>
              have HE : Hid (okPn s.brks ⟨homes, steps, (f : Int), epoch, stamp⟩ = false) := by show _ = _; rw [HQ.out, hL, g6, hV]; rfl
              go_enter Tryd.func28, Tryd.ntmps28
              go_wp2_with (first | (go_at_call 44; refine (l6Group_k _ _ _ _ _ _ (by first | exact H0 _ _ | exact H1 _ _) (by first | exact l0 | exact l1) (by first | exact g2 | exact g4)).mono ?_; rintro e w' ⟨rfl, rfl⟩) | (go_at_call 45; refine (l6Has_k _ _ _ _ _ _ _ _ (H0 _ _) (H1 _ _) l0 l1 g5).mono ?_; rintro e w' ⟨rfl, rfl⟩) | (go_at_call 47; refine (l1Has_k _ _ _ _ _ _ (H1 _ _) l1 g6).mono ?_; rintro e w' ⟨rfl, rfl⟩))
              go_ret
              exact ⟨ret_bool HE.out.symm, HB _ _⟩
            | false =>
              have hQ : ldOk s.brks ⟨homes, steps, (f : Int), epoch, stamp⟩ = true := by rw [hL, g6, hV]; rfl
              cases g8 : inB epoch 0 1000 with
              | false =>
                have HE : Hid (okPn s.brks ⟨homes, steps, (f : Int), epoch, stamp⟩ = false) := by show _ = _; rw [HQ.out, hQ, g8]; simp
                go_enter Tryd.func28, Tryd.ntmps28
                go_wp2_with (first | (go_at_call 44; refine (l6Group_k _ _ _ _ _ _ (by first | exact H0 _ _ | exact H1 _ _) (by first | exact l0 | exact l1) (by first | exact g2 | exact g4)).mono ?_; rintro e w' ⟨rfl, rfl⟩) | (go_at_call 45; refine (l6Has_k _ _ _ _ _ _ _ _ (H0 _ _) (H1 _ _) l0 l1 g5).mono ?_; rintro e w' ⟨rfl, rfl⟩) | (go_at_call 47; refine (l1Has_k _ _ _ _ _ _ (H1 _ _) l1 g6).mono ?_; rintro e w' ⟨rfl, rfl⟩) | (go_at_call 27; refine (l1In_k _ _ _ _ _ g8).mono ?_; rintro e w' ⟨rfl, rfl⟩))
                go_ret
                exact ⟨ret_bool HE.out.symm, HB _ _⟩
              | true =>
                obtain ⟨x, g9⟩ : ∃ x, inB stamp 0 1000 = x := ⟨_, rfl⟩
                have HE : Hid (okPn s.brks ⟨homes, steps, (f : Int), epoch, stamp⟩ = x) := by show _ = _; rw [HQ.out, hQ, g8, g9]; rfl
                go_enter Tryd.func28, Tryd.ntmps28
                go_wp2_with (first | (go_at_call 44; refine (l6Group_k _ _ _ _ _ _ (by first | exact H0 _ _ | exact H1 _ _) (by first | exact l0 | exact l1) (by first | exact g2 | exact g4)).mono ?_; rintro e w' ⟨rfl, rfl⟩) | (go_at_call 45; refine (l6Has_k _ _ _ _ _ _ _ _ (H0 _ _) (H1 _ _) l0 l1 g5).mono ?_; rintro e w' ⟨rfl, rfl⟩) | (go_at_call 47; refine (l1Has_k _ _ _ _ _ _ (H1 _ _) l1 g6).mono ?_; rintro e w' ⟨rfl, rfl⟩) | (go_at_call 27; refine (l1In_k _ _ _ _ _ (by first | exact g8 | exact g9)).mono ?_; rintro e w' ⟨rfl, rfl⟩))
                go_ret
                exact ⟨ret_bool HE.out.symm, HB _ _⟩

theorem l12Part_c (s : Ct) (a0 a1 : Option Addr) (c0 c1 : Nat) (p : Pn) (r0 r1 : Option Addr) (k0 k1 : Nat) (b : Bool) (w : World) (hb : Brs w a0 s.brks) (hn : s.brks.length ≤ maxLen) (h0 : Ints w r0 p.homes) (l0 : p.homes.length ≤ maxLen) (h1 : Ints w r1 p.steps) (l1 : p.steps.length ≤ maxLen) (h : okPn s.brks p = b) :
    Calls Tryd.prog 28 #[ctV s a0 c0 a1 c1, .agg #[.slice r0 p.homes.length k0, .slice r1 p.steps.length k1, .int .i64 p.leader, .int .i64 p.epoch, .int .i64 p.stamp]] w fun e w' => e = .returned (.bool b) ∧ Below w.heap.size w w' := by
  rw [← h]; exact l12Part_any s a0 a1 c0 c1 p r0 r1 k0 k1 w hb hn h0 l0 h1 l1

end Go.Proofs.YtfehndedkffpfaaDoor
