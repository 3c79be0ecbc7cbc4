/-
  The control, the program's side: impl.LiveBrokers, where the table of math/bits is laid. Made by mkcti.py.
-/
import Derived.Test.YtfehndedkffpfaaDoorCtI3
import Derived.Test.YtfehndedkffpfaaDoorQSt
import Derived.Test.YtfehndedkffpfaaDoorQList
namespace Go.Proofs.YtfehndedkffpfaaDoor
open Go.RowKit

def iotC (n : Nat) : List Int := (List.range n).map fun i : Nat => (i : Int)
theorem iotC_len (n : Nat) : (iotC n).length = n := by simp [iotC]
theorem iotC_mem {n : Nat} {z : Int} (h : z ∈ iotC n) : 0 ≤ z ∧ z < (n : Int) := by
  simp only [iotC, List.mem_map, List.mem_range] at h
  obtain ⟨i, h1, rfl⟩ := h
  omega
theorem miC {n : Nat} (h : n ≤ 6) : mi (stTo 0 1 n) = iotC n := by
  rcases (by omega : n = 0 ∨ n = 1 ∨ n = 2 ∨ n = 3 ∨ n = 4 ∨ n = 5 ∨ n = 6) with rfl | rfl | rfl | rfl | rfl | rfl | rfl <;> decide +kernel
theorem liv_places (l : List Br) : ∀ k, k ≤ l.length → livF l (iotC k) = placesTo (fun b : Br => !b.fenced) l k
  | 0, _ => rfl
  | k + 1, h => by
    have ih := liv_places l k (by omega)
    have e : iotC (k + 1) = iotC k ++ [(k : Int)] := by simp [iotC, List.range_succ]
    have hk : l[k]? = some (brA l k) := brA_get (by omega)
    have hv : live l (k : Int) = !(brA l k).fenced := by unfold live; rw [Int.toNat_natCast]
    have e2 : livF l (iotC (k + 1)) = livF l (iotC k) ++ livF l [(k : Int)] := by rw [e]; simp [livF]
    rw [e2, ih]
    cases hf : (!(brA l k).fenced) with
    | true => rw [placesTo_t hk hf]; rw [hf] at hv; simp [livF, hv]
    | false => rw [placesTo_f hk hf]; rw [hf] at hv; simp [livF, hv]

set_option maxRecDepth 100000 in
set_option maxHeartbeats 4000000 in
theorem implLiveBrokers_any (s : Ct) (a0 a1 : Option Addr) (c0 c1 : Nat) (w : World) (hs : CtR w s a0 a1) (hb : CtB s) (HT : TabQ w) :
    Calls Tryd.prog 7 #[ctV s a0 c0 a1 c1] w fun e w' => ∃ a' c', e = .returned (.tuple #[.slice a' (liveL s).length c', .bool (goodCt s)]) ∧ Ints w' a' (liveL s) ∧ RowI w' w.heap.size a' (liveL s).length ∧ Below w.heap.size w w' := by
  have hl := hb.len
  obtain ⟨u0, hu0⟩ : ∃ u, (w.alloc (.cells #[.slice a0 s.brks.length c0, .slice a1 s.parts.length c1, .int .i64 s.next] 33)) = u := ⟨_, rfl⟩
  have q0 : u0.cell? ⟨w.heap.size, 0, none⟩ = some (.slice a0 s.brks.length c0) := by rw [← hu0]; simp [go_sem]
  have q1 : u0.cell? ⟨w.heap.size, 1, none⟩ = some (.slice a1 s.parts.length c1) := by rw [← hu0]; simp [go_sem]
  have q2 : u0.cell? ⟨w.heap.size, 2, none⟩ = some (.int .i64 s.next) := by rw [← hu0]; simp [go_sem]
  have bB : Below w.heap.size w u0 := by rw [← hu0]; exact alCt _ _
  cases hg : goodCt s with
  | false =>
    have HE : Hid (liveL s = [] ∧ goodCt s = false) := by constructor <;> simp [liveL, hg]
    go_enter Tryd.func7, Tryd.ntmps7
    go_wp2_with fail
    try rw [hu0]
    refine (implGoodCt_c s _ _ _ _ _ (hs.below bB) hl _ hg).mono ?_
    rintro r w1 ⟨rfl, hB1⟩
    have BB := stCt bB hB1
    have p0 := celB hB1 q0
    have p1 := celB hB1 q1
    clear hu0 hB1 q0 q1 q2
    clear p0 p1
    go_wp2
    refine bodyPost_ret (v := .tuple #[.slice none 0 0, .bool false]) (by simp [results, Tryd.results7, go_sem]) rfl ⟨none, 0, by first | (rw [HE.out.1, HE.out.2]; rfl) | (rw [HE.out.1]; rfl), by rw [HE.out.1]; exact Ints.nil _ _, .inl (by rw [HE.out.1]; rfl), BB⟩
  | true =>
    have hlen := goodCt_len hg
    have hb6 : s.brks.length ≤ 1000000 := by omega
    have HE : Hid (liveL s = livF s.brks (iotC s.brks.length)) := by show _ = _; rw [liveL, if_pos hg, placesL, liv_places _ _ (Nat.le_refl _)]
    have HOk : Hid (goodCt s = true) := hg
    have HR : Hid (∀ z, z ∈ iotC s.brks.length → 0 ≤ z ∧ z < (s.brks.length : Int)) := fun z hz => iotC_mem hz
    have hst7 : stTo 0 1 s.brks.length < 128 := stTo_lt (many := s.brks.length) (fun k hk => by omega) s.brks.length (Nat.le_refl _)
    have hIN : Hid (∀ u : World, Calls Tryd.prog 19 #[.int .i64 0, .int .i64 1, .int .i64 (s.brks.length : Int)] u fun r w' => r = .returned (setV (stTo 0 1 s.brks.length)) ∧ Below u.heap.size u w') := fun u => inSteps_any 0 1 s.brks.length (by omega) (by omega) (by omega) (fun k hk => by omega) u
    have HMI : Hid (mi (stTo 0 1 s.brks.length) = iotC s.brks.length) := miC (by omega)
    generalize stTo 0 1 s.brks.length = N at *
    clear hlen
    go_enter Tryd.func7, Tryd.ntmps7
    go_wp2_with fail
    try rw [hu0]
    refine (implGoodCt_c s _ _ _ _ _ (hs.below bB) hl _ hg).mono ?_
    rintro r w1 ⟨rfl, hB1⟩
    have BB := stCt bB hB1
    have p0 := celB hB1 q0
    have p1 := celB hB1 q1
    clear hu0 hB1 q0 q1 q2
    go_wp2_with fail
    refine (hIN.out _).mono ?_
    rintro r w2 ⟨rfl, hB2⟩
    have BB2 := stCt BB hB2
    replace p0 := celB hB2 p0
    clear hB2 p1 hIN
    go_wp2_with fail
    refine (list_any N hst7 _ (HT.bel BB2)).mono ?_
    intro r w3 hA
    obtain ⟨av, cv, hr, -, -, hI, -, hB3⟩ := hA.ints
    rw [HMI.out, iotC_len] at hr
    rw [HMI.out] at hI
    subst hr
    have BB3 := stCt BB2 hB3
    replace p0 := celB hB3 p0
    clear hB3 hA
    have hLV := livingOf_any av a0 cv c0 (iotC s.brks.length) s.brks w3 hI (by rw [iotC_len]; omega) (hs.brks.below BB3) hb6 HR.out
    rw [iotC_len] at hLV
    go_wp2_with fail
    refine hLV.mono ?_
    intro r w4 hA
    obtain ⟨bv, dv, rfl, -, -, hJ, hR, hB4⟩ := hA.ints
    rw [← HE.out] at hJ hR ⊢
    replace hR := hR.mono (B' := w.heap.size) BB3.size
    have BC := stCt BB3 hB4
    clear hA hB4 hLV
    obtain ⟨m, hm⟩ : ∃ m, (liveL s).length = m := ⟨_, rfl⟩
    have HNN : Hid ((liveL s).length = m) := hm
    rw [hm]
    clear hm
    go_wp2
    refine bodyPost_ret (v := .tuple #[.slice bv m dv, .bool true]) (by simp [results, Tryd.results7, go_sem]) rfl ⟨bv, dv, by first | rw [HNN.out, HOk.out] | rw [HNN.out], hJ, hR, BC⟩

end Go.Proofs.YtfehndedkffpfaaDoor
