/-
  New worlds of chapter 8: NewSnap at every argument, both sides. Made by mknslaw.py.
-/
import Derived.Test.YtaoecafibmfphaaNsW
namespace Go.Proofs.Ytaoecafibmfphaa
open Go.RowKit

def okN (p am : Int) : Bool := inB p 2 4 && inB am 0 250
def newA (p am : Int) : Sn := if okN p am then newSn p.toNat am (p * am) else ⟨[], [], [], 0, 0⟩

theorem nsZero (w w' : World) (hb : Below w.heap.size w w') : NsAns w ⟨[], [], [], 0, 0⟩ false (.returned (.tuple #[.agg #[.slice none 0 0, .slice none 0 0, .slice none 0 0, .int .i64 0, .int .i64 0], .bool false])) w' :=
  ⟨none, 0, none, 0, none, 0, fun _ => none, fun _ => 0, fun _ => none, fun _ => none, fun _ => 0, fun _ => 0, rfl,
   ⟨Ints.nil _ _, .inl rfl, .inl rfl, ⟨fun j c b hj => by simp at hj, fun j c j' c' b hj => by simp at hj⟩, .inl rfl, ⟨fun j c b hj => by simp at hj, fun j c b hj => by simp at hj, fun j c j' c' b hj => by simp at hj, fun j c j' c' b hj => by simp at hj, fun j c j' c' b hj => by simp at hj⟩, fun b hb => by simp [InI] at hb, fun b hb => by simp [InI] at hb, fun b hb => by simp [ChIn, InI] at hb⟩, hb⟩

set_option maxRecDepth 100000 in
set_option maxHeartbeats 2000000 in
theorem implNs_bad1 (p am : Int) (w : World) (hg : inB p 2 4 = false) :
    Calls Try.prog 11 #[.int .i64 p, .int .i64 am] w fun e w' => NsAns w ⟨[], [], [], 0, 0⟩ false e w' := by
  go_enter Try.func11, Try.ntmps11
  go_wp2_with (go_at_call 39; refine (goodSnapProcs_any _ _).mono ?_; rintro e w' ⟨he, rfl⟩; rw [hg] at he; subst he)
  exact bodyPost_ret (v := .tuple #[.agg #[.slice none 0 0, .slice none 0 0, .slice none 0 0, .int .i64 0, .int .i64 0], .bool false]) (by simp [results, Try.results11, go_sem]) rfl (nsZero w _ (alB _ _))

set_option maxRecDepth 100000 in
set_option maxHeartbeats 2000000 in
theorem implNs_bad2 (p am : Int) (w : World) (hg : inB p 2 4 = true) (ha : inB am 0 250 = false) :
    Calls Try.prog 11 #[.int .i64 p, .int .i64 am] w fun e w' => NsAns w ⟨[], [], [], 0, 0⟩ false e w' := by
  go_enter Try.func11, Try.ntmps11
  go_wp2_with (first | (go_at_call 39; refine (goodSnapProcs_any _ _).mono ?_; rintro e w' ⟨he, rfl⟩; rw [hg] at he; subst he) | (go_at_call 40; refine (within_any _ _ _).mono ?_; rintro e w' ⟨he, rfl⟩; rw [ha] at he; subst he))
  exact bodyPost_ret (v := .tuple #[.agg #[.slice none 0 0, .slice none 0 0, .slice none 0 0, .int .i64 0, .int .i64 0], .bool false]) (by simp [results, Try.results11, go_sem]) rfl (nsZero w _ (alB _ _))

theorem implNs_any (p am : Int) (w : World) : Calls Try.prog 11 #[.int .i64 p, .int .i64 am] w fun e w' => NsAns w (newA p am) (okN p am) e w' := by
  cases hg : inB p 2 4 with
  | false =>
    have e1 : okN p am = false := by unfold okN; rw [hg]; rfl
    have e2 : newA p am = ⟨[], [], [], 0, 0⟩ := by unfold newA; rw [e1]; rfl
    rw [e1, e2]; exact implNs_bad1 p am w hg
  | true =>
    cases ha : inB am 0 250 with
    | false =>
      have e1 : okN p am = false := by unfold okN; rw [hg, ha]; rfl
      have e2 : newA p am = ⟨[], [], [], 0, 0⟩ := by unfold newA; rw [e1]; rfl
      rw [e1, e2]; exact implNs_bad2 p am w hg ha
    | true =>
      have e1 : okN p am = true := by unfold okN; rw [hg, ha]; rfl
      have e2 : newA p am = newSn p.toNat am (p * am) := by unfold newA; rw [e1]; rfl
      have hp := inB_t.1 hg
      obtain ⟨n, rfl⟩ : ∃ n : Nat, p = (n : Int) := ⟨p.toNat, by omega⟩
      rw [e1, e2, Int.toNat_natCast]
      exact implNs_good n am _ w (by omega) (by omega) ha rfl

set_option maxRecDepth 100000 in
set_option maxHeartbeats 2000000 in
theorem specNs_bad1 (p am : Int) (w : World) (hg : inB p 2 4 = false) :
    Calls Try.prog 10 #[.int .i64 p, .int .i64 am] w fun e w' => NsAns w ⟨[], [], [], 0, 0⟩ false e w' := by
  go_enter Try.func10, Try.ntmps10
  go_wp2_with (go_at_call 37; refine (l1In_b _ _ _ _ _ hg).mono ?_; rintro e w' ⟨rfl, rfl⟩)
  exact bodyPost_ret (v := .tuple #[.agg #[.slice none 0 0, .slice none 0 0, .slice none 0 0, .int .i64 0, .int .i64 0], .bool false]) (by simp [results, Try.results10, go_sem]) rfl (nsZero w _ (alB _ _))

set_option maxRecDepth 100000 in
set_option maxHeartbeats 2000000 in
theorem specNs_bad2 (p am : Int) (w : World) (hg : inB p 2 4 = true) (ha : inB am 0 250 = false) :
    Calls Try.prog 10 #[.int .i64 p, .int .i64 am] w fun e w' => NsAns w ⟨[], [], [], 0, 0⟩ false e w' := by
  go_enter Try.func10, Try.ntmps10
  go_wp2_with (first | (go_at_call_of 37 (Value.int .i64 p); refine (l1In_b _ _ _ _ _ hg).mono ?_; rintro e w' ⟨rfl, rfl⟩) | (go_at_call 37; refine (l1In_b _ _ _ _ _ ha).mono ?_; rintro e w' ⟨rfl, rfl⟩))
  exact bodyPost_ret (v := .tuple #[.agg #[.slice none 0 0, .slice none 0 0, .slice none 0 0, .int .i64 0, .int .i64 0], .bool false]) (by simp [results, Try.results10, go_sem]) rfl (nsZero w _ (alB _ _))

theorem specNs_any (p am : Int) (w : World) : Calls Try.prog 10 #[.int .i64 p, .int .i64 am] w fun e w' => NsAns w (newA p am) (okN p am) e w' := by
  cases hg : inB p 2 4 with
  | false =>
    have e1 : okN p am = false := by unfold okN; rw [hg]; rfl
    have e2 : newA p am = ⟨[], [], [], 0, 0⟩ := by unfold newA; rw [e1]; rfl
    rw [e1, e2]; exact specNs_bad1 p am w hg
  | true =>
    cases ha : inB am 0 250 with
    | false =>
      have e1 : okN p am = false := by unfold okN; rw [hg, ha]; rfl
      have e2 : newA p am = ⟨[], [], [], 0, 0⟩ := by unfold newA; rw [e1]; rfl
      rw [e1, e2]; exact specNs_bad2 p am w hg ha
    | true =>
      have e1 : okN p am = true := by unfold okN; rw [hg, ha]; rfl
      have e2 : newA p am = newSn p.toNat am (p * am) := by unfold newA; rw [e1]; rfl
      have hp := inB_t.1 hg
      obtain ⟨n, rfl⟩ : ∃ n : Nat, p = (n : Int) := ⟨p.toNat, by omega⟩
      rw [e1, e2, Int.toNat_natCast]
      exact specNs_good n am _ w (by omega) (by omega) ha rfl

theorem ChK_le {l : List Ch} {t : Nat} (h : ∀ c, c ∈ l → ChT c ≤ t) (k : Nat) : ∀ i, ChK l k i ≤ k + t * i
  | 0 => by simp [ChK]
  | i + 1 => by
    have := ChK_le h k i
    rw [ChK, Nat.mul_add]
    cases e : l[i]? with
    | none => simp only; omega
    | some c =>
      have := h c (List.mem_of_getElem? e)
      simp only; omega

theorem PcK_le {l : List Pc} {t : Nat} (h : ∀ c, c ∈ l → PcT c ≤ t) (k : Nat) : ∀ i, PcK l k i ≤ k + t * i
  | 0 => by simp [PcK]
  | i + 1 => by
    have := PcK_le h k i
    rw [PcK, Nat.mul_add]
    cases e : l[i]? with
    | none => simp only; omega
    | some c =>
      have := h c (List.mem_of_getElem? e)
      simp only; omega

theorem newA_small (p am : Int) : SnSz (newA p am) 1 ∧ SnS8 (newA p am) ∧ SnL (newA p am) := by
  unfold newA
  cases h : okN p am with
  | false => exact ⟨⟨by simp, by simp, by simp, by simp [snK3, snK2, snK1, PcK, ChK]⟩, ⟨fun c hc => by simp at hc, fun c hc => by simp at hc⟩, ⟨by simp, by simp, by simp⟩⟩
  | true =>
    unfold okN at h
    simp only [Bool.and_eq_true, inB_t] at h
    obtain ⟨n, rfl⟩ : ∃ n : Nat, p = (n : Int) := ⟨p.toNat, by omega⟩
    have hn : n ≤ 4 := by omega
    have hc := chansL_small hn
    have hcl : ∀ c, c ∈ chansL n → c.way = [] := fun c hc => by obtain ⟨_, _, -, -, -, -, e⟩ := chansL_mem hc; exact e
    have hp : ∀ c, c ∈ List.replicate n (blankPc n) → c.ins.length = n ∧ c.cl.length = n := fun c hc => pc_len (fun c hc => (List.mem_replicate.1 hc).2) hc
    have k2 := ChK_le (l := chansL n) (t := 2) (fun c hc => by unfold ChT; rw [hcl c hc]; simp) (1 + n) (chansL n).length
    have k3 := PcK_le (l := List.replicate n (blankPc n)) (t := 10) (fun c hc => by obtain ⟨e1, e2⟩ := hp c hc; unfold PcT; omega) (ChK (chansL n) (1 + n) (chansL n).length) n
    simp only [if_true, Int.toNat_natCast]
    refine ⟨⟨by simp [newSn]; omega, by simp [newSn]; omega, by simp [newSn]; omega, ?_⟩, ⟨fun c hc => ?_, fun c hc => ?_⟩, ⟨by simp [newSn]; unfold maxLen; omega, by simp only [newSn]; unfold maxLen; omega, by simp [newSn]; unfold maxLen; omega⟩⟩
    · simp only [snK3, snK2, snK1, newSn, List.length_replicate]
      omega
    · rw [hcl c hc]; simp
    · obtain ⟨e1, e2⟩ := hp c hc
      unfold maxLen; omega

end Go.Proofs.Ytaoecafibmfphaa
