/-
  Worlds of chapter 8: plain mathematics: which are good, what is on the way, and that the two sides' tests are one.
-/
import Derived.Test.YtaoecafibmfphaaSnp
import Derived.Test.YtaoecafibmfphaaEp
namespace Go.Proofs.Ytaoecafibmfphaa
open Go.RowKit

/-- The channels from 'a' to those below b. -/
def rowC (a : Nat) : Nat → List Ch
  | 0 => []
  | b + 1 => if a = b then rowC a b else rowC a b ++ [⟨a, b, []⟩]

/-- The channels from those below a. -/
def chansTo (n : Nat) : Nat → List Ch
  | 0 => []
  | a + 1 => chansTo n a ++ rowC a n

def chansL (n : Nat) : List Ch := chansTo n n

theorem rowC_len (a : Nat) : ∀ b, (rowC a b).length ≤ b
  | 0 => Nat.le_refl _
  | b + 1 => by
    have := rowC_len a b
    unfold rowC; split
    · omega
    · simp; omega

theorem chansTo_len (n : Nat) : ∀ a, (chansTo n a).length ≤ a * n
  | 0 => by simp [chansTo]
  | a + 1 => by
    have h1 := chansTo_len n a
    have h2 := rowC_len a n
    rw [chansTo, List.length_append, Nat.add_mul]
    omega

theorem rowC_mem (a : Nat) : ∀ b, ∀ c, c ∈ rowC a b → c.fr = a ∧ ∃ j : Nat, j < b ∧ c.to = j ∧ c.way = []
  | 0, c, h => by simp [rowC] at h
  | b + 1, c, h => by
    unfold rowC at h
    split at h
    · obtain ⟨h1, j, h2, h3⟩ := rowC_mem a b c h
      exact ⟨h1, j, by omega, h3⟩
    · rcases List.mem_append.1 h with h | h
      · obtain ⟨h1, j, h2, h3⟩ := rowC_mem a b c h
        exact ⟨h1, j, by omega, h3⟩
      · obtain rfl := List.mem_singleton.1 h
        exact ⟨rfl, b, by omega, rfl, rfl⟩

theorem chansTo_mem (n : Nat) : ∀ a, ∀ c, c ∈ chansTo n a → ∃ i j : Nat, i < a ∧ j < n ∧ c.fr = i ∧ c.to = j ∧ c.way = []
  | 0, c, h => by simp [chansTo] at h
  | a + 1, c, h => by
    rw [chansTo] at h
    rcases List.mem_append.1 h with h | h
    · obtain ⟨i, j, h1, h2⟩ := chansTo_mem n a c h
      exact ⟨i, j, by omega, h2⟩
    · obtain ⟨h1, j, h2, h3⟩ := rowC_mem a n c h
      exact ⟨a, j, by omega, h2, h1, h3⟩

theorem chansL_mem {n : Nat} {c : Ch} (h : c ∈ chansL n) : ∃ i j : Nat, i < n ∧ j < n ∧ c.fr = i ∧ c.to = j ∧ c.way = [] := chansTo_mem n n c h

def chA (l : List Ch) (i : Nat) : Ch := l.getD i ⟨0, 0, []⟩
def pcA (l : List Pc) (i : Nat) : Pc := l.getD i ⟨false, 0, [], []⟩
def boA (l : List Bool) (i : Nat) : Bool := l.getD i false

theorem chA_get {l : List Ch} {k : Nat} (h : k < l.length) : l[k]? = some (chA l k) := by
  unfold chA; rw [List.getD_eq_getElem?_getD, List.getElem?_eq_getElem h]; rfl
theorem pcA_get {l : List Pc} {k : Nat} (h : k < l.length) : l[k]? = some (pcA l k) := by
  unfold pcA; rw [List.getD_eq_getElem?_getD, List.getElem?_eq_getElem h]; rfl
theorem boA_get {l : List Bool} {k : Nat} (h : k < l.length) : l[k]? = some (boA l k) := by
  unfold boA; rw [List.getD_eq_getElem?_getD, List.getElem?_eq_getElem h]; rfl

def allTo (zs : List Int) (hi : Int) (k : Nat) : Prop := ∀ i, i < k → 0 ≤ zA zs i ∧ zA zs i ≤ hi
instance (zs : List Int) (hi : Int) (k : Nat) : Decidable (allTo zs hi k) := by unfold allTo; infer_instance
def allW (zs : List Int) (hi : Int) : Bool := decide (allTo zs hi zs.length)
theorem allW_t {zs : List Int} {hi : Int} : allW zs hi = true ↔ allTo zs hi zs.length := by simp [allW]
theorem allW_bad {zs : List Int} {hi : Int} {k : Nat} (hk : k < zs.length) (h : ¬ (0 ≤ zA zs k ∧ zA zs k ≤ hi)) : allW zs hi = false := by
  simp only [allW, decide_eq_false_iff_not]; exact fun g => h (g k hk)
theorem allTo_succ {zs : List Int} {hi : Int} {k : Nat} (h : allTo zs hi k) (h0 : 0 ≤ zA zs k ∧ zA zs k ≤ hi) : allTo zs hi (k + 1) := fun i hi' => by
  by_cases e : i = k
  · subst e; exact h0
  · exact h i (by omega)

def sumTo (zs : List Int) : Nat → Int
  | 0 => 0
  | k + 1 => sumTo zs k + zA zs k
def sumI (zs : List Int) : Int := sumTo zs zs.length

theorem sumTo_rg {zs : List Int} {hi : Int} : ∀ k, allTo zs hi k → 0 ≤ hi → 0 ≤ sumTo zs k ∧ sumTo zs k ≤ hi * k
  | 0, _, _ => by simp [sumTo]
  | k + 1, h, h0 => by
    have := sumTo_rg k (fun i hi' => h i (by omega)) h0
    have h2 := h k (by omega)
    rw [sumTo]
    have e : hi * ((k + 1 : Nat) : Int) = hi * k + hi := by rw [Int.natCast_add, Int.mul_add]; simp
    omega

/-- A channel keeps the ends that it should have, and what is on it is as it may be. -/
def okCh (c d : Ch) : Bool := decide (c.fr = d.fr) && decide (c.to = d.to) && decide (c.way.length ≤ 8) && allW c.way 1000
def chsTo (l want : List Ch) (k : Nat) : Prop := ∀ i, i < k → okCh (chA l i) (chA want i) = true
instance (l want : List Ch) (k : Nat) : Decidable (chsTo l want k) := by unfold chsTo; infer_instance
def goodChs (l want : List Ch) : Bool := decide (l.length = want.length ∧ chsTo l want l.length)

theorem goodChs_t {l want : List Ch} : goodChs l want = true ↔ l.length = want.length ∧ chsTo l want l.length := by simp [goodChs]
theorem goodChs_len {l want : List Ch} (h : l.length ≠ want.length) : goodChs l want = false := by
  simp only [goodChs, decide_eq_false_iff_not]; exact fun g => h g.1
theorem goodChs_bad {l want : List Ch} {k : Nat} (hk : k < l.length) (h : okCh (chA l k) (chA want k) = false) : goodChs l want = false := by
  simp only [goodChs, decide_eq_false_iff_not]; exact fun g => by have := g.2 k hk; rw [h] at this; cases this
theorem chsTo_succ {l want : List Ch} {k : Nat} (h : chsTo l want k) (h0 : okCh (chA l k) (chA want k) = true) : chsTo l want (k + 1) := fun i hi' => by
  by_cases e : i = k
  · subst e; exact h0
  · exact h i (by omega)

theorem okCh_t {c d : Ch} : okCh c d = true ↔ c.fr = d.fr ∧ c.to = d.to ∧ c.way.length ≤ 8 ∧ allTo c.way 1000 c.way.length := by
  simp [okCh, allW, and_assoc]

/-- Of good channels the ends are there. -/
theorem goodChs_ends {l : List Ch} {n k : Nat} (h : goodChs l (chansL n) = true) (hk : k < l.length) : ∃ i j : Nat, i < n ∧ j < n ∧ (chA l k).fr = i ∧ (chA l k).to = j ∧ (chA l k).way.length ≤ 8 ∧ allTo (chA l k).way 1000 (chA l k).way.length := by
  obtain ⟨h1, h2⟩ := goodChs_t.1 h
  obtain ⟨e1, e2, e3, e4⟩ := okCh_t.1 (h2 k hk)
  obtain ⟨i, j, hi, hj, f1, f2, -⟩ := chansL_mem (List.mem_of_getElem? (chA_get (l := chansL n) (k := k) (by omega)))
  exact ⟨i, j, hi, hj, e1.trans f1, e2.trans f2, e3, e4⟩

def hasTo (bs : List Bool) (x : Bool) (k : Nat) : Prop := ∀ i, i < k → boA bs i ≠ x
instance (bs : List Bool) (x : Bool) (k : Nat) : Decidable (hasTo bs x k) := by unfold hasTo; infer_instance
/-- x is there. -/
def hasB (bs : List Bool) (x : Bool) : Bool := !decide (hasTo bs x bs.length)
theorem has_f {bs : List Bool} {x : Bool} (h : hasTo bs x bs.length) : hasB bs x = false := by simp [hasB, h]
theorem has_t {bs : List Bool} {x : Bool} {k : Nat} (hk : k < bs.length) (h : boA bs k = x) : hasB bs x = true := by
  simp only [hasB, Bool.not_eq_true', decide_eq_false_iff_not]; exact fun g => g k hk h

def goodPc (p : Pc) (own n : Nat) : Bool :=
  decide (p.ins.length = n) && decide (p.cl.length = n) && (if p.tk then inB p.am 0 1000 && allW p.ins 1000000 && decide (zA p.ins own = 0) && boA p.cl own else decide (p.am = 0) && allW p.ins 0 && !hasB p.cl true)
def pcsTo (l : List Pc) (n k : Nat) : Prop := ∀ i, i < k → goodPc (pcA l i) i n = true
instance (l : List Pc) (n k : Nat) : Decidable (pcsTo l n k) := by unfold pcsTo; infer_instance
def goodPcs (l : List Pc) (n : Nat) : Bool := decide (l.length = n ∧ pcsTo l n l.length)

theorem goodPcs_t {l : List Pc} {n : Nat} : goodPcs l n = true ↔ l.length = n ∧ pcsTo l n l.length := by simp [goodPcs]
theorem goodPcs_len {l : List Pc} {n : Nat} (h : l.length ≠ n) : goodPcs l n = false := by
  simp only [goodPcs, decide_eq_false_iff_not]; exact fun g => h g.1
theorem goodPcs_bad {l : List Pc} {n k : Nat} (hk : k < l.length) (h : goodPc (pcA l k) k n = false) : goodPcs l n = false := by
  simp only [goodPcs, decide_eq_false_iff_not]; exact fun g => by have := g.2 k hk; rw [h] at this; cases this
theorem pcsTo_succ {l : List Pc} {n k : Nat} (h : pcsTo l n k) (h0 : goodPc (pcA l k) k n = true) : pcsTo l n (k + 1) := fun i hi' => by
  by_cases e : i = k
  · subst e; exact h0
  · exact h i (by omega)

theorem goodPc_lens {p : Pc} {own n : Nat} (h : goodPc p own n = true) : p.ins.length = n ∧ p.cl.length = n := by
  simp only [goodPc, Bool.and_eq_true, decide_eq_true_eq] at h
  exact h.1

theorem goodPcs_lens {l : List Pc} {n k : Nat} (h : goodPcs l n = true) (hk : k < n) : k < l.length ∧ (pcA l k).ins.length = n ∧ (pcA l k).cl.length = n := by
  obtain ⟨h1, h2⟩ := goodPcs_t.1 h
  exact ⟨by omega, goodPc_lens (h2 k (by omega))⟩

def zerosTo (zs : List Int) : Nat → Nat
  | 0 => 0
  | k + 1 => if zA zs k = 0 then zerosTo zs k + 1 else zerosTo zs k
theorem zerosTo_le (zs : List Int) : ∀ k, zerosTo zs k ≤ k
  | 0 => Nat.le_refl _
  | k + 1 => by
    have := zerosTo_le zs k
    unfold zerosTo; split <;> omega
def zeros (zs : List Int) : Nat := zerosTo zs zs.length

def b01 (b : Bool) : Nat := if b then 1 else 0
def marksC (pcs : List Pc) (c : Ch) : Nat := b01 (boA (pcA pcs c.to.toNat).cl c.fr.toNat) + zeros c.way
def wantC (pcs : List Pc) (c : Ch) : Nat := b01 (pcA pcs c.fr.toNat).tk
def fitTo (pcs : List Pc) (chs : List Ch) (k : Nat) : Prop := ∀ i, i < k → marksC pcs (chA chs i) = wantC pcs (chA chs i)
instance (pcs : List Pc) (chs : List Ch) (k : Nat) : Decidable (fitTo pcs chs k) := by unfold fitTo; infer_instance
def fitS (pcs : List Pc) (chs : List Ch) : Bool := decide (fitTo pcs chs chs.length)
theorem fitS_t {pcs : List Pc} {chs : List Ch} : fitS pcs chs = true ↔ fitTo pcs chs chs.length := by simp [fitS]
theorem fitS_bad {pcs : List Pc} {chs : List Ch} {k : Nat} (hk : k < chs.length) (h : marksC pcs (chA chs k) ≠ wantC pcs (chA chs k)) : fitS pcs chs = false := by
  simp only [fitS, decide_eq_false_iff_not]; exact fun g => h (g k hk)
theorem fitTo_succ {pcs : List Pc} {chs : List Ch} {k : Nat} (h : fitTo pcs chs k) (h0 : marksC pcs (chA chs k) = wantC pcs (chA chs k)) : fitTo pcs chs (k + 1) := fun i hi' => by
  by_cases e : i = k
  · subst e; exact h0
  · exact h i (by omega)

def onTo (chs : List Ch) : Nat → Int
  | 0 => 0
  | k + 1 => onTo chs k + sumI (chA chs k).way
def onW (chs : List Ch) : Int := onTo chs chs.length

def waysOk (chs : List Ch) : Prop := ∀ i, i < chs.length → (chA chs i).way.length ≤ 8 ∧ allTo (chA chs i).way 1000 (chA chs i).way.length

theorem way_rg {c : Ch} (h1 : c.way.length ≤ 8) (h2 : allTo c.way 1000 c.way.length) : 0 ≤ sumI c.way ∧ sumI c.way ≤ 8000 := by
  have := sumTo_rg _ h2 (by omega)
  unfold sumI; omega

theorem onTo_rg {chs : List Ch} (h : waysOk chs) : ∀ k, k ≤ chs.length → 0 ≤ onTo chs k ∧ onTo chs k ≤ 8000 * k
  | 0, _ => by simp [onTo]
  | k + 1, hk => by
    have h1 := onTo_rg h k (by omega)
    have h2 := h k (by omega)
    have := way_rg h2.1 h2.2
    rw [onTo]; omega

def goodSn (s : Sn) : Bool :=
  inB s.am.length 2 4 && allW s.am 1000 && goodChs s.chs (chansL s.am.length) && goodPcs s.pcs s.am.length && fitS s.pcs s.chs && inB s.sent 0 1000 && decide (s.total ≤ 1000) && decide (s.total = sumI s.am + onW s.chs)

theorem goodChs_ways {l : List Ch} {n : Nat} (h : goodChs l (chansL n) = true) : waysOk l := fun i hi => by
  obtain ⟨_, _, -, -, -, -, h1, h2⟩ := goodChs_ends h hi
  exact ⟨h1, h2⟩

theorem chansL_small {n : Nat} (h : n ≤ 4) : (chansL n).length ≤ 16 := by
  have := chansTo_len n n
  have h2 : n * n ≤ 4 * 4 := Nat.mul_le_mul h h
  unfold chansL; omega

structure SnG (s : Sn) : Prop where
  n2 : 2 ≤ s.am.length
  n4 : s.am.length ≤ 4
  am : allTo s.am 1000 s.am.length
  chs : goodChs s.chs (chansL s.am.length) = true
  pcs : goodPcs s.pcs s.am.length = true

theorem goodSn_g {s : Sn} (h : goodSn s = true) : SnG s := by
  simp only [goodSn, Bool.and_eq_true, inB_t, allW_t] at h
  obtain ⟨⟨⟨⟨⟨⟨⟨h1, h2⟩, h3⟩, h4⟩, -⟩, -⟩, -⟩, -⟩ := h
  exact ⟨by omega, by omega, h2, h3, h4⟩

theorem SnG.chs16 {s : Sn} (h : SnG s) : s.chs.length ≤ 16 := by
  have := chansL_small h.n4
  have := (goodChs_t.1 h.chs).1
  omega

theorem SnG.on {s : Sn} (h : SnG s) : 0 ≤ onW s.chs ∧ onW s.chs ≤ 128000 := by
  have := onTo_rg (goodChs_ways h.chs) s.chs.length (Nat.le_refl _)
  have := h.chs16
  unfold onW; omega

end Go.Proofs.Ytaoecafibmfphaa
