/-
  A new window: what both sides answer, and what closes their walks. Made by mkwni.py.
-/
import Derived.Test.YtbgjjeecfbdaeaaWnM
import Derived.Test.YtbgjjeecfbdaeaaNewS4
import Derived.Test.YtbgjjeecfbdaeaaNewS5
import Derived.Test.YtbgjjeecfbdaeaaAppZ
namespace Go.Proofs.Ytbgjjeecfbdaeaa
open Go.RowKit

theorem getD_get {cs : Array Value} {i : Nat} (h : i < cs.size) : cs[i]? = some (cs.getD i undef) := by
  simp [h]
def gT (l : List ByteArray) : Bool := decide (l.length ≤ 12) && l.all shortB
def newWn (l : List ByteArray) : Wn := if gT l = true then ⟨l, List.replicate l.length false, [prOne 0 0 0 [⟨#[]⟩]], [btOne 0 0 0 [⟨#[]⟩]], 1⟩ else ⟨[], [], [], [], 0⟩
theorem newWn_t {l : List ByteArray} (h : gT l = true) : newWn l = ⟨l, List.replicate l.length false, [prOne 0 0 0 [⟨#[]⟩]], [btOne 0 0 0 [⟨#[]⟩]], 1⟩ := if_pos h
theorem newWn_f {l : List ByteArray} (h : gT l = false) : newWn l = ⟨[], [], [], [], 0⟩ := by unfold newWn; rw [if_neg (by rw [h]; decide)]
theorem gT_t {l : List ByteArray} (h : gT l = true) : l.length ≤ 12 ∧ ∀ s, s ∈ l → s.size ≤ 20 := by
  unfold gT at h
  rw [Bool.and_eq_true] at h
  exact ⟨of_decide_eq_true h.1, fun s hs => by have := List.all_eq_true.1 h.2 s hs; simpa [shortB] using this⟩
theorem newWn_small (l : List ByteArray) : WnL (newWn l) := by
  cases h : gT l
  · rw [newWn_f h]; exact ⟨by simp, by simp, by simp, by simp⟩
  · have := (gT_t h).1
    rw [newWn_t h]; exact ⟨by show l.length ≤ _; omega, by show (List.replicate l.length false).length ≤ _; rw [List.length_replicate]; omega, by simp, by simp⟩
theorem wn_zero (w : World) (B : Nat) : WnO w B ⟨[], [], [], [], 0⟩ none none none none :=
  ⟨fun i s hi => by simp at hi, .inl rfl, fun i z hi => by simp at hi, .inl rfl, fun b hb => by have := hb.1; simp at this, .inl ⟨rfl, rfl, rfl, rfl⟩⟩
/-- What the specification answers. -/
def WnSA (w : World) (l : List ByteArray) (e : Ending) (w' : World) : Prop := ∃ a0 a1 a2 a3 c0 c1 c2 c3, e = .returned (.tuple #[wnV (newWn l) a0 c0 a1 c1 a2 c2 a3 c3, .bool (gT l)]) ∧ WnR w' (newWn l) a0 a1 a2 a3 ∧ Below w.heap.size w w'
theorem heap8 (x : World) (b0 : Nat) (v0 v1 v2 v3 v4 v5 v6 v7 : Value) (b : Nat) (hb : b ≠ b0) : ((((((((x.setCell ⟨b0, 0, none⟩ v0).setCell ⟨b0, 1, none⟩ v1).setCell ⟨b0, 2, none⟩ v2).setCell ⟨b0, 3, none⟩ v3).setCell ⟨b0, 4, none⟩ v4).setCell ⟨b0, 5, none⟩ v5).setCell ⟨b0, 6, none⟩ v6).setCell ⟨b0, 7, none⟩ v7).heap[b]? = x.heap[b]? := by
  rw [Below.heap_setCell _ ⟨b0, _, none⟩ _ b (by simpa using hb), Below.heap_setCell _ ⟨b0, _, none⟩ _ b (by simpa using hb), Below.heap_setCell _ ⟨b0, _, none⟩ _ b (by simpa using hb), Below.heap_setCell _ ⟨b0, _, none⟩ _ b (by simpa using hb), Below.heap_setCell _ ⟨b0, _, none⟩ _ b (by simpa using hb), Below.heap_setCell _ ⟨b0, _, none⟩ _ b (by simpa using hb), Below.heap_setCell _ ⟨b0, _, none⟩ _ b (by simpa using hb), Below.heap_setCell _ ⟨b0, _, none⟩ _ b (by simpa using hb)]
theorem below8 {B : Nat} {w x : World} {b0 : Nat} (h : Below B w x) (hb : B ≤ b0) (v0 v1 v2 v3 v4 v5 v6 v7 : Value) : Below B w ((((((((x.setCell ⟨b0, 0, none⟩ v0).setCell ⟨b0, 1, none⟩ v1).setCell ⟨b0, 2, none⟩ v2).setCell ⟨b0, 3, none⟩ v3).setCell ⟨b0, 4, none⟩ v4).setCell ⟨b0, 5, none⟩ v5).setCell ⟨b0, 6, none⟩ v6).setCell ⟨b0, 7, none⟩ v7) :=
  (((((((h.setCell hb _).setCell hb _).setCell hb _).setCell hb _).setCell hb _).setCell hb _).setCell hb _).setCell hb _
theorem bools_rep {w : World} {b n : Nat} (h : w.rowIs b 4 n (fun _ => .bool false)) : Bools w (some ⟨b, 0, none⟩) (List.replicate n false) := fun i z hi => by
  rw [List.getElem?_replicate] at hi
  split at hi
  · rename_i hlt
    obtain rfl := Option.some.inj hi
    exact ⟨b, 0, rfl, by rw [Nat.zero_add]; exact h.cell hlt⟩
  · cases hi
theorem rowAt_own {w : World} {B : Nat} {a : Option Addr} {n c : Nat} {xs : List Value} (h : w.ownsRow B 9 1 (.slice a n c) n xs) : RowAt w B a n := by
  by_cases h0 : n = 0
  · exact .inl h0
  · obtain ⟨-, ⟨hv, h9⟩ | ⟨g', cap, cur, hv, hg, hh, hnc, hcap, hcs, ht⟩⟩ := h
    · omega
    · simp only [Value.slice.injEq] at hv
      obtain ⟨rfl, -, rfl⟩ := hv
      have hall : ∀ i, i < c * 1 → cur[i]? = some (cur.getD i undef) := fun i hi => by
        have h9 : i < cur.size := by omega
        simp [h9]
      exact .inr ⟨g', c * 1, fun j => cur.getD j undef, rfl, hg, by omega, ⟨cur, hh, hcs, hall⟩⟩
theorem own_high {w w' : World} {B : Nat} {e : TypeId} {size : Nat} {v : Value} {n : Nat} {xs : List Value} (h : w.ownsRow B e size v n xs) (hs : ∀ b, B ≤ b → w'.heap[b]? = w.heap[b]?) : w'.ownsRow B e size v n xs := by
  obtain ⟨k1, k2 | ⟨g, cap, cur, hv, hg, hh, r⟩⟩ := h
  · exact ⟨k1, .inl k2⟩
  · exact ⟨k1, .inr ⟨g, cap, cur, hv, hg, (hs g hg).trans hh, r⟩⟩
theorem OnePart.top {P : Nat} {w : World} {id ep z : Int} {ss : List ByteArray} {gp cp gl cl : Nat} (h : OnePart P w id ep z ss gp cp gl cl) : gl < w.heap.size := by
  obtain ⟨gw, cw, vR, h1, h2, h3, h4, h5⟩ := h
  exact (h3.lt gl rfl).2
theorem wn_close {w u x y : World} {l : List ByteArray} {a0 : Option Addr} {c0 gm gp cp gl cl P : Nat} (hu : w.heap.size < u.heap.size) (HV : x.ownsRow u.heap.size 9 1 (.slice a0 l.length c0) l.length (strVals l)) (hz : ∀ s, s ∈ l → s.size ≤ 20)
    (HR : x.rowIs gm 4 l.length (fun _ => .bool false)) (hgm : u.heap.size ≤ gm) (HP : OnePart P x 0 0 0 [⟨#[]⟩] gp cp gl cl) (hP : u.heap.size ≤ P) (dj : ∀ b, (Value.slice a0 l.length c0).ownBlock = some b → b ≠ gm) (ap : ∀ b, ((Value.slice a0 l.length c0).ownBlock = some b ∨ b = gm) → b < P ∨ gl < b)
    (hy : ∀ b, b ≠ w.heap.size → y.heap[b]? = x.heap[b]?) : WnO y w.heap.size ⟨l, List.replicate l.length false, [prOne 0 0 0 [⟨#[]⟩]], [btOne 0 0 0 [⟨#[]⟩]], 1⟩ a0 (some ⟨gm, 0, none⟩) (some ⟨gp, 0, none⟩) (some ⟨gl, 0, none⟩) := by
  have HV2 := own_high HV (w' := y) fun b hb => hy b (by omega)
  have HR2 := HR.of_block (hy gm (by omega))
  have HP2 := one_high HP (w' := y) fun b hb _ => hy b (by omega)
  have hob : ∀ b, InBlock a0 l.length b → (Value.slice a0 l.length c0).ownBlock = some b := fun b ⟨_, o, s, e⟩ => by rw [e]; rfl
  have hom : ∀ b, InI (some ⟨gm, 0, none⟩) (List.replicate l.length false).length b → b = gm := fun b ⟨_, o, s, e⟩ => by simp only [Option.some.injEq, Addr.mk.injEq] at e; exact e.1.symm
  refine ⟨strs_own5 HV2 (fun s hs => by have := hz s hs; unfold maxLen; omega), (rowAt_own HV2).mono (by omega), bools_rep HR2, ?_, fun b h1 h2 => dj b (hob b h1) (hom b h2), .inr ⟨gp, cp, gl, cl, P, rfl, rfl, rfl, rfl, by omega, HP2, fun b hb => ap b (hb.imp (hob b) (hom b))⟩⟩
  by_cases h0 : l.length = 0
  · exact .inl (by show (List.replicate l.length false).length = 0; rw [List.length_replicate]; exact h0)
  · exact .inr ⟨gm, l.length, _, rfl, by omega, by show (List.replicate l.length false).length ≤ _; rw [List.length_replicate]; exact Nat.le_refl _, HR2⟩
/-- The like of the specification, read alone. -/
theorem spart_high {w w' : World} {P : Nat} {id ep : Int} {gp cp gl cl : Nat} (h : SPart P w id ep gp cp gl cl) (hs : ∀ b, P ≤ b → w'.heap[b]? = w.heap[b]?) : SPart P w' id ep gp cp gl cl := by
  obtain ⟨gw, cw, g, c, h1, h2, h3, h4, h5⟩ := h
  exact ⟨gw, cw, g, c, own_high h1 hs, own_high h2 hs, own_high h3 hs, (World.cell?_of_block (a := ⟨g, 0, none⟩) (hs g h5)).trans h4, h5⟩
theorem wn_closeS {w u x y : World} {l : List ByteArray} {a0 : Option Addr} {c0 gm gp cp gl cl P : Nat} (hu : w.heap.size < u.heap.size) (HV : x.ownsRow u.heap.size 9 1 (.slice a0 l.length c0) l.length (strVals l)) (hz : ∀ s, s ∈ l → s.size ≤ 20)
    (HR : x.rowIs gm 4 l.length (fun _ => .bool false)) (hgm : u.heap.size ≤ gm) (HP : SPart P x 0 0 gp cp gl cl) (hP : u.heap.size ≤ P)
    (hy : ∀ b, b ≠ w.heap.size → y.heap[b]? = x.heap[b]?) : WnR y ⟨l, List.replicate l.length false, [prOne 0 0 0 [⟨#[]⟩]], [btOne 0 0 0 [⟨#[]⟩]], 1⟩ a0 (some ⟨gm, 0, none⟩) (some ⟨gp, 0, none⟩) (some ⟨gl, 0, none⟩) := by
  have HV2 := own_high HV (w' := y) fun b hb => hy b (by omega)
  have HR2 := HR.of_block (hy gm (by omega))
  have HP2 := (spart_high HP (w' := y) fun b hb => hy b (by omega)).out
  exact ⟨strs_own5 HV2 (fun s hs => by have := hz s hs; unfold maxLen; omega), bools_rep HR2, HP2.1, HP2.2⟩
theorem srcZ_strs {w : World} {a : Option Addr} {zs : List ByteArray} (c : Nat) (h : Strs w a zs) : SrcZ w (.slice a zs.length c) zs.length 1 (strVals zs) := by
  have := srcZ_flat (C := fun z : ByteArray => [Value.string z]) (s := 1) (fun _ => rfl) (by decide) (fun x u hu => by simp at hu; subst hu; rfl) (w := w) (a := a) c (xs := zs) fun i z hi => by
    obtain ⟨k, o, e, hc, -⟩ := h i z hi
    refine ⟨k, o, e, fun r u hu => ?_⟩
    match r, hu with
    | 0, hu => simp at hu; subst hu; simpa using hc
    | r + 1, hu => simp at hu
  have e : ∀ l : List ByteArray, l.flatMap (fun z : ByteArray => [Value.string z]) = strVals l := fun l => by
    induction l with
    | nil => rfl
    | cons z r ih => rw [List.flatMap_cons, ih]; rfl
  rwa [e] at this

set_option maxRecDepth 100000 in
set_option maxHeartbeats 4000000 in
theorem specNewPart_own (HA : AskC) (w : World) : Calls Try.prog 18 #[] w fun r w' => ∃ gp cp gl cl, r = .returned (.agg #[.slice (some ⟨gp, 0, none⟩) 1 cp, .slice (some ⟨gl, 0, none⟩) 1 cl, .int .i64 1]) ∧ SPart w.heap.size w' 0 0 gp cp gl cl ∧ Below w.heap.size w w' := by
  go_enter Try.func18, Try.ntmps18
  go_wp2_with fail
  refine (l5First_any _).mono ?_
  rintro r w1 ⟨g, rfl, hst, hB1⟩
  have hs : w1.cell? ⟨g, 0, none⟩ = some (.string ⟨#[]⟩) := by
    obtain ⟨b, o, e, hc, -⟩ := hst 0 ⟨#[]⟩ rfl
    simp only [Option.some.injEq, Addr.mk.injEq, and_true] at e
    obtain ⟨rfl, rfl⟩ := e
    exact hc
  have l1 := hB1.size
  simp only [World.size_alloc] at l1
  have BB := st5 (al5 w _) hB1
  have r0 : w1.cell? ⟨w.heap.size, 0, none⟩ = some (.slice none 0 0) := cel5 hB1 (by simp [go_sem])
  have r1 : w1.cell? ⟨w.heap.size, 1, none⟩ = some (.slice none 0 0) := cel5 hB1 (by simp [go_sem])
  have r2 : w1.cell? ⟨w.heap.size, 2, none⟩ = some (.int .i64 0) := cel5 hB1 (by simp [go_sem])
  have f0 : ∀ o, w1.frozen? ⟨w.heap.size, o, none⟩ = false := fun o => fz5 hB1 (by simp) (by simp [go_sem])
  clear hB1 hst
  go_wp2_with fail
  refine (l5Rebuild_one HA _ _ g 1 _ ?c0 ?c1 ?c2 ?c3 ?c4 (cel5 (al5 _ _) hs)).mono ?_
  case c0 => simp [go_sem]
  case c1 => simp [go_sem]
  case c2 => simp [go_sem]
  case c3 => simp [go_sem]
  case c4 => simp [go_sem]
  rintro r w2 ⟨gp, cp, gl, cl, rfl, hO, hB2⟩
  have l2 := hB2.size
  simp only [World.size_alloc] at l2 hO
  replace r0 := cel5 hB2 (cel5 (al5 _ _) r0)
  replace r1 := cel5 hB2 (cel5 (al5 _ _) r1)
  replace r2 := cel5 hB2 (cel5 (al5 _ _) r2)
  replace f0 : ∀ o, w2.frozen? ⟨w.heap.size, o, none⟩ = false := fun o => fz5 hB2 (by simp; omega) (fz5 (al5 _ _) (by omega) (f0 o))
  replace BB := st5 (st5 BB (al5 _ _)) hB2
  have HO : Hid (SPart (w.heap.size + 1) w2 0 0 gp cp gl cl) := hO.mono (by omega)
  clear hO hB2 hs
  have r0a : ∀ o, (w2.alloc o).cell? ⟨w.heap.size, 0, none⟩ = some (.slice none 0 0) := fun o => cel5 (al5 _ o) r0
  have r1a : ∀ o, (w2.alloc o).cell? ⟨w.heap.size, 1, none⟩ = some (.slice none 0 0) := fun o => cel5 (al5 _ o) r1
  have r2a : ∀ o, (w2.alloc o).cell? ⟨w.heap.size, 2, none⟩ = some (.int .i64 0) := fun o => cel5 (al5 _ o) r2
  have f0a : ∀ o q, (w2.alloc o).frozen? ⟨w.heap.size, q, none⟩ = false := fun o q => fz5 (al5 _ o) (by omega) (f0 q)
  have HOO : Hid (∀ x, SPart (w.heap.size + 1) (w2.alloc x) 0 0 gp cp gl cl) := fun x => HO.out.below (al5 _ _)
  have BBB : ∀ x, Below w.heap.size w (w2.alloc x) := fun x => st5 BB (al5 _ _)
  clear r0 r1 r2 f0 BB HO
  go_wp2
  have HF := fun x a b c => (((HOO.out x).set (k := w.heap.size) (o := 0) (x := a) (by omega)).set (k := w.heap.size) (o := 1) (x := b) (by omega)).set (k := w.heap.size) (o := 2) (x := c) (by omega)
  refine bodyPost_ret (v := .agg #[.slice (some ⟨gp, 0, none⟩) 1 cp, .slice (some ⟨gl, 0, none⟩) 1 cl, .int .i64 1]) (by simp [results, Try.results18, go_sem, r0a, r1a, r2a]) rfl ⟨gp, cp, gl, cl, rfl, ?_, ?_⟩
  · exact (HF _ _ _ _).mono (by omega)
  · exact (((BBB _).setCell (Nat.le_refl _) _).setCell (Nat.le_refl _) _).setCell (Nat.le_refl _) _

end Go.Proofs.Ytbgjjeecfbdaeaa
