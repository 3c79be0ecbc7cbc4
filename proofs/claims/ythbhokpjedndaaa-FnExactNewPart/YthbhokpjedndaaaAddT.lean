/-
  impl.addTexts to no text: the same texts, in memory of the call's own. And slices.Insert of one producer into none.
-/
import Derived.Test.YthbhokpjedndaaaNewI
import Derived.Test.YthbhokpjedndaaaCloneP
namespace Go.Proofs.Ythbhokpjedndaaa
open Go.RowKit

theorem ownForm {w : World} {B : Nat} {e : TypeId} {size : Nat} {v : Value} {n : Nat} {xs : List Value} (h : w.ownsRow B e size v n xs) : ∃ a cap, v = .slice a n cap := by
  obtain ⟨-, ⟨rfl, rfl⟩ | ⟨g, cap, cur, rfl, -⟩⟩ := h
  · exact ⟨none, 0, rfl⟩
  · exact ⟨_, cap, rfl⟩

theorem strVals_app (xs ys : List ByteArray) : strVals (xs ++ ys) = strVals xs ++ strVals ys := by simp [strVals]

/-- While texts are gathered. -/
structure TxSt (w wr : World) (v : Value) (ss : List ByteArray) : Prop where
  own : wr.ownsRow w.heap.size 9 1 v ss.length (strVals ss)
  bel : Below w.heap.size w wr

theorem tx_start (w : World) : TxSt w w (.slice none 0 0) [] := ⟨World.ownsRow_nil _ _ _ _, Below.refl _ _⟩

theorem tx_below {w wr u : World} {v : Value} {ss : List ByteArray} (h : TxSt w wr v ss) (hb : Below wr.heap.size wr u) : TxSt w u v ss :=
  ⟨owns_below h.own hb, h.bel.trans (hb.mono h.bel.size)⟩

theorem tx_step {w u w6 : World} {v : Value} {ss : List ByteArray} {s : ByteArray} {g2 cap2 : Nat} (h : TxSt w u v ss)
    (hgrow : u.grownBy w6 v.ownBlock) (hown : w6.ownsRow w.heap.size 9 1 (.slice (some ⟨g2, 0, none⟩) (ss.length + 1) cap2) (ss.length + 1) (strVals ss ++ [.string s])) :
    TxSt w w6 (.slice (some ⟨g2, 0, none⟩) (ss.length + 1) cap2) (ss ++ [s]) := by
  refine ⟨?_, h.bel.grown hgrow (by have := h.bel.size; omega) (fun k hk => (h.own.lt k hk).1)⟩
  rw [strVals_app, List.length_append, List.length_singleton]
  exact hown

set_option maxRecDepth 100000 in
set_option maxHeartbeats 2000000 in
theorem addTexts_new (a : Option Addr) (c : Nat) (ss : List ByteArray) (w : World) (hs : Strs w a ss) (hl : ss.length ≤ 8) (hz : ∀ s, s ∈ ss → s.size ≤ 20) :
    Calls Try.prog 73 #[.slice none 0 0, .slice a ss.length c] w fun r w' => ∃ v, r = .returned v ∧ TxSt w w' v ss := by
  obtain ⟨i0, hi, hz0, hz1, hz2⟩ := info_parts Try.infoString
  go_enter Try.func73, Try.ntmps73
  go_wp2
  go_loopw [0, 9] (fun v i wr => ∃ k : Nat, k ≤ ss.length ∧ i = .int .i64 (k : Int) ∧ TxSt w wr v (ss.take k)) (fun _ i _ => ss.length - (intOf i).toNat)
  case atStart => exact ⟨0, Nat.zero_le _, rfl, tx_start w⟩
  case round =>
    obtain ⟨k, hk, rfl, hst⟩ := hrel
    by_cases hlt : k < ss.length
    · obtain ⟨s, hks⟩ := getAt hlt
      obtain ⟨b, off, rfl, hc, hm⟩ := (hs.below hst.bel) k s hks
      have hlen : (ss.take k).length = k := by rw [List.length_take]; omega
      have HT : Hid (ss.take (k + 1) = ss.take k ++ [s]) := take_snoc hks
      have hzs : s.size ≤ 100000 := by have := hz s (List.mem_of_getElem? hks); omega
      obtain ⟨xs, hx⟩ : ∃ xs, ss.take k = xs := ⟨_, rfl⟩
      rw [hx] at hst hlen HT
      have hxl : xs.length ≤ 8 := by omega
      clear hlen
      obtain ⟨av, cv, rfl⟩ := ownForm hst.own
      have HST : Hid (TxSt w wr (.slice av xs.length cv) xs) := hst
      clear hs hks hst hx
      go_wp2_with fail
      refine (clone_any _ _ hzs).mono ?_
      rintro e w2 ⟨rfl, hB2⟩
      have hst2 : ∀ o, TxSt w (w2.alloc o) (.slice av xs.length cv) xs := fun o => tx_below (tx_below HST.out hB2) (al5 _ o)
      have hsz : w.heap.size ≤ w2.heap.size := (tx_below HST.out hB2).bel.size
      have HST2 : Hid (∀ o, TxSt w (w2.alloc o) (.slice av xs.length cv) xs) := hst2
      clear hB2 hc HST hst2
      go_wp2_with (at_builtin; refine wpList_append_lies _ rfl _ _ 46 rfl w.heap.size 9 i0 _ 1 16 Try.underlying46 hi hz0 hz1 hz2 rfl (by decide) (.slice av xs.length cv) xs.length (strVals xs) rfl (HST2.out _).own ⟨w2.heap.size, 0, none⟩ 1 1 [.string s] rfl rfl ?c1 ?c2 (by omega) ?c3 ?c4 ?c5 (w2.heap.size + 1) ?c6 ?_)
      case c1 => exact World.news_of_block (cs := #[.string s]) (t := 9) (fr := (0, 0)) (by first | exact (heap_alloc_new w2 _) | simpa using (heap_alloc_new w2 _))
      case c2 => simp [Value.oneCell']
      case c3 => unfold maxLen; omega
      case c4 => omega
      case c5 => simp; omega
      case c6 => simp
      intro g4 cap4 w4 hown4 hgrow hat4 _
      have HS4 : Hid (TxSt w w4 (.slice (some ⟨g4, 0, none⟩) (xs.length + 1) cap4) (xs ++ [s])) := tx_step (HST2.out _) hgrow hown4
      clear hown4 hgrow hat4 HST2
      go_wp2_with fail
      go_roundw
      case rel => exact ⟨k + 1, by omega, by go_num, by rw [HT.out]; exact HS4.out⟩
      case measure => simp [intOf]; omega
    · have e : ss.take k = ss := List.take_of_length_le (by omega)
      rw [e] at hst
      go_wp2
      go_ret
      exact ⟨_, rfl, hst⟩

set_option maxRecDepth 100000 in
set_option maxHeartbeats 2000000 in
theorem insert_nil (g : Nat) (x0 x1 x2 x3 : Value) (w : World) (hg : w.heap[g]? = some (.cells #[x0, x1, x2, x3] 84 (0, 0))) (h1 : ∀ u ∈ [x0, x1, x2, x3], u.oneCell' = true) :
    Calls Try.prog 72 #[.slice none 0 0, .int .i64 0, .slice (some ⟨g, 0, none⟩) 1 1] w fun r w' => ∃ g2 cap2, r = .returned (.slice (some ⟨g2, 0, none⟩) 1 cap2) ∧ w'.ownsRow w.heap.size 84 4 (.slice (some ⟨g2, 0, none⟩) 1 cap2) 1 [x0, x1, x2, x3] ∧ g2 = w.heap.size ∧ Below w.heap.size w w' := by
  obtain ⟨i0, hi, hz0, hz1, hz2⟩ := info_parts Try.infoProducer
  have HG : Hid (w.heap[g]? = some (.cells #[x0, x1, x2, x3] 84 (0, 0))) := hg
  clear hg
  go_enter Try.func72, Try.ntmps72
  go_wp2_with (at_builtin; refine wpList_append_lies _ rfl _ _ 22 rfl w.heap.size 84 i0 _ 4 48 Try.underlying22 hi hz0 hz1 hz2 rfl (by decide) (.slice none 0 0) 0 [] rfl (World.ownsRow_nil _ _ _ _) ⟨g, 0, none⟩ 1 1 [x0, x1, x2, x3] rfl rfl ?c1 ?c2 (by omega) ?c3 ?c4 ?c5 w.heap.size ?c6 ?_)
  case c1 => exact World.news_of_block (cs := #[x0, x1, x2, x3]) (t := 84) (fr := (0, 0)) HG.out
  case c2 => exact h1
  case c3 => unfold maxLen; omega
  case c4 => omega
  case c5 => exact Nat.le_refl _
  case c6 => rfl
  intro g4 cap4 w4 hown4 hgrow hat4 _
  have hB4 : Below w.heap.size w w4 := (Below.refl _ _).grown hgrow (Nat.le_refl _) (fun k hk => by simp [Value.ownBlock] at hk)
  have hg4 : g4 = w.heap.size := by simpa [Value.ownBlock] using hat4
  have HO : Hid (w4.ownsRow w.heap.size 84 4 (.slice (some ⟨g4, 0, none⟩) 1 cap4) 1 [x0, x1, x2, x3]) := hown4
  clear hown4 hgrow hat4
  go_wp2
  go_ret
  exact ⟨g4, cap4, rfl, HO.out, hg4, hB4⟩

end Go.Proofs.Ythbhokpjedndaaa
