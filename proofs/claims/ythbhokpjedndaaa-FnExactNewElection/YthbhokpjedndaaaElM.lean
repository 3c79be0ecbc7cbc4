/-
  Elections in plain mathematics: last terms, up to date, good servers, letters, votes and elections.
-/
import Derived.Test.YthbhokpjedndaaaElc
import Derived.Test.YthbhokpjedndaaaGnM
namespace Go.Proofs.Ythbhokpjedndaaa
open Go.RowKit

def lastZ (l : List Int) : Int := if l.length = 0 then -1 else zA l (l.length - 1)
def upZ (last long : Int) (l : List Int) : Bool := decide (lastZ l < last) || (decide (last = lastZ l) && decide ((l.length : Int) ≤ long))

def okSv (n : Nat) (x : Sv) : Bool :=
  inB x.term 0 100 && ((decide (x.voted = -1) || thB n x.voted) && (!(x.stands && x.leads) && (goodE x.log && (if (x.stands || x.leads) = true then riseB x.got n else decide (x.got.length = 0)))))

def svA (l : List Sv) (i : Nat) : Sv := l.getD i ⟨0, 0, false, false, [], []⟩
theorem svA_some {l : List Sv} {k : Nat} {z : Sv} (h : l[k]? = some z) : svA l k = z := by simp [svA, List.getD_eq_getElem?_getD, h]
theorem svA_get {l : List Sv} {k : Nat} (h : k < l.length) : l[k]? = some (svA l k) := by simp [svA, List.getD_eq_getElem?_getD, List.getElem?_eq_getElem h]

def okLt (svs : List Sv) (m : Lt) : Bool :=
  thB svs.length m.to && (thB svs.length m.fr && (!decide (m.to = m.fr) && (inB m.term 0 (svA svs m.fr.toNat).term && (if m.asks = true then !m.grant && (inB m.last (-1) 100 && inB m.long 0 30) else decide (m.last = 0) && decide (m.long = 0)))))

def okVt (n : Nat) (v : Vt) : Bool := inB v.term 0 100 && thB n v.ldr

def goodEl (s : El) : Bool :=
  s.svs.all (okSv s.svs.length) && (s.post.all (okLt s.svs) && (s.led.all (okVt s.svs.length) && (inB s.svs.length 1 5 && (decide (s.post.length ≤ 20) && decide (s.led.length ≤ 80)))))

end Go.Proofs.Ythbhokpjedndaaa
