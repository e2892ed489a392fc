/- NeedlessStrokes: both functions at every list, and the law's walk. No condition but the lists' and the texts' lengths. -/
import Derived.Test.YtohmodjigneldaaNeedless2
import Derived.Test.YtohmodjigneldaaMarkS
namespace Go.Proofs.Ytohmodjigneldaa
open Go.RowKit

def resN (s : ByteArray) (L : List Strk) : List Int := if (okFence s && okList s.size L) = true then needJ s L L.length else []
theorem resN_len (s : ByteArray) (L : List Strk) : (resN s L).length ≤ L.length := by
  unfold resN
  split
  · exact needJ_len s L _
  · exact Nat.zero_le _
/-- a row stays what it is while another one is written -/
theorem own_apart {w w' : World} {b n size : Nat} {e : TypeId} {v : Value} {xs : List Value} {row : Option Nat} (h : w.ownsRow b e size v n xs) (hg : w.grownBy w' row) (hv : ∀ k, v.ownBlock = some k → row ≠ some k) : w'.ownsRow b e size v n xs := by
  refine h.kept hg ?_
  rcases hk : v.ownBlock with _ | k
  · exact .inl rfl
  · exact .inr (Ne.symm (hv k hk))

theorem ints_mono {w : World} {b b' : Nat} {e : TypeId} {v : Value} {zs : List Int} (h : OwnInts w b e v zs) (hb : b' ≤ b) : OwnInts w b' e v zs := by
  refine ⟨h.1, ?_⟩
  rcases h.2 with hn | ⟨g, cap, cur, rfl, h1, rest⟩
  · exact .inl hn
  · exact .inr ⟨g, cap, cur, rfl, Nat.le_trans hb h1, rest⟩
theorem own_made {w : World} {B g n c size : Nat} {e : TypeId} {xs : List Value} (h : w.ownsRow B e size (.slice (some ⟨g, 0, none⟩) n c) n xs) : g + 1 ≤ w.heap.size := (World.ownsRow.lt h g rfl).2
theorem ints_before {w w' : World} {b d P n c : Nat} {e : TypeId} {v : Value} {zs : List Int} (h : OwnInts w b e v zs) (hg : w.grownBy w' (Value.slice (some ⟨P, 0, none⟩) n c).ownBlock) (hl : ∀ k, v.ownBlock = some k → d ≤ k ∧ k < P) : OwnInts w' b e v zs :=
  own_apart h hg fun k hk e => by have h1 := (hl k hk).2; injection e with e; have e2 : P = k := e; omega
theorem ints_behind {w w' : World} {P n c : Nat} {e : TypeId} {v : Value} {zs : List Int} (h : OwnInts w (P + 1) e v zs) (hg : w.grownBy w' (Value.slice (some ⟨P, 0, none⟩) n c).ownBlock) : OwnInts w' (P + 1) e v zs :=
  own_apart h hg fun k hk e => by have h1 := (World.ownsRow.lt h k hk).1; injection e with e; have e2 : P = k := e; omega
theorem ints_apart2 {w w' : World} {b d P : Nat} {e e' : TypeId} {v v' : Value} {zs zs' : List Int} (h : OwnInts w b e v zs) (h' : OwnInts w (P + 1) e' v' zs') (hg : w.grownBy w' v'.ownBlock) (hl : ∀ k, v.ownBlock = some k → d ≤ k ∧ k < P) : OwnInts w' b e v zs :=
  own_apart h hg fun k hk e => by have h1 := (hl k hk).2; have h2 := (World.ownsRow.lt h' k e).1; omega
theorem below_mark1 {W w w' : World} {P n c : Nat} (h : Below W.heap.size W w) (hP : W.heap.size ≤ P) (hg : w.grownBy w' (Value.slice (some ⟨P, 0, none⟩) n c).ownBlock) : Below W.heap.size W w' :=
  h.grown hg h.size fun k hk => by injection hk with hk; have e2 : P = k := hk; omega
theorem below_mark2 {W w w' : World} {P : Nat} {e : TypeId} {v : Value} {zs : List Int} (h : Below W.heap.size W w) (hP : W.heap.size ≤ P) (ho : OwnInts w (P + 1) e v zs) (hg : w.grownBy w' v.ownBlock) : Below W.heap.size W w' :=
  h.grown hg h.size fun k hk => by have := (World.ownsRow.lt ho k hk).1; omega

end Go.Proofs.Ytohmodjigneldaa
