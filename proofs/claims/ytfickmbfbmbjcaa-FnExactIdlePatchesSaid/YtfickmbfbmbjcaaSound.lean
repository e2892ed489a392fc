/- Sound parts of a yard: 'impl.soundParts'. No condition but the text's length. -/
import Derived.Test.YtfickmbfbmbjcaaBrok
namespace Go.Proofs.Ytfickmbfbmbjcaa
open Go.RowKit

/-- whether the board before is sound -/
def onS (s : ByteArray) (k : Nat) : Bool := decide (0 < k) && !isX s (k - 1)
/-- the sound parts of the first boards -/
def sndL (s : ByteArray) : Nat → List (Nat × Nat)
  | 0 => []
  | k + 1 => if isX s k = true then sndL s k else if onS s k = true then (sndL s k).dropLast ++ [(((sndL s k).getLastD (0, 0)).1, k)] else sndL s k ++ [(k, k)]
theorem snd_x {s : ByteArray} {k : Nat} (h : isX s k = true) : sndL s (k + 1) = sndL s k := by
  show (if _ then _ else _) = _; rw [if_pos h]
theorem snd_new {s : ByteArray} {k : Nat} (h : isX s k = false) (h2 : onS s k = false) : sndL s (k + 1) = sndL s k ++ [(k, k)] := by
  show (if _ then _ else _) = _; rw [if_neg (by rw [h]; decide), if_neg (by rw [h2]; decide)]
theorem snd_on' {s : ByteArray} {k : Nat} (h : isX s k = false) (h2 : onS s k = true) {P : List (Nat × Nat)} {p : Nat × Nat} (e : sndL s k = P ++ [p]) : sndL s (k + 1) = P ++ [(p.1, k)] := by
  show (if _ then _ else _) = _; rw [if_neg (by rw [h]; decide), if_pos h2, e]; simp
theorem snd_last (s : ByteArray) : ∀ k, onS s k = true → ∃ P a, sndL s k = P ++ [(a, k - 1)] ∧ a < k
  | 0, h => by unfold onS at h; simp at h
  | k + 1, h => by
    have hx : isX s k = false := by unfold onS at h; simpa using h
    cases h2 : onS s k
    · exact ⟨_, _, snd_new hx h2, by omega⟩
    · obtain ⟨P, a, e, ha⟩ := snd_last s k h2
      exact ⟨P, a, snd_on' hx h2 e, by omega⟩
theorem snd_on {s : ByteArray} {k : Nat} (h : isX s k = false) (h2 : onS s k = true) : ∃ P a, sndL s k = P ++ [(a, k - 1)] ∧ sndL s (k + 1) = P ++ [(a, k)] ∧ a < k := by
  obtain ⟨P, a, e, ha⟩ := snd_last s k h2
  exact ⟨P, a, e, snd_on' h h2 e, ha⟩
theorem snd_bd (s : ByteArray) : ∀ k, (sndL s k).length ≤ k ∧ ∀ p ∈ sndL s k, p.1 ≤ p.2 ∧ p.2 < k
  | 0 => ⟨Nat.le_refl _, fun p h => by cases h⟩
  | k + 1 => by
    obtain ⟨h1, h2⟩ := snd_bd s k
    cases hx : isX s k
    · cases ho : onS s k
      · rw [snd_new hx ho]
        refine ⟨by rw [List.length_append, List.length_singleton]; omega, fun p hp => ?_⟩
        rcases List.mem_append.1 hp with hp | hp
        · have := h2 p hp; omega
        · rw [List.mem_singleton.1 hp]; exact ⟨Nat.le_refl _, Nat.lt_succ_self _⟩
      · obtain ⟨P, a, e, e2, ha⟩ := snd_on hx ho
        rw [e] at h1 h2
        rw [e2]
        refine ⟨by rw [List.length_append, List.length_singleton] at h1 ⊢; omega, fun p hp => ?_⟩
        rcases List.mem_append.1 hp with hp | hp
        · have := h2 p (List.mem_append_left _ hp); omega
        · rw [List.mem_singleton.1 hp]; exact ⟨by show a ≤ k; omega, Nat.lt_succ_self _⟩
    · rw [snd_x hx]
      exact ⟨by omega, fun p hp => by have := h2 p hp; omega⟩
theorem onS_zero (s : ByteArray) : onS s 0 = false := rfl
theorem onS_succ (s : ByteArray) (j : Nat) : onS s (j + 1) = !isX s j := by unfold onS; simp

/-- the cells of a list of stretches -/
def pairC (P : List (Nat × Nat)) : List Value := P.flatMap fun p => [.int .i64 p.1, .int .i64 p.2]
theorem pairC_snoc (P : List (Nat × Nat)) (p : Nat × Nat) : pairC (P ++ [p]) = pairC P ++ [.int .i64 p.1, .int .i64 p.2] := by unfold pairC; rw [List.flatMap_append]; simp
theorem pairC_len : ∀ P : List (Nat × Nat), (pairC P).length = P.length * 2
  | [] => rfl
  | p :: P => by
    have := pairC_len P
    show ([Value.int .i64 p.1, .int .i64 p.2] ++ pairC P).length = (P.length + 1) * 2
    rw [List.length_append, this]; simp; omega
theorem pairC_at (P : List (Nat × Nat)) {j : Nat} (h : j < P.length) : (pairC P)[j * 2]? = some (.int .i64 P[j].1) ∧ (pairC P)[j * 2 + 1]? = some (.int .i64 P[j].2) := by
  have e : P = P.take j ++ [P[j]] ++ P.drop (j + 1) := by
    rw [← List.take_succ_eq_append_getElem h, List.take_append_drop]
  have e2 : pairC P = pairC (P.take j) ++ ([.int .i64 P[j].1, .int .i64 P[j].2] ++ pairC (P.drop (j + 1))) := by
    conv => lhs; rw [e]
    unfold pairC
    rw [List.flatMap_append, List.flatMap_append, List.append_assoc]; simp
  have hl : (pairC (P.take j)).length = j * 2 := by rw [pairC_len, List.length_take]; congr 1; omega
  rw [e2]
  constructor
  · rw [List.getElem?_append_right (by omega), hl, Nat.sub_self]; rfl
  · rw [List.getElem?_append_right (by omega), hl, show j * 2 + 1 - j * 2 = 1 by omega]; rfl
theorem pairC_last (P : List (Nat × Nat)) (a b c : Nat) : (pairC (P ++ [(a, b)])).set (P.length * 2 + 1) (.int .i64 c) = pairC (P ++ [(a, c)]) := by
  rw [pairC_snoc, pairC_snoc, List.set_append_right _ _ (by rw [pairC_len]; omega), pairC_len, show P.length * 2 + 1 - P.length * 2 = 1 by omega]; rfl
/-- a list of stretches that the call itself has made -/
def OwnP (w : World) (base : Nat) (v : Value) (P : List (Nat × Nat)) : Prop := w.ownsRow base 65 2 v P.length (pairC P)
theorem info_st : (Try.prog.info? 65).map (fun i => (i.zero, i.size, i.bytes)) = some (some (.agg #[.int .i64 0, .int .i64 0]), 2, 16) := by kernel_rfl
theorem OwnP.nil (w : World) (base : Nat) : OwnP w base (.slice none 0 0) [] := World.ownsRow_nil w base _ 2
theorem OwnP.snoc {w : World} {base : Nat} {v : Value} {P : List (Nat × Nat)} {a b : Nat} (h : w.ownsRow base 65 2 v (P.length + 1) (pairC P ++ [.int .i64 a, .int .i64 b])) : OwnP w base v (P ++ [(a, b)]) := by
  unfold OwnP
  rw [List.length_append, List.length_singleton, pairC_snoc]
  exact h
theorem ownP_iterAt {w : World} {B : Nat} {v : Value} {P : List (Nat × Nat)} (h : OwnP w (B + 1) v P) (s : ByteArray) (k : Nat) : OwnP (w.iterAt B s k) (B + 1) v P :=
  own_apart h (grown_iterAt w B s k) fun i hi e => by
    have := World.ownsRow.lt h i hi
    injection e with e
    omega

set_option maxRecDepth 20000 in
set_option maxHeartbeats 4000000 in
theorem soundParts_any (s : ByteArray) (w : World) (hy : okYard s = true) :
    Calls Try.prog 86 #[.string s] w fun e w' => ∃ v, e = .returned v ∧ OwnP w' w.heap.size v (sndL s s.size) ∧ Below w.heap.size w w' := by
  obtain ⟨i0, hi, hz0, hz1, hz2⟩ := info_parts info_st
  obtain ⟨s1, s30⟩ := okYard_size hy
  have HA := Lib.hid (okYard_at hy)
  have HXN := Lib.hid fun (k : Nat) (h1 : k < s.size) (h2 : isX s k = false) => isX_byteN hy h1 h2
  clear hy
  go_enter Try.func86, Try.ntmps86
  go_wp2
  go_loopw [3] (fun v wr => ∃ k : Nat, k ≤ s.size ∧ wr.heap[w.heap.size]? = some (.stringIter s k) ∧ OwnP wr (w.heap.size + 1) v (sndL s k) ∧ Below w.heap.size w wr) (fun _ wr => s.size - wr.iterPos w.heap.size)
  case atStart => exact ⟨0, Nat.zero_le _, World.iter_heap _ _ _, OwnP.nil _ _, below_iter _ _ _⟩
  case round =>
    obtain ⟨k, hk, hit, hown, hb⟩ := hrel
    have hpos := iterPos_at hit
    have HO := Lib.hid hown
    have HO1 := Lib.hid (ownP_iterAt hown s (k + 1))
    have hbs := hb.size
    clear hown
    by_cases hp : k < s.size
    · have h128 := yB_128 (HA.out k hp)
      have hnx : ∀ ty, (Instr.next (.pointer (some ⟨w.heap.size, 0, none⟩)) true ty).run Try.prog wr = _ := fun ty => Go.Lib.run_next_ascii_at wr w.heap.size s k ty hit hp h128
      have HB1 := Lib.hid (below_iterAt hb (Nat.le_refl _) s (k + 1))
      have HI1 : Hid ((wr.iterAt w.heap.size s (k + 1)).heap[w.heap.size]? = some (.stringIter s (k + 1))) := Lib.hid (Go.Lib.iterAt_heap wr w.heap.size s k (k + 1) hit)
      obtain ⟨wi, hwi⟩ : ∃ wi, wi = wr.iterAt w.heap.size s (k + 1) := ⟨_, rfl⟩
      rw [← hwi] at HO1 HB1 HI1 hnx
      have hbi := HB1.out.size
      have hlt1 := (Array.getElem?_eq_some_iff.1 HI1.out).1
      clear hwi HO
      have hsl := (snd_bd s k).1
      cases hx : isX s k
      · have hc := HXN.out k hp hx
        rw [hc] at hnx
        clear hc h128
        cases ho : onS s k
        · have HN := Lib.hid (snd_new hx ho)
          obtain ⟨P, hP⟩ : ∃ P, P = sndL s k := ⟨_, rfl⟩
          rw [← hP] at HO1 HN hsl
          clear hx hP
          cases k with
          | zero =>
            clear ho
            go_wp2_with (at_builtin; refine wpList_append_own _ rfl (.tmp 12) (.tmp 16) _ rfl (w.heap.size + 1) 65 i0 _ 2 16 Try.underlying69 hi hz0 hz1 hz2 rfl (by decide) _ P.length (pairC P) rfl (World.ownsRow.alloc HO1.out _) ⟨_, 0, none⟩ 1 1 [.int .i64 ((0 : Nat) : Int), .int .i64 ((0 : Nat) : Int)] rfl rfl (World.news_of_block (cs := #[.int .i64 ((0 : Nat) : Int), .int .i64 ((0 : Nat) : Int)]) (t := 65) (fr := (0, 0)) (heap_alloc_new _ _)) (by simp [Value.oneCell']) (by unfold maxLen; omega) (by omega) (by simp; omega) ?_; intro v' w3 hown' hgrow _)
            have HR : Hid (OwnP w3 (w.heap.size + 1) v' (sndL s (0 + 1))) := Lib.hid (by rw [HN.out]; exact OwnP.snoc hown')
            have HB3 : Hid (Below w.heap.size w w3) := Lib.hid ((HB1.out.alloc hbi _).grown hgrow (by simp; omega) fun k hk => by have := (World.ownsRow.lt HO1.out k hk).1; omega)
            have HI3 : Hid (w3.heap[w.heap.size]? = some (.stringIter s (0 + 1))) := Lib.hid (iter_kept (iter_alloc HI1.out _) hgrow (own_not HO1.out (Nat.lt_succ_self _)))
            clear hown' hgrow
            go_wp2
            go_roundw
            case rel => exact ⟨0 + 1, by omega, HI3.out, HR.out, HB3.out⟩
            case measure => rw [hpos, iterPos_at HI3.out]; omega
          | succ j =>
            have hj : j < s.size := by omega
            have hjx : isX s j = true := by rw [onS_succ] at ho; simpa using ho
            have hjb := isX_byte hj hjx
            have j0 : (0 : Int) ≤ (j : Int) := by omega
            have j1 : (j : Int) < (s.size : Int) := by omega
            have hz : decide (0 < (j : Int) + 1) = true := decide_eq_true (by omega)
            have HQ : Hid (OwnP = OwnP) := Lib.hid rfl
            rw [show ((j + 1 : Nat) : Int) = (j : Int) + 1 by omega] at hnx
            clear ho hjx
            go_wp2_with (at_builtin; refine wpList_append_own _ rfl (.tmp 12) (.tmp 16) _ rfl (w.heap.size + 1) 65 i0 _ 2 16 Try.underlying69 hi hz0 hz1 hz2 rfl (by decide) _ P.length (pairC P) rfl (World.ownsRow.alloc HO1.out _) ⟨_, 0, none⟩ 1 1 [.int .i64 ((j : Int) + 1), .int .i64 ((j : Int) + 1)] rfl rfl (World.news_of_block (cs := #[.int .i64 ((j : Int) + 1), .int .i64 ((j : Int) + 1)]) (t := 65) (fr := (0, 0)) (heap_alloc_new _ _)) (by simp [Value.oneCell']) (by unfold maxLen; omega) (by omega) (by simp; omega) ?_; intro v' w3 hown' hgrow _)
            have HR : Hid (OwnP w3 (w.heap.size + 1) v' (sndL s (j + 1 + 1))) := Lib.hid (by rw [HN.out]; exact OwnP.snoc hown')
            have HB3 : Hid (Below w.heap.size w w3) := Lib.hid ((HB1.out.alloc hbi _).grown hgrow (by simp; omega) fun k hk => by have := (World.ownsRow.lt HO1.out k hk).1; omega)
            have HI3 : Hid (w3.heap[w.heap.size]? = some (.stringIter s (j + 1 + 1))) := Lib.hid (iter_kept (iter_alloc HI1.out _) hgrow (own_not HO1.out (Nat.lt_succ_self _)))
            clear hown' hgrow
            go_wp2
            go_roundw
            case rel => exact ⟨j + 1 + 1, by omega, HI3.out, HR.out, HB3.out⟩
            case measure => rw [hpos, iterPos_at HI3.out]; omega
        · obtain ⟨P, a, e1, e2, ha⟩ := snd_on hx ho
          obtain ⟨j, rfl⟩ : ∃ j, k = j + 1 := ⟨k - 1, by omega⟩
          have hj : j < s.size := by omega
          have hjx : isX s j = false := by rw [onS_succ] at ho; simpa using ho
          have hjb := HXN.out j hj hjx
          rw [e1] at HO1 hsl
          rw [show j + 1 - 1 = j by omega] at HO1
          have hown := HO1.out
          unfold OwnP at hown
          rw [List.length_append, List.length_singleton] at hown hsl
          obtain ⟨g, c, rfl, hgb, hgl⟩ := own_some hown (by omega)
          have HR : Hid (OwnP (wi.setCell ⟨g, P.length * 2 + 1, none⟩ (.int .i64 ((j : Int) + 1))) (w.heap.size + 1) (.slice (some ⟨g, 0, none⟩) (P.length + 1) c) (sndL s (j + 1 + 1))) := Lib.hid (by
            have h := (hown.stored (P.length * 2 + 1) (.int .i64 ((j + 1 : Nat) : Int))).1
            rw [pairC_last] at h
            rw [e2]
            unfold OwnP
            rw [List.length_append, List.length_singleton]
            exact h)
          have HB3 : Hid (Below w.heap.size w (wi.setCell ⟨g, P.length * 2 + 1, none⟩ (.int .i64 ((j : Int) + 1)))) := Lib.hid (below_store HB1.out (by omega) _ _)
          have HI3 : Hid ((wi.setCell ⟨g, P.length * 2 + 1, none⟩ (.int .i64 ((j : Int) + 1))).heap[w.heap.size]? = some (.stringIter s (j + 1 + 1))) := Lib.hid (iter_kept HI1.out (hown.stored (P.length * 2 + 1) _).2 (by intro e; injection e with e; omega))
          have hfrz := hown.frozenAt (P.length * 2 + 1)
          have hcell := hown.cellAt (P.length * 2 + 1) (by omega)
          rw [(pairC_at (P ++ [(a, j)]) (j := P.length) (by simp)).2] at hcell
          obtain ⟨u, hu⟩ : ∃ u, u = (P ++ [(a, j)])[P.length]'(by simp) := ⟨_, rfl⟩
          rw [← hu] at hcell
          obtain ⟨D, hD⟩ : ∃ D, D = P.length := ⟨_, rfl⟩
          rw [← hD] at HR HB3 HI3 hfrz hcell hsl ⊢
          have j0 : (0 : Int) ≤ (j : Int) := by omega
          have j1 : (j : Int) < (s.size : Int) := by omega
          have hz : decide (0 < (j : Int) + 1) = true := decide_eq_true (by omega)
          have d0 : (0 : Int) ≤ (D : Int) := by omega
          rw [show ((j + 1 : Nat) : Int) = (j : Int) + 1 by omega] at hnx
          clear ho hx hjx hown hu e1 e2 HO1 hD
          go_wp2
          go_roundw
          case rel => exact ⟨j + 1 + 1, by omega, HI3.out, HR.out, HB3.out⟩
          case measure => rw [hpos, iterPos_at HI3.out]; omega
      · have HN := Lib.hid (snd_x hx)
        have hc := isX_byte hp hx
        rw [hc] at hnx
        clear hc h128 hx
        go_wp2
        go_roundw
        case rel => exact ⟨k + 1, by omega, HI1.out, by rw [HN.out]; exact HO1.out, HB1.out⟩
        case measure => rw [hpos, iterPos_at HI1.out]; omega
    · obtain rfl : k = s.size := by omega
      have hnx : ∀ ty, (Instr.next (.pointer (some ⟨w.heap.size, 0, none⟩)) true ty).run Try.prog wr = _ := fun ty => Go.Lib.run_next_end_at wr w.heap.size s s.size ty hit hp
      go_wp2
      go_ret
      exact ⟨_, rfl, own_mono HO.out (by omega), hb⟩
end Go.Proofs.Ytfickmbfbmbjcaa
