/- StartsOfLength and FewestOfLength of both sides. No condition but the text's length. -/
import Derived.Test.YtfickmbfbmbjcaaBrok
namespace Go.Proofs.Ytfickmbfbmbjcaa
open Go.RowKit Go.Lib

/-- the board behind the last patch of so many boards -/
def behd (l : Nat) (out : List Int) : Int := match out.getLast? with | none => 0 | some x => x + l
/-- a broken board that is not covered gets a patch -/
def stStep (l : Nat) (out : List Int) (b : Int) : List Int := if behd l out ≤ b then out ++ [b] else out
def stF (l : Nat) (B : List Int) : List Int := B.foldl (stStep l) []
theorem stF_snoc (l : Nat) (B : List Int) (b : Int) : stF l (B ++ [b]) = stStep l (stF l B) b := by unfold stF; rw [List.foldl_append]; rfl
theorem behd_nil (l : Nat) : behd l [] = 0 := rfl
theorem behd_snoc (l : Nat) (out : List Int) (b : Int) : behd l (out ++ [b]) = b + l := by unfold behd; rw [List.getLast?_append]; rfl
theorem behd_at (l : Nat) {out : List Int} {m : Nat} (h : out.length = m + 1) : behd l out = out[m] + l := by
  have e : out.getLast? = some out[m] := by
    rw [List.getLast?_eq_getElem?, show out.length - 1 = m by omega, List.getElem?_eq_getElem (by omega)]
  unfold behd
  rw [e]
theorem stStep_yes {l : Nat} {out : List Int} {b : Int} (h : behd l out ≤ b) : stStep l out b = out ++ [b] := by unfold stStep; rw [if_pos h]
theorem stStep_no {l : Nat} {out : List Int} {b : Int} (h : ¬ behd l out ≤ b) : stStep l out b = out := by unfold stStep; rw [if_neg h]
theorem stF_bd {l m : Nat} : ∀ (B : List Int), (∀ x ∈ B, 0 ≤ x ∧ x < m) → ∀ out : List Int, (∀ x ∈ out, 0 ≤ x ∧ x < m) → (∀ x ∈ B.foldl (stStep l) out, 0 ≤ x ∧ x < m) ∧ (B.foldl (stStep l) out).length ≤ out.length + B.length
  | [], _, out, h => ⟨h, Nat.le_refl _⟩
  | b :: B, hB, out, h => by
    have h1 : (∀ x ∈ stStep l out b, 0 ≤ x ∧ x < m) ∧ (stStep l out b).length ≤ out.length + 1 := by
      unfold stStep
      split
      · refine ⟨fun x hx => ?_, by simp⟩
        rcases List.mem_append.1 hx with hx | hx
        · exact h x hx
        · rw [List.mem_singleton.1 hx]; exact hB b (by simp)
      · exact ⟨h, by omega⟩
    have h2 := stF_bd (l := l) B (fun x hx => hB x (by simp [hx])) (stStep l out b) h1.1
    refine ⟨h2.1, ?_⟩
    show (B.foldl (stStep l) (stStep l out b)).length ≤ out.length + (B.length + 1)
    omega
theorem brkL_bd {s : ByteArray} {k : Nat} (hk : k ≤ s.size) : ∀ x ∈ brkL s k, 0 ≤ x ∧ x < s.size := fun x hx => by
  obtain ⟨i, h1, h2, _⟩ := (brkL_mem s k x).1 hx
  omega
theorem stB_bd (s : ByteArray) (l k : Nat) (hk : k ≤ s.size) : (∀ x ∈ stF l (brkL s k), 0 ≤ x ∧ x < s.size) ∧ (stF l (brkL s k)).length ≤ k := by
  have h := stF_bd (l := l) (brkL s k) (brkL_bd hk) [] (fun x hx => absurd hx (by simp))
  have := brkL_len s k
  exact ⟨h.1, Nat.le_trans h.2 (by simp; omega)⟩
theorem stF_take_bd {l m : Nat} {B : List Int} (hB : ∀ x ∈ B, 0 ≤ x ∧ x < m) (j : Nat) : (∀ x ∈ stF l (B.take j), 0 ≤ x ∧ x < m) ∧ (stF l (B.take j)).length ≤ j := by
  have h := stF_bd (l := l) (B.take j) (fun x hx => hB x (List.mem_of_mem_take hx)) [] (fun x hx => absurd hx (by simp))
  refine ⟨h.1, Nat.le_trans h.2 ?_⟩
  simp; omega
theorem take_snoc {B : List Int} {j : Nat} (h : j < B.length) : B.take (j + 1) = B.take j ++ [B[j]] := List.take_succ_eq_append_getElem h

set_option maxRecDepth 20000 in
set_option maxHeartbeats 4000000 in
theorem reStarts_any (s : ByteArray) (l : Nat) (w : World) (hs : s.size ≤ 30) (l1 : 1 ≤ l) (l2 : l ≤ 30) :
    Calls Try.prog 93 #[.string s, .int .i64 l] w fun e w' => ∃ v, e = .returned v ∧ OwnInts w' w.heap.size 3 v (stF l (brkL s s.size)) ∧ Below w.heap.size w w' := by
  obtain ⟨i0, hi, hz0, hz1, hz2⟩ := info_parts info_int
  have HRB := Lib.hid fun W => reBroken_any s W (by omega)
  have hBd : ∀ x ∈ brkL s s.size, 0 ≤ x ∧ x < (30 : Nat) := fun x hx => by have := brkL_bd (Nat.le_refl _) x hx; omega
  have hBl := brkL_len s s.size
  obtain ⟨B, hB⟩ : ∃ B, B = brkL s s.size := ⟨_, rfl⟩
  rw [← hB] at HRB hBd hBl ⊢
  have HBD := Lib.hid hBd
  clear hB hBd
  go_enter Try.func93, Try.ntmps93
  go_wp2_with fail
  refine (HRB.out _).mono ?_
  rintro e w1 ⟨vB, rfl, hoB, hb1⟩
  obtain ⟨AB, cB, rfl⟩ := OwnInts.len hoB
  have HSB := Lib.hid (IntSl.of_own hoB)
  have hb1s := hb1.size
  clear hoB
  go_wp2
  go_loopw [5, 12] (fun v i wr => ∃ j : Nat, j ≤ B.length ∧ i = .int .i64 j ∧ OwnInts wr w1.heap.size 3 v (stF l (B.take j)) ∧ Below w1.heap.size w1 wr) (fun _ i _ => B.length - (intOf i).toNat)
  case atStart => exact ⟨0, Nat.zero_le _, rfl, OwnInts.nil _ _ _, Below.refl _ _⟩
  case round =>
    obtain ⟨j, hj, rfl, hown, hb⟩ := hrel
    have hbs := hb.size
    by_cases hlt : j < B.length
    · obtain ⟨gB, oB, rfl, hgB, hat⟩ := HSB.out.some (by omega)
      have c1 := hat j hlt
      rw [← (bcell hb).1 gB (oB + j) hgB] at c1
      have hxb := HBD.out B[j] (List.getElem_mem _)
      have HT : Hid (stF l (B.take (j + 1)) = stStep l (stF l (B.take j)) B[j]) := Lib.hid (by rw [take_snoc hlt, stF_snoc])
      have hbd := stF_take_bd (l := l) HBD.out j
      obtain ⟨out, hout⟩ : ∃ out, out = stF l (B.take j) := ⟨_, rfl⟩
      rw [← hout] at hbd HT hown
      obtain ⟨x, hx⟩ : ∃ x, x = B[j] := ⟨_, rfl⟩
      rw [← hx] at c1 hxb HT
      obtain ⟨hbd, hlen⟩ := hbd
      have HBO := Lib.hid hbd
      have HO := Lib.hid hown
      clear hout hx hbd hat
      obtain ⟨A, c, rfl⟩ := OwnInts.len hown
      by_cases hc : behd l out ≤ x
      · have HN := Lib.hid (HT.out.trans (stStep_yes hc))
        rcases Nat.eq_zero_or_pos out.length with h0 | h0
        · clear hown
          go_wp2_with (at_builtin; refine wpList_append_own _ rfl (.tmp 31) (.tmp 33) _ rfl w1.heap.size 3 i0 _ 1 8 Try.underlying23 hi hz0 hz1 hz2 rfl (by decide) _ (out).length ((out).map (Value.int .i64)) rfl (World.ownsRow.alloc HO.out _) ⟨_, 0, none⟩ 1 1 [.int .i64 (x)] rfl rfl (World.news_of_block (cs := #[.int .i64 (x)]) (t := 3) (fr := (0, 0)) (by first | exact heap_alloc_new _ _ | exact heap_new_set _ _ _ _ _)) (by simp [Value.oneCell']) (by unfold maxLen; omega) (by omega) (by simp; omega) ?_; intro v' w3 hown' hgrow _)
          have HR : Hid (OwnInts w3 w1.heap.size 3 v' (stF l (B.take (j + 1)))) := Lib.hid (by rw [HN.out]; exact OwnInts.snoc hown')
          have HB3 : Hid (Below w1.heap.size w1 w3) := Lib.hid ((hb.alloc hbs _).grown hgrow (by simp; omega) fun k hk => (World.ownsRow.lt HO.out k hk).1)
          clear hown' hgrow
          go_wp2
          go_roundw
          case rel => exact ⟨j + 1, by omega, by go_num, HR.out, HB3.out⟩
          case measure => simp [intOf]; omega
        · obtain ⟨m, hm⟩ : ∃ m, out.length = m + 1 := ⟨out.length - 1, by omega⟩
          obtain ⟨g, off, rfl, hg, hat⟩ := (IntSl.of_own hown).some h0
          have c2 := hat m (by omega)
          have hy := HBO.out out[m] (List.getElem_mem _)
          rw [behd_at l hm] at hc
          have e1 : (out.length : Int) - 1 = (m : Int) := by omega
          have em : (m : Int) < (out.length : Int) := by omega
          obtain ⟨y, hyy⟩ : ∃ y, y = out[m] := ⟨_, rfl⟩
          rw [← hyy] at c2 hy hc
          have m0 : decide ((m : Int) < 0) = false := decide_eq_false (by omega)
          clear hown hat hyy
          go_wp2_with (at_builtin; refine wpList_append_own _ rfl (.tmp 31) (.tmp 33) _ rfl w1.heap.size 3 i0 _ 1 8 Try.underlying23 hi hz0 hz1 hz2 rfl (by decide) _ (out).length ((out).map (Value.int .i64)) rfl (World.ownsRow.alloc HO.out _) ⟨_, 0, none⟩ 1 1 [.int .i64 (x)] rfl rfl (World.news_of_block (cs := #[.int .i64 (x)]) (t := 3) (fr := (0, 0)) (by first | exact heap_alloc_new _ _ | exact heap_new_set _ _ _ _ _)) (by simp [Value.oneCell']) (by unfold maxLen; omega) (by omega) (by simp; omega) ?_; intro v' w3 hown' hgrow _)
          have HR : Hid (OwnInts w3 w1.heap.size 3 v' (stF l (B.take (j + 1)))) := Lib.hid (by rw [HN.out]; exact OwnInts.snoc hown')
          have HB3 : Hid (Below w1.heap.size w1 w3) := Lib.hid ((hb.alloc hbs _).grown hgrow (by simp; omega) fun k hk => (World.ownsRow.lt HO.out k hk).1)
          clear hown' hgrow
          go_wp2
          go_roundw
          case rel => exact ⟨j + 1, by omega, by go_num, HR.out, HB3.out⟩
          case measure => simp [intOf]; omega
      · have HN := Lib.hid (HT.out.trans (stStep_no hc))
        rcases Nat.eq_zero_or_pos out.length with h0 | h0
        · exfalso; apply hc; rw [List.eq_nil_of_length_eq_zero h0, behd_nil]; exact hxb.1
        · obtain ⟨m, hm⟩ : ∃ m, out.length = m + 1 := ⟨out.length - 1, by omega⟩
          obtain ⟨g, off, rfl, hg, hat⟩ := (IntSl.of_own hown).some h0
          have c2 := hat m (by omega)
          have hy := HBO.out out[m] (List.getElem_mem _)
          rw [behd_at l hm] at hc
          have e1 : (out.length : Int) - 1 = (m : Int) := by omega
          have em : (m : Int) < (out.length : Int) := by omega
          obtain ⟨y, hyy⟩ : ∃ y, y = out[m] := ⟨_, rfl⟩
          rw [← hyy] at c2 hy hc
          have m0 : decide ((m : Int) < 0) = false := decide_eq_false (by omega)
          have hc2 : decide (y + (l : Int) ≤ x) = false := decide_eq_false hc
          clear hown hat hyy
          go_wp2
          go_roundw
          case rel => exact ⟨j + 1, by omega, by go_num, by rw [HN.out]; exact HO.out, hb⟩
          case measure => simp [intOf]; omega
    · obtain rfl : j = B.length := by omega
      rw [List.take_length] at hown
      go_wp2
      go_ret
      exact ⟨_, rfl, hown.mono hb1s, below_next hb1 hb⟩

def okSt (s : ByteArray) (l : Int) : Bool := okYard s && decide (1 ≤ l ∧ l ≤ 30)
def startsR (s : ByteArray) (l : Int) : List Int := if okSt s l = true then stF l.toNat (brkL s s.size) else []
theorem okSt_at {s : ByteArray} {l : Int} (h : okSt s l = true) : okYard s = true ∧ 1 ≤ l ∧ l ≤ 30 := by
  unfold okSt at h
  rw [Bool.and_eq_true, decide_eq_true_iff] at h
  exact h
theorem startsR_len (s : ByteArray) (l : Int) : (startsR s l).length ≤ 30 := by
  unfold startsR
  split
  · next h =>
    have := okYard_size (okSt_at h).1
    have := (stB_bd s l.toNat s.size (Nat.le_refl _)).2
    omega
  · exact Nat.zero_le _

set_option maxHeartbeats 1000000 in
theorem specStartsOfLength_no (s0 : ByteArray) (a1 : Int) (w : World) (hs : s0.size ≤ maxLen) (hok : (okYard s0 && decide (1 ≤ a1 ∧ a1 ≤ 30)) = false) :
    Calls Try.prog 50 #[.string s0, .int .i64 a1] w fun e w' => e = .returned (.tuple #[.slice none 0 0, .bool false]) ∧ Below w.heap.size w w' := by
  have H0 := Lib.hid (reGood_any s0 w hs)
  have H1 := Lib.hid (l1In_any a1 1 30 w)
  cases h0 : okYard s0
  · clear hok
    rw [h0] at H0
    clear h0 H1
    go_enter Try.func50, Try.ntmps50
    go_wp2_with fail
    refine H0.out.mono ?_
    rintro e w1 ⟨rfl, rfl⟩
    go_wp2
    go_ret2
    exact ⟨rfl, Below.refl _ _⟩
  · skip
    cases h1 : decide (1 ≤ a1 ∧ a1 ≤ 30)
    · clear hok
      rw [h0] at H0
      rw [h1] at H1
      clear h0 h1
      go_enter Try.func50, Try.ntmps50
      go_wp2_with fail
      refine H0.out.mono ?_
      rintro e w1 ⟨rfl, rfl⟩
      go_wp2_with fail
      refine H1.out.mono ?_
      rintro e w1 ⟨rfl, rfl⟩
      go_wp2
      go_ret2
      exact ⟨rfl, Below.refl _ _⟩
    · rw [h0, h1] at hok; simp at hok
set_option maxHeartbeats 1000000 in
theorem specFewestOfLength_no (s0 : ByteArray) (a1 : Int) (w : World) (hs : s0.size ≤ maxLen) (hok : (okYard s0 && decide (1 ≤ a1 ∧ a1 ≤ 30)) = false) :
    Calls Try.prog 48 #[.string s0, .int .i64 a1] w fun e w' => e = .returned (.tuple #[.int .i64 0, .bool false]) ∧ Below w.heap.size w w' := by
  have H0 := Lib.hid (reGood_any s0 w hs)
  have H1 := Lib.hid (l1In_any a1 1 30 w)
  cases h0 : okYard s0
  · clear hok
    rw [h0] at H0
    clear h0 H1
    go_enter Try.func48, Try.ntmps48
    go_wp2_with fail
    refine H0.out.mono ?_
    rintro e w1 ⟨rfl, rfl⟩
    go_wp2
    go_ret2
    exact ⟨rfl, Below.refl _ _⟩
  · skip
    cases h1 : decide (1 ≤ a1 ∧ a1 ≤ 30)
    · clear hok
      rw [h0] at H0
      rw [h1] at H1
      clear h0 h1
      go_enter Try.func48, Try.ntmps48
      go_wp2_with fail
      refine H0.out.mono ?_
      rintro e w1 ⟨rfl, rfl⟩
      go_wp2_with fail
      refine H1.out.mono ?_
      rintro e w1 ⟨rfl, rfl⟩
      go_wp2
      go_ret2
      exact ⟨rfl, Below.refl _ _⟩
    · rw [h0, h1] at hok; simp at hok

set_option maxHeartbeats 1000000 in
theorem specStartsOfLength_any (s0 : ByteArray) (a1 : Int) (w : World) (hs : s0.size ≤ maxLen) (_ : (Lit.int .i64 a1).wf = true) :
    Calls Try.prog 50 #[.string s0, .int .i64 a1] w fun e w' => ∃ v, e = .returned (.tuple #[v, .bool (okSt s0 a1)]) ∧ OwnInts w' w.heap.size 3 v (startsR s0 a1) ∧ Below w.heap.size w w' := by
  unfold startsR
  cases h : okSt s0 a1
  · rw [if_neg (by decide)]
    exact (specStartsOfLength_no s0 a1 w hs h).mono fun e w' h => ⟨_, h.1, OwnInts.nil _ _ _, h.2⟩
  · rw [if_pos rfl]
    obtain ⟨hy, l1, l2⟩ := okSt_at h
    have hz := okYard_size hy
    have HY := Lib.hid fun W => reGood_any s0 W hs
    have HI := Lib.hid fun W => l1In_any a1 1 30 W
    rw [hy] at HY
    rw [decide_eq_true (show 1 ≤ a1 ∧ a1 ≤ 30 from ⟨l1, l2⟩)] at HI
    obtain ⟨l, rfl⟩ : ∃ l : Nat, a1 = l := ⟨a1.toNat, by omega⟩
    rw [Int.toNat_natCast]
    have HS := Lib.hid fun W => reStarts_any s0 l W hz.2 (by omega) (by omega)
    clear h hy
    go_enter Try.func50, Try.ntmps50
    go_wp2_with (first
      | (go_at_call 72; refine (HY.out _).mono ?_; rintro e w' ⟨rfl, rfl⟩)
      | (go_at_call 75; refine (HI.out _).mono ?_; rintro e w' ⟨rfl, rfl⟩)
      | (go_at_call 93; refine (HS.out _).mono ?_; rintro e w1 ⟨v, rfl, ho, hb⟩))
    go_ret2
    exact ⟨_, rfl, ho, hb⟩
set_option maxHeartbeats 1000000 in
theorem specFewestOfLength_any (s0 : ByteArray) (a1 : Int) (w : World) (hs : s0.size ≤ maxLen) (_ : (Lit.int .i64 a1).wf = true) :
    Calls Try.prog 48 #[.string s0, .int .i64 a1] w fun e w' => e = .returned (.tuple #[.int .i64 ((startsR s0 a1).length : Nat), .bool (okSt s0 a1)]) ∧ Below w.heap.size w w' := by
  have hle := startsR_len s0 a1
  unfold startsR at hle ⊢
  cases h : okSt s0 a1
  · rw [if_neg (by decide)]
    exact specFewestOfLength_no s0 a1 w hs h
  · rw [h] at hle
    rw [if_pos rfl] at hle ⊢
    obtain ⟨hy, l1, l2⟩ := okSt_at h
    have hz := okYard_size hy
    have HY := Lib.hid fun W => reGood_any s0 W hs
    have HI := Lib.hid fun W => l1In_any a1 1 30 W
    rw [hy] at HY
    rw [decide_eq_true (show 1 ≤ a1 ∧ a1 ≤ 30 from ⟨l1, l2⟩)] at HI
    obtain ⟨l, rfl⟩ : ∃ l : Nat, a1 = l := ⟨a1.toNat, by omega⟩
    rw [Int.toNat_natCast] at hle ⊢
    have HS := Lib.hid fun W => reStarts_any s0 l W hz.2 (by omega) (by omega)
    obtain ⟨L, hL⟩ : ∃ L, L = stF l (brkL s0 s0.size) := ⟨_, rfl⟩
    rw [← hL] at HS hle ⊢
    clear h hy hL
    go_enter Try.func48, Try.ntmps48
    go_wp2_with (first
      | (go_at_call 72; refine (HY.out _).mono ?_; rintro e w' ⟨rfl, rfl⟩)
      | (go_at_call 75; refine (HI.out _).mono ?_; rintro e w' ⟨rfl, rfl⟩)
      | (go_at_call 93; refine (HS.out _).mono ?_; rintro e w1 ⟨v, rfl, ho, hb⟩; obtain ⟨A, c, rfl⟩ := OwnInts.len ho))
    go_ret2
    exact ⟨rfl, hb⟩
end Go.Proofs.Ytfickmbfbmbjcaa
