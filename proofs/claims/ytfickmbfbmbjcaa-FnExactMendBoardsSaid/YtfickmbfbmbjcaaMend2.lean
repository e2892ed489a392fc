/- MendBoards of both sides. No condition but the text's length. -/
import Derived.Test.YtfickmbfbmbjcaaMend
namespace Go.Proofs.Ytfickmbfbmbjcaa
open Go.RowKit

def okMd (s : ByteArray) (a b : Int) : Bool := okYard s && decide (0 ≤ a ∧ a ≤ b ∧ b < s.size)
def mendR (s : ByteArray) (a b : Int) : ByteArray := if okMd s a b = true then mendS s a.toNat b.toNat else ⟨#[]⟩
theorem okMd_at {s : ByteArray} {a b : Int} (h : okMd s a b = true) : okYard s = true ∧ 0 ≤ a ∧ a ≤ b ∧ b < s.size := by
  unfold okMd at h
  rw [Bool.and_eq_true, decide_eq_true_iff] at h
  exact h
theorem okMd_split (s : ByteArray) (a b : Int) : okMd s a b = (okBd s b && decide (0 ≤ a ∧ a ≤ b)) := by
  unfold okMd okBd
  rw [Bool.and_assoc]
  congr 1
  rw [Bool.eq_iff_iff, Bool.and_eq_true, decide_eq_true_iff, decide_eq_true_iff, decide_eq_true_iff]
  omega
theorem mendR_no {s : ByteArray} {a b : Int} (h : okMd s a b = false) : mendR s a b = ⟨#[]⟩ := by unfold mendR; rw [h]; rfl

set_option maxHeartbeats 2000000 in
theorem specMendBoards_any (s0 : ByteArray) (a1 a2 : Int) (w : World) (hs : s0.size ≤ maxLen) (_ : (Lit.int .i64 a1).wf = true) (_ : (Lit.int .i64 a2).wf = true) :
    Calls Try.prog 64 #[.string s0, .int .i64 a1, .int .i64 a2] w fun e w' => e = .returned (.tuple #[.string (mendR s0 a1 a2), .bool (okMd s0 a1 a2)]) ∧ Below w.heap.size w w' := by
  have HB := Lib.hid fun W => reBoard_any s0 a2 W hs
  have HI := Lib.hid fun W => l1In_any a1 0 a2 W
  cases h : okMd s0 a1 a2
  · rw [mendR_no h]
    rw [okMd_split] at h
    cases h2 : okBd s0 a2
    · rw [h2] at HB
      clear h h2
      go_enter Try.func64, Try.ntmps64
      go_wp2_with (go_at_call 104; refine (HB.out _).mono ?_; rintro e w' ⟨rfl, rfl⟩)
      go_ret2
      exact ⟨rfl, Below.refl _ _⟩
    · rw [h2] at HB h
      rw [show decide (0 ≤ a1 ∧ a1 ≤ a2) = false from h] at HI
      clear h h2
      go_enter Try.func64, Try.ntmps64
      go_wp2_with (first
        | (go_at_call 104; refine (HB.out _).mono ?_; rintro e w' ⟨rfl, rfl⟩)
        | (go_at_call 75; refine (HI.out _).mono ?_; rintro e w' ⟨rfl, rfl⟩))
      go_ret2
      exact ⟨rfl, Below.refl _ _⟩
  · obtain ⟨hy, h0, hab, hlt⟩ := okMd_at h
    have hz := okYard_size hy
    rw [show okBd s0 a2 = true by unfold okBd; rw [hy, decide_eq_true (show 0 ≤ a2 ∧ a2 < (s0.size : Int) by omega)]; rfl] at HB
    rw [decide_eq_true (show 0 ≤ a1 ∧ a1 ≤ a2 from ⟨h0, hab⟩)] at HI
    rw [show mendR s0 a1 a2 = mendS s0 a1.toNat a2.toNat by unfold mendR; rw [h]; rfl]
    obtain ⟨a, rfl⟩ : ∃ a : Nat, a1 = a := ⟨a1.toNat, by omega⟩
    obtain ⟨b, rfl⟩ : ∃ b : Nat, a2 = b := ⟨a2.toNat, by omega⟩
    rw [Int.toNat_natCast, Int.toNat_natCast]
    have hab' : a ≤ b := by omega
    have hb' : b < s0.size := by omega
    have he1 := ext_le s0 0 a
    have he2 := ext_le s0 (b + 1) s0.size
    have a0 : (0 : Int) ≤ (a : Int) := by omega
    have a1 : (a : Int) ≤ (s0.size : Int) := by omega
    have b0 : (0 : Int) ≤ (b : Int) + 1 := by omega
    have b1 : (b : Int) + 1 ≤ (s0.size : Int) := by omega
    have e1 : ((b : Int) + 1).toNat = b + 1 := by omega
    clear h hy
    go_enter Try.func64, Try.ntmps64
    go_wp2_with (first
      | (go_at_call 104; refine (HB.out _).mono ?_; rintro e w' ⟨rfl, rfl⟩)
      | (go_at_call 75; refine (HI.out _).mono ?_; rintro e w' ⟨rfl, rfl⟩))
    go_loop [8, 9] (fun o i => ∃ j : Nat, a + j ≤ b + 1 ∧ i = .int .i64 ((a + j : Nat) : Int) ∧ o = .string (s0.extract 0 a ++ repO j)) (fun _ i => (b + 1) - (intOf i).toNat)
    case atStart => exact ⟨0, by omega, rfl, by rw [show repO 0 = ⟨#[]⟩ from rfl]; congr 1; apply bytes_ext; simp⟩
    case round =>
      obtain ⟨j, hj, rfl, rfl⟩ := hrel
      have hos : (s0.extract 0 a ++ repO j).size ≤ 60 := by rw [ByteArray.size_append, repO_size]; omega
      have HN : Hid ((s0.extract 0 a ++ repO j) ++ ⟨#[111]⟩ = s0.extract 0 a ++ repO (j + 1)) := Lib.hid (by rw [← repO_succ, ByteArray.append_assoc])
      have HE : Hid (a + j = b + 1 → (s0.extract 0 a ++ repO j) ++ s0.extract (b + 1) s0.size = mendS s0 a b) := Lib.hid fun h => by unfold mendS; rw [show b + 1 - a = j by omega]
      obtain ⟨o, ho⟩ : ∃ o, o = s0.extract 0 a ++ repO j := ⟨_, rfl⟩
      rw [← ho] at hos HN HE ⊢
      obtain ⟨k, hk⟩ : ∃ k, k = a + j := ⟨_, rfl⟩
      rw [← hk] at hj HE ⊢
      clear ho
      by_cases hlt : k ≤ b
      · have hlt' : (k : Int) ≤ (b : Int) := by omega
        go_wp2
        go_round
        case rel => exact ⟨j + 1, by omega, by rw [← Nat.add_assoc, ← hk]; go_num, by rw [HN.out]⟩
        case measure => simp [intOf]; omega
      · have hlt' : ¬ (k : Int) ≤ (b : Int) := by omega
        have HE2 := Lib.hid (HE.out (by omega))
        go_wp2
        go_ret2
        exact ⟨ret_sb2 HE2.out rfl, Below.refl _ _⟩

set_option maxHeartbeats 2000000 in
theorem implMendBoards_any (s0 : ByteArray) (a1 a2 : Int) (w : World) (hs : s0.size ≤ maxLen) (_ : (Lit.int .i64 a1).wf = true) (_ : (Lit.int .i64 a2).wf = true) :
    Calls Try.prog 65 #[.string s0, .int .i64 a1, .int .i64 a2] w fun e w' => e = .returned (.tuple #[.string (mendR s0 a1 a2), .bool (okMd s0 a1 a2)]) ∧ Below w.heap.size w w' := by
  have HC := Lib.hid (cells2 w a1 a2 65)
  have HB0 := Lib.hid (below_new w (.cells #[.int .i64 a1, .int .i64 a2] 65))
  have HK : Hid (∀ W, Below (w.alloc (.cells #[.int .i64 a1, .int .i64 a2] 65)).heap.size (w.alloc (.cells #[.int .i64 a1, .int .i64 a2] 65)) W → W.cell? ⟨w.heap.size, 0, none⟩ = some (.int .i64 a1) ∧ W.cell? ⟨w.heap.size, 1, none⟩ = some (.int .i64 a2)) := Lib.hid fun W h => ⟨by rw [(bcell h).1 w.heap.size 0 (by simp)]; exact HC.out.1, by rw [(bcell h).1 w.heap.size 1 (by simp)]; exact HC.out.2⟩
  have HY := Lib.hid fun W => implIsYard_any s0 W hs
  have HI := Lib.hid fun W => stIsIn_any a1 a2 s0 W hs
  have hs2 := hs
  unfold maxLen at hs2
  cases h : okMd s0 a1 a2
  · rw [mendR_no h]
    unfold okMd at h
    cases h2 : okYard s0
    · rw [h2] at HY
      clear h h2
      go_enter Try.func65, Try.ntmps65
      go_wp2_with (go_at_call 24; refine (HY.out _).mono ?_; rintro e w1 ⟨rfl, hb1⟩)
      go_ret2
      exact ⟨rfl, below_nextN HB0.out HB0.out.size hb1⟩
    · rw [h2] at HY h
      rw [show decide (0 ≤ a1 ∧ a1 ≤ a2 ∧ a2 < (s0.size : Int)) = false from h] at HI
      clear h h2
      go_enter Try.func65, Try.ntmps65
      go_wp2_with (first
        | (go_at_call 24; refine (HY.out _).mono ?_; rintro e w1 ⟨rfl, hb1⟩; have hk1 := HK.out _ hb1; obtain ⟨k1, k2⟩ := hk1)
        | (go_at_call 106; refine (HI.out _).mono ?_; rintro e w2 ⟨rfl, hb2⟩))
      go_ret2
      exact ⟨rfl, below_nextN HB0.out HB0.out.size (below_next hb1 hb2)⟩
  · obtain ⟨hy, h0, hab, hlt⟩ := okMd_at h
    have hz := okYard_size hy
    rw [hy] at HY
    rw [decide_eq_true (show 0 ≤ a1 ∧ a1 ≤ a2 ∧ a2 < (s0.size : Int) from ⟨h0, hab, hlt⟩)] at HI
    rw [show mendR s0 a1 a2 = mendS s0 a1.toNat a2.toNat by unfold mendR; rw [h]; rfl]
    obtain ⟨a, rfl⟩ : ∃ a : Nat, a1 = a := ⟨a1.toNat, by omega⟩
    obtain ⟨b, rfl⟩ : ∃ b : Nat, a2 = b := ⟨a2.toNat, by omega⟩
    rw [Int.toNat_natCast, Int.toNat_natCast]
    have HM := Lib.hid fun W => mended_any s0 a b W (by omega) (by omega) hz.2
    clear h hy
    go_enter Try.func65, Try.ntmps65
    go_wp2_with (first
      | (go_at_call 24; refine (HY.out _).mono ?_; rintro e w1 ⟨rfl, hb1⟩; have hk1 := HK.out _ hb1; obtain ⟨k1, k2⟩ := hk1)
      | (go_at_call 106; refine (HI.out _).mono ?_; rintro e w2 ⟨rfl, hb2⟩; have hk2 := HK.out _ (below_next hb1 hb2); obtain ⟨k3, k4⟩ := hk2)
      | (go_at_call 107; refine (HM.out _).mono ?_; rintro e w3 ⟨rfl, hb3⟩))
    go_ret2
    exact ⟨rfl, below_nextN HB0.out HB0.out.size (below_next (below_next hb1 hb2) hb3)⟩
end Go.Proofs.Ytfickmbfbmbjcaa
