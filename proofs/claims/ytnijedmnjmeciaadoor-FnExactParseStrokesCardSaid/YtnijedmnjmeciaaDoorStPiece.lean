/- A stroke read of a text by the program: 'impl.parseStroke'. No condition but the text's length; the library's variables read as they are laid. -/
import Derived.Test.YtnijedmnjmeciaaDoorStMath
import Derived.Deep.RegionHeld3
import Derived.Laws.ResultCell
namespace Go.Proofs.YtnijedmnjmeciaaDoor
open Go.RowKit

/-- what the call needs of the library's variables -/
def Env (B : Nat) (w : World) : Prop :=
  (∃ m, 1 < B ∧ w.cell? ⟨1, 0, none⟩ = some (.int .i64 m)) ∧
  (∃ t p, 2 < B ∧ w.cell? ⟨2, 0, none⟩ = some (.iface t p)) ∧ (∃ t p, 3 < B ∧ w.cell? ⟨3, 0, none⟩ = some (.iface t p))
theorem Env.on {B : Nat} {w w1 : World} (h : Env B w) (hb : Below B w w1) : Env B w1 := by
  obtain ⟨⟨m, l1, c1⟩, ⟨t2, p2, l2, c2⟩, ⟨t3, p3, l3, c3⟩⟩ := h
  exact ⟨⟨m, l1, by rw [hb.cell (p := ⟨1, 0, none⟩) l1]; exact c1⟩, ⟨t2, p2, l2, by rw [hb.cell (p := ⟨2, 0, none⟩) l2]; exact c2⟩, ⟨t3, p3, l3, by rw [hb.cell (p := ⟨3, 0, none⟩) l3]; exact c3⟩⟩
theorem env_at {w W : World} (h : Env w.heap.size w) (hb : Below w.heap.size w W) : Env W.heap.size W := by
  have hz := hb.size
  obtain ⟨⟨m, l1, c1⟩, ⟨t2, p2, l2, c2⟩, ⟨t3, p3, l3, c3⟩⟩ := h.on hb
  exact ⟨⟨m, by omega, c1⟩, ⟨t2, p2, by omega, c2⟩, ⟨t3, p3, by omega, c3⟩⟩
theorem atoi_yes (p : ByteArray) (w : World) (hs : p.size ≤ 1048576) (h : isNum p = true) :
    Calls Tryd.prog 47 #[.string p] w fun e w' => e = .returned (.tuple #[.int .i64 (numOf p), .nilIface]) ∧ Below w.heap.size w w' := by
  unfold isNum at h
  unfold numOf
  rcases hv : Lib.atoiAll p.data.toList with v | _ | _
  · refine (Tryd.strconv_Atoi_ok p (by omega) v hv w).mono ?_
    rintro e w' ⟨rfl, rfl | ⟨t, rfl⟩⟩
    · exact ⟨rfl, Below.refl _ _⟩
    · exact ⟨rfl, Lib.bytesWorld_below _ _ _⟩
  · rw [hv] at h; cases h
  · rw [hv] at h; cases h
theorem atoi_no (p : ByteArray) (w : World) {B : Nat} (he : Env B w) (hs : p.size ≤ 1048576) (h : isNum p = false) :
    Calls Tryd.prog 47 #[.string p] w fun e w' => ∃ v t a, e = .returned (.tuple #[.int .i64 v, .iface t a]) ∧ Below w.heap.size w w' := by
  obtain ⟨-, ⟨t2, p2, l2, c2⟩, ⟨t3, p3, l3, c3⟩⟩ := he
  unfold isNum at h
  rcases hv : Lib.atoiAll p.data.toList with v | _ | _
  · rw [hv] at h; cases h
  · refine Calls.mono (Any.strconv_Atoi_syntax Tryd.laysC172 p (by omega) hv _ w c2 (Or.inr ⟨_, _, rfl⟩)) ?_
    rintro e w' ⟨N, rfl, -, -, hb⟩
    exact ⟨_, _, _, rfl, hb⟩
  · refine (Tryd.strconv_Atoi_range p (by omega) hv _ w c3 (Or.inr ⟨_, _, rfl⟩)).mono ?_
    rintro e w' ⟨N, rfl, -, -, hb⟩
    exact ⟨_, _, _, rfl, hb⟩
/-- both ends at once -/
def errOf (p : ByteArray) (v : Int) (ev : Value) : Prop := (isNum p = true ∧ v = numOf p ∧ ev = .nilIface) ∨ (isNum p = false ∧ ∃ t a, ev = .iface t a)
theorem below_drewP {B : Nat} {a w : World} (h : Below B a w) (n : Nat) : Below B a (w.drewN n) := ⟨h.os, h.tape, h.output, h.size, h.block⟩
theorem cut_any (t : ByteArray) (w : World) {B : Nat} (he : Env B w) (hs : t.size ≤ 1048576) :
    Calls Tryd.prog 46 #[.string t, .string ⟨#[45]⟩] w fun e w' => e = .returned (.tuple #[.string (cutA t), .string (cutB t), .bool (cutF t)]) ∧ ∃ n, w' = w.drewN n := by
  obtain ⟨⟨m, l1, c1⟩, -, -⟩ := he
  exact Tryd.strings_Cut t ⟨#[45]⟩ m w (by omega) c1
theorem clone_any (s : ByteArray) (w : World) (hs : s.size ≤ 1048576) :
    Calls Tryd.prog 48 #[.string s] w fun e w' => e = .returned (.string s) ∧ Below w.heap.size w w' := by
  have HC := Lib.hid fun W => Tryd.stringslite_Clone s W (by omega)
  go_enter Tryd.func48, Tryd.ntmps48
  go_wp2_with (go_at_call 64; refine (HC.out _).mono ?_; rintro e w1 ⟨rfl, hb⟩)
  go_ret
  exact ⟨rfl, hb⟩
/-- the value that parseStroke gives back -/
def strkV (o : Option Strk) : Value := match o with | some x => .agg #[.int .i64 x.f, .int .i64 x.t, .string x.c] | none => .agg #[.int .i64 0, .int .i64 0, .string ⟨#[]⟩]
theorem stkI_none {t : ByteArray} (h : cutF t = false ∨ (cutB t).size = 0) : stkI t = none := by unfold stkI; rw [if_pos h]
theorem stkI_bad {t : ByteArray} (h : ¬ (isNum (cutA t) = true ∧ isNum ((cutB t).extract 0 ((cutB t).size - 1)) = true)) : stkI t = none := by
  unfold stkI
  by_cases h1 : cutF t = false ∨ (cutB t).size = 0
  · rw [if_pos h1]
  · rw [if_neg h1, if_neg h]
theorem stkI_some {t : ByteArray} (h1 : cutF t = true) (h2 : (cutB t).size ≠ 0) (h3 : isNum (cutA t) = true) (h4 : isNum ((cutB t).extract 0 ((cutB t).size - 1)) = true) :
    stkI t = some ⟨numOf (cutA t), numOf ((cutB t).extract 0 ((cutB t).size - 1)), (cutB t).extract ((cutB t).size - 1) (cutB t).size⟩ := by
  unfold stkI
  rw [if_neg (by rw [h1]; simp [h2]), if_pos ⟨h3, h4⟩]
theorem cut_sizes (t : ByteArray) : (cutA t).size ≤ t.size ∧ (cutB t).size ≤ t.size := by
  have hz : t.size = t.data.toList.length := by simp
  have e1 : (cutA t).size = (Lib.cut t.data.toList [45]).1.length := by show (Lib.cut t.data.toList [45]).1.toArray.size = _; simp
  have e2 : (cutB t).size = (Lib.cut t.data.toList [45]).2.1.length := by show (Lib.cut t.data.toList [45]).2.1.toArray.size = _; simp
  rw [e1, e2, hz]
  unfold Lib.cut
  split
  · simp only [List.length_take, List.length_drop]; omega
  · simp
theorem not_emptyI {s : ByteArray} (h0 : s.size ≠ 0) : s.toList.isEmpty = false := by
  rw [ByteArray.toList_eq]
  cases h : s.data.toList with
  | nil =>
    have : s.data.toList.length = 0 := by rw [h]; rfl
    exact absurd (by simpa using this) h0
  | cons => rfl

set_option maxRecDepth 100000 in
set_option maxHeartbeats 4000000 in
theorem parseStroke_none (t : ByteArray) (w : World) (hs : t.size ≤ 1048576) (he : Env w.heap.size w) (h : cutF t = false ∨ (cutB t).size = 0) :
    Calls Tryd.prog 28 #[.string t] w fun e w' => e = .returned (.tuple #[strkV (stkI t), .bool (stkI t).isSome]) ∧ Below w.heap.size w w' := by
  rw [stkI_none h]
  have HB0 := Lib.hid (below_new w (.cells #[.int .i64 0, .int .i64 0, .string ⟨#[]⟩] 43))
  have HC := Lib.hid (cut_any t (w.alloc (.cells #[.int .i64 0, .int .i64 0, .string ⟨#[]⟩] 43)) (he.on HB0.out) hs)
  obtain ⟨a, ha⟩ : ∃ a, a = cutA t := ⟨_, rfl⟩
  obtain ⟨b, hb⟩ : ∃ b, b = cutB t := ⟨_, rfl⟩
  obtain ⟨f, hf⟩ : ∃ f, f = cutF t := ⟨_, rfl⟩
  rw [← ha, ← hb, ← hf] at HC
  rw [← hf, ← hb] at h
  clear ha hb hf
  cases f
  · clear h
    go_enter Tryd.func28, Tryd.ntmps28
    go_wp2_with (go_at_call 46; refine HC.out.mono ?_; rintro e w1 ⟨rfl, q, rfl⟩)
    refine bodyPost_ret (v := .tuple #[.agg #[.int .i64 0, .int .i64 0, .string ⟨#[]⟩], .bool false]) ?_ rfl ⟨rfl, ?_⟩
    · rw [results_cell_tmp rfl]; go_simp
    · exact (((below_drewP HB0.out q).setCell (Nat.le_refl _) _).setCell (Nat.le_refl _) _).setCell (Nat.le_refl _) _
  · have hb0 : b.size = 0 := by simpa using h
    obtain rfl : b = ⟨#[]⟩ := bytes_ext (by
      have : b.data.toList.length = 0 := by simpa using hb0
      exact List.eq_nil_of_length_eq_zero this)
    clear h hb0
    go_enter Tryd.func28, Tryd.ntmps28
    go_wp2_with (go_at_call 46; refine HC.out.mono ?_; rintro e w1 ⟨rfl, q, rfl⟩)
    refine bodyPost_ret (v := .tuple #[.agg #[.int .i64 0, .int .i64 0, .string ⟨#[]⟩], .bool false]) ?_ rfl ⟨rfl, ?_⟩
    · rw [results_cell_tmp rfl]; go_simp
    · exact (((below_drewP HB0.out q).setCell (Nat.le_refl _) _).setCell (Nat.le_refl _) _).setCell (Nat.le_refl _) _

set_option maxRecDepth 100000 in
set_option maxHeartbeats 8000000 in
theorem parseStroke_more (t : ByteArray) (w : World) (hs : t.size ≤ 1048576) (he : Env w.heap.size w) (h1 : cutF t = true) (h2 : (cutB t).size ≠ 0) :
    Calls Tryd.prog 28 #[.string t] w fun e w' => e = .returned (.tuple #[strkV (stkI t), .bool (stkI t).isSome]) ∧ Below w.heap.size w w' := by
  have HB0 := Lib.hid (below_new w (.cells #[.int .i64 0, .int .i64 0, .string ⟨#[]⟩] 43))
  have HC := Lib.hid (cut_any t (w.alloc (.cells #[.int .i64 0, .int .i64 0, .string ⟨#[]⟩] 43)) (he.on HB0.out) hs)
  have HKC := Lib.hid (cells3 w 0 0 ⟨#[]⟩ 43)
  have HKF : Hid (∀ k, (w.alloc (.cells #[.int .i64 0, .int .i64 0, .string ⟨#[]⟩] 43)).frozen? ⟨w.heap.size, k, none⟩ = false) := Lib.hid fun k => by simp
  have HK : Hid (∀ W, Below (w.alloc (.cells #[.int .i64 0, .int .i64 0, .string ⟨#[]⟩] 43)).heap.size (w.alloc (.cells #[.int .i64 0, .int .i64 0, .string ⟨#[]⟩] 43)) W → (W.cell? ⟨w.heap.size, 0, none⟩ = some (.int .i64 0) ∧ W.cell? ⟨w.heap.size, 1, none⟩ = some (.int .i64 0) ∧ W.cell? ⟨w.heap.size, 2, none⟩ = some (.string ⟨#[]⟩)) ∧ (W.frozen? ⟨w.heap.size, 0, none⟩ = false ∧ W.frozen? ⟨w.heap.size, 1, none⟩ = false ∧ W.frozen? ⟨w.heap.size, 2, none⟩ = false)) := Lib.hid fun W h =>
    ⟨⟨by rw [(bcell h).1 w.heap.size 0 (by simp)]; exact HKC.out.1, by rw [(bcell h).1 w.heap.size 1 (by simp)]; exact HKC.out.2.1, by rw [(bcell h).1 w.heap.size 2 (by simp)]; exact HKC.out.2.2⟩, by rw [(bcell h).2 w.heap.size 0 (by simp)]; exact HKF.out 0, by rw [(bcell h).2 w.heap.size 1 (by simp)]; exact HKF.out 1, by rw [(bcell h).2 w.heap.size 2 (by simp)]; exact HKF.out 2⟩
  have HBW : Hid (∀ W, Below (w.alloc (.cells #[.int .i64 0, .int .i64 0, .string ⟨#[]⟩] 43)).heap.size (w.alloc (.cells #[.int .i64 0, .int .i64 0, .string ⟨#[]⟩] 43)) W → Below w.heap.size w W) := Lib.hid fun W h => st_nextN HB0.out HB0.out.size h
  obtain ⟨z1, z2⟩ := cut_sizes t
  have hS := fun h3 h4 => stkI_some h1 h2 h3 h4
  have hN := fun h => stkI_bad (t := t) h
  rw [h1] at HC
  obtain ⟨a, ha⟩ : ∃ a, a = cutA t := ⟨_, rfl⟩
  obtain ⟨b, hb⟩ : ∃ b, b = cutB t := ⟨_, rfl⟩
  rw [← ha, ← hb] at HC hS hN
  rw [← ha] at z1
  rw [← hb] at z2 h2
  obtain ⟨m, hm⟩ : ∃ m, m = b.size - 1 := ⟨_, rfl⟩
  have hm1 : m < b.size := by omega
  have hmw : IntKind.i64.wrap ((b.size : Int) - 1) = (m : Int) := by rw [IntWalk.i64_in _ (by omega)]; omega
  have hbe := not_emptyI h2
  have hm0 : (0 : Int) ≤ (m : Int) := by omega
  have hmi : (m : Int) ≤ (b.size : Int) := by omega
  rw [← hm] at hS hN
  obtain ⟨d, hd⟩ : ∃ d, d = b.extract 0 m := ⟨_, rfl⟩
  have hds : d.size ≤ 1048576 := by rw [hd, ByteArray.size_extract]; omega
  have hcs : (b.extract m b.size).size ≤ 1048576 := by rw [ByteArray.size_extract]; omega
  rw [← hd] at hS hN
  have HDD := Lib.hid hd
  have has : a.size ≤ 1048576 := by omega
  have HCL := Lib.hid fun W => clone_any (b.extract m b.size) W hcs
  clear hm h1 h2 ha hb hd z1 z2 hs
  obtain ⟨o, ho⟩ : ∃ o, o = stkI t := ⟨_, rfl⟩
  rw [← ho] at hS hN ⊢
  clear ho
  cases ea : isNum a
  all_goals cases ed : isNum d
  · obtain rfl := hN (fun h => by simp [ea, ed] at h)
    have HA : Hid (∀ W, Below (w.alloc (.cells #[.int .i64 0, .int .i64 0, .string ⟨#[]⟩] 43)).heap.size (w.alloc (.cells #[.int .i64 0, .int .i64 0, .string ⟨#[]⟩] 43)) W → Calls Tryd.prog 47 #[.string a] W fun e w' => ∃ v t a, e = .returned (.tuple #[.int .i64 v, .iface t a]) ∧ Below W.heap.size W w') := Lib.hid fun W hW => atoi_no a W (he.on (HBW.out W hW)) has ea
    have HD : Hid (∀ W, Below (w.alloc (.cells #[.int .i64 0, .int .i64 0, .string ⟨#[]⟩] 43)).heap.size (w.alloc (.cells #[.int .i64 0, .int .i64 0, .string ⟨#[]⟩] 43)) W → Calls Tryd.prog 47 #[.string d] W fun e w' => ∃ v t a, e = .returned (.tuple #[.int .i64 v, .iface t a]) ∧ Below W.heap.size W w') := Lib.hid fun W hW => atoi_no d W (he.on (HBW.out W hW)) hds ed
    rw [HDD.out] at HD
    obtain ⟨na, hna⟩ : ∃ x, x = numOf a := ⟨_, rfl⟩
    obtain ⟨nd, hnd⟩ : ∃ x, x = numOf d := ⟨_, rfl⟩
    clear hS hN ea ed HKC HKF hds has hcs HB0
    go_enter Tryd.func28, Tryd.ntmps28
    go_wp2_with (go_at_call 46; refine HC.out.mono ?_; rintro e w1 ⟨rfl, q, rfl⟩; have HB1 : Hid (Below (w.alloc (.cells #[.int .i64 0, .int .i64 0, .string ⟨#[]⟩] 43)).heap.size (w.alloc (.cells #[.int .i64 0, .int .i64 0, .string ⟨#[]⟩] 43)) ((w.alloc (.cells #[.int .i64 0, .int .i64 0, .string ⟨#[]⟩] 43)).drewN (q + 1))) := Lib.hid (below_drewP (Below.refl _ _) (q + 1)))
    go_region_held3 (fun _ => True) (trivial) (fail)
    go_wp2_with (first
      | (go_at_call 47; with_reducible refine (HD.out _ HB2.out).mono ?_; rintro e w3 ⟨v3, t3, a3, rfl, hbx⟩; have HB3 := Lib.hid (below_next HB2.out hbx); obtain ⟨⟨k30, k31, k32⟩, f30, f31, f32⟩ := HK.out w3 HB3.out; clear hbx)
      | (go_at_call 47; with_reducible refine (HA.out _ HB1.out).mono ?_; rintro e w2 ⟨v2, t2, a2, rfl, hbx⟩; have HB2 := Lib.hid (below_next HB1.out hbx); obtain ⟨⟨k20, k21, k22⟩, f20, f21, f22⟩ := HK.out w2 HB2.out; clear hbx))
    refine bodyPost_ret (v := .tuple #[.agg #[.int .i64 0, .int .i64 0, .string ⟨#[]⟩], .bool false]) ?_ rfl ⟨rfl, ?_⟩
    · rw [results_cell_tmp rfl]; go_simp
    · exact ((((HBW.out _ HB3.out).setCell (Nat.le_refl _) _).setCell (Nat.le_refl _) _).setCell (Nat.le_refl _) _)
  · obtain rfl := hN (fun h => by simp [ea, ed] at h)
    have HA : Hid (∀ W, Below (w.alloc (.cells #[.int .i64 0, .int .i64 0, .string ⟨#[]⟩] 43)).heap.size (w.alloc (.cells #[.int .i64 0, .int .i64 0, .string ⟨#[]⟩] 43)) W → Calls Tryd.prog 47 #[.string a] W fun e w' => ∃ v t a, e = .returned (.tuple #[.int .i64 v, .iface t a]) ∧ Below W.heap.size W w') := Lib.hid fun W hW => atoi_no a W (he.on (HBW.out W hW)) has ea
    have HD : Hid (∀ W, Below (w.alloc (.cells #[.int .i64 0, .int .i64 0, .string ⟨#[]⟩] 43)).heap.size (w.alloc (.cells #[.int .i64 0, .int .i64 0, .string ⟨#[]⟩] 43)) W → Calls Tryd.prog 47 #[.string d] W fun e w' => ∃ v ev, e = .returned (.tuple #[.int .i64 v, ev]) ∧ (v = numOf d ∧ ev = .nilIface) ∧ Below W.heap.size W w') := Lib.hid fun W _ => (atoi_yes d W hds ed).mono fun e w' h => ⟨_, _, h.1, ⟨rfl, rfl⟩, h.2⟩
    rw [HDD.out] at HD
    obtain ⟨na, hna⟩ : ∃ x, x = numOf a := ⟨_, rfl⟩
    obtain ⟨nd, hnd⟩ : ∃ x, x = numOf d := ⟨_, rfl⟩
    clear hS hN ea ed HKC HKF hds has hcs HB0
    go_enter Tryd.func28, Tryd.ntmps28
    go_wp2_with (go_at_call 46; refine HC.out.mono ?_; rintro e w1 ⟨rfl, q, rfl⟩; have HB1 : Hid (Below (w.alloc (.cells #[.int .i64 0, .int .i64 0, .string ⟨#[]⟩] 43)).heap.size (w.alloc (.cells #[.int .i64 0, .int .i64 0, .string ⟨#[]⟩] 43)) ((w.alloc (.cells #[.int .i64 0, .int .i64 0, .string ⟨#[]⟩] 43)).drewN (q + 1))) := Lib.hid (below_drewP (Below.refl _ _) (q + 1)))
    go_region_held3 (fun _ => True) (trivial) (fail)
    go_wp2_with (first
      | (go_at_call 47; with_reducible refine (HD.out _ HB2.out).mono ?_; rintro e w3 ⟨v3, ev3, rfl, ⟨rfl, rfl⟩, hbx⟩; have HB3 := Lib.hid (below_next HB2.out hbx); obtain ⟨⟨k30, k31, k32⟩, f30, f31, f32⟩ := HK.out w3 HB3.out; clear hbx)
      | (go_at_call 47; with_reducible refine (HA.out _ HB1.out).mono ?_; rintro e w2 ⟨v2, t2, a2, rfl, hbx⟩; have HB2 := Lib.hid (below_next HB1.out hbx); obtain ⟨⟨k20, k21, k22⟩, f20, f21, f22⟩ := HK.out w2 HB2.out; clear hbx))
    refine bodyPost_ret (v := .tuple #[.agg #[.int .i64 0, .int .i64 0, .string ⟨#[]⟩], .bool false]) ?_ rfl ⟨rfl, ?_⟩
    · rw [results_cell_tmp rfl]; go_simp
    · exact ((((HBW.out _ HB3.out).setCell (Nat.le_refl _) _).setCell (Nat.le_refl _) _).setCell (Nat.le_refl _) _)
  · obtain rfl := hN (fun h => by simp [ea, ed] at h)
    have HA : Hid (∀ W, Below (w.alloc (.cells #[.int .i64 0, .int .i64 0, .string ⟨#[]⟩] 43)).heap.size (w.alloc (.cells #[.int .i64 0, .int .i64 0, .string ⟨#[]⟩] 43)) W → Calls Tryd.prog 47 #[.string a] W fun e w' => ∃ v ev, e = .returned (.tuple #[.int .i64 v, ev]) ∧ (v = numOf a ∧ ev = .nilIface) ∧ Below W.heap.size W w') := Lib.hid fun W _ => (atoi_yes a W has ea).mono fun e w' h => ⟨_, _, h.1, ⟨rfl, rfl⟩, h.2⟩
    have HD : Hid (∀ W, Below (w.alloc (.cells #[.int .i64 0, .int .i64 0, .string ⟨#[]⟩] 43)).heap.size (w.alloc (.cells #[.int .i64 0, .int .i64 0, .string ⟨#[]⟩] 43)) W → Calls Tryd.prog 47 #[.string d] W fun e w' => ∃ v t a, e = .returned (.tuple #[.int .i64 v, .iface t a]) ∧ Below W.heap.size W w') := Lib.hid fun W hW => atoi_no d W (he.on (HBW.out W hW)) hds ed
    rw [HDD.out] at HD
    obtain ⟨na, hna⟩ : ∃ x, x = numOf a := ⟨_, rfl⟩
    obtain ⟨nd, hnd⟩ : ∃ x, x = numOf d := ⟨_, rfl⟩
    clear hS hN ea ed HKC HKF hds has hcs HB0
    go_enter Tryd.func28, Tryd.ntmps28
    go_wp2_with (go_at_call 46; refine HC.out.mono ?_; rintro e w1 ⟨rfl, q, rfl⟩; have HB1 : Hid (Below (w.alloc (.cells #[.int .i64 0, .int .i64 0, .string ⟨#[]⟩] 43)).heap.size (w.alloc (.cells #[.int .i64 0, .int .i64 0, .string ⟨#[]⟩] 43)) ((w.alloc (.cells #[.int .i64 0, .int .i64 0, .string ⟨#[]⟩] 43)).drewN (q + 1))) := Lib.hid (below_drewP (Below.refl _ _) (q + 1)))
    go_region_held3 (fun _ => True) (trivial) (fail)
    go_wp2_with (first
      | (go_at_call 47; with_reducible refine (HD.out _ HB2.out).mono ?_; rintro e w3 ⟨v3, t3, a3, rfl, hbx⟩; have HB3 := Lib.hid (below_next HB2.out hbx); obtain ⟨⟨k30, k31, k32⟩, f30, f31, f32⟩ := HK.out w3 HB3.out; clear hbx)
      | (go_at_call 47; with_reducible refine (HA.out _ HB1.out).mono ?_; rintro e w2 ⟨v2, ev2, rfl, ⟨rfl, rfl⟩, hbx⟩; have HB2 := Lib.hid (below_next HB1.out hbx); obtain ⟨⟨k20, k21, k22⟩, f20, f21, f22⟩ := HK.out w2 HB2.out; clear hbx))
    refine bodyPost_ret (v := .tuple #[.agg #[.int .i64 0, .int .i64 0, .string ⟨#[]⟩], .bool false]) ?_ rfl ⟨rfl, ?_⟩
    · rw [results_cell_tmp rfl]; go_simp
    · exact ((((HBW.out _ HB3.out).setCell (Nat.le_refl _) _).setCell (Nat.le_refl _) _).setCell (Nat.le_refl _) _)
  · obtain rfl := hS ea ed
    have HA : Hid (∀ W, Below (w.alloc (.cells #[.int .i64 0, .int .i64 0, .string ⟨#[]⟩] 43)).heap.size (w.alloc (.cells #[.int .i64 0, .int .i64 0, .string ⟨#[]⟩] 43)) W → Calls Tryd.prog 47 #[.string a] W fun e w' => ∃ v ev, e = .returned (.tuple #[.int .i64 v, ev]) ∧ (v = numOf a ∧ ev = .nilIface) ∧ Below W.heap.size W w') := Lib.hid fun W _ => (atoi_yes a W has ea).mono fun e w' h => ⟨_, _, h.1, ⟨rfl, rfl⟩, h.2⟩
    have HD : Hid (∀ W, Below (w.alloc (.cells #[.int .i64 0, .int .i64 0, .string ⟨#[]⟩] 43)).heap.size (w.alloc (.cells #[.int .i64 0, .int .i64 0, .string ⟨#[]⟩] 43)) W → Calls Tryd.prog 47 #[.string d] W fun e w' => ∃ v ev, e = .returned (.tuple #[.int .i64 v, ev]) ∧ (v = numOf d ∧ ev = .nilIface) ∧ Below W.heap.size W w') := Lib.hid fun W _ => (atoi_yes d W hds ed).mono fun e w' h => ⟨_, _, h.1, ⟨rfl, rfl⟩, h.2⟩
    rw [HDD.out] at HD
    obtain ⟨na, hna⟩ : ∃ x, x = numOf a := ⟨_, rfl⟩
    obtain ⟨nd, hnd⟩ : ∃ x, x = numOf d := ⟨_, rfl⟩
    clear hS hN ea ed HKC HKF hds has hcs HB0
    go_enter Tryd.func28, Tryd.ntmps28
    go_wp2_with (go_at_call 46; refine HC.out.mono ?_; rintro e w1 ⟨rfl, q, rfl⟩; have HB1 : Hid (Below (w.alloc (.cells #[.int .i64 0, .int .i64 0, .string ⟨#[]⟩] 43)).heap.size (w.alloc (.cells #[.int .i64 0, .int .i64 0, .string ⟨#[]⟩] 43)) ((w.alloc (.cells #[.int .i64 0, .int .i64 0, .string ⟨#[]⟩] 43)).drewN (q + 1))) := Lib.hid (below_drewP (Below.refl _ _) (q + 1)))
    go_region_held3 (fun _ => True) (trivial) (fail)
    go_wp2_with (first
      | (go_at_call 47; with_reducible refine (HD.out _ HB2.out).mono ?_; rintro e w3 ⟨v3, ev3, rfl, ⟨rfl, rfl⟩, hbx⟩; have HB3 := Lib.hid (below_next HB2.out hbx); obtain ⟨⟨k30, k31, k32⟩, f30, f31, f32⟩ := HK.out w3 HB3.out; clear hbx)
      | (go_at_call 47; with_reducible refine (HA.out _ HB1.out).mono ?_; rintro e w2 ⟨v2, ev2, rfl, ⟨rfl, rfl⟩, hbx⟩; have HB2 := Lib.hid (below_next HB1.out hbx); obtain ⟨⟨k20, k21, k22⟩, f20, f21, f22⟩ := HK.out w2 HB2.out; clear hbx)
      | (go_at_call 48; refine (HCL.out _).mono ?_; rintro e w4 ⟨rfl, hbx⟩; have HB4 := Lib.hid (below_next HB3.out hbx); obtain ⟨⟨k40, k41, k42⟩, f40, f41, f42⟩ := HK.out w4 HB4.out; clear hbx))
    refine bodyPost_ret (v := .tuple #[.agg #[.int .i64 (numOf a), .int .i64 (numOf d), .string (b.extract m b.size)], .bool true]) ?_ rfl ⟨rfl, ?_⟩
    · rw [results_cell_tmp rfl]; go_simp; rw [HDD.out]
    · exact ((((HBW.out _ HB4.out).setCell (Nat.le_refl _) _).setCell (Nat.le_refl _) _).setCell (Nat.le_refl _) _)
theorem parseStroke_any (t : ByteArray) (w : World) (hs : t.size ≤ 1048576) (he : Env w.heap.size w) :
    Calls Tryd.prog 28 #[.string t] w fun e w' => e = .returned (.tuple #[strkV (stkI t), .bool (stkI t).isSome]) ∧ Below w.heap.size w w' := by
  by_cases h : cutF t = false ∨ (cutB t).size = 0
  · exact parseStroke_none t w hs he h
  · exact parseStroke_more t w hs he (by cases hc : cutF t with | false => exact absurd (.inl hc) h | true => rfl) (fun e => h (.inr e))
end Go.Proofs.YtnijedmnjmeciaaDoor
