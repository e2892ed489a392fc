/- StrokesText: both sides. No condition but the list's and its texts' lengths. -/
import Derived.Test.YtnijedmnjmeciaaDoorStrkList
import Derived.Test.YtnijedmnjmeciaaDoorTxNum
import Derived.Deep.RegionHeld3
namespace Go.Proofs.YtnijedmnjmeciaaDoor
open Go.RowKit

theorem ret_sb {a b : ByteArray} {x : Bool} (h : a = b) : Ending.returned (.tuple #[.string a, .bool x]) = .returned (.tuple #[.string b, .bool x]) := by rw [h]
theorem st_below_new (w : World) (o : Obj) : Below w.heap.size w (w.alloc o) := (Below.refl _ _).alloc (Nat.le_refl _) _
theorem st_nextN {B : Nat} {w w1 w2 : World} (h1 : Below B w w1) (hB : B ≤ w1.heap.size) (h2 : Below w1.heap.size w1 w2) : Below B w w2 := h1.trans (h2.mono hB)
def nB (x : Int) : ByteArray := ⟨(Lib.decDigits x.toNat).toArray⟩
theorem nB_size {x : Int} (h : x < 20) : (nB x).size ≤ 30 := by
  have h1 := Tx.digits_len x.toNat
  have : (nB x).size = (Lib.decDigits x.toNat).length := by show (Lib.decDigits x.toNat).toArray.size = _; simp
  omega
/-- a stroke's text; that of strokes -/
def pcB (s : Strk) : ByteArray := nB s.f ++ ⟨#[45]⟩ ++ nB s.t ++ s.c
def txB (L : List Strk) : ByteArray := ⟨(Lib.join (L.map fun s => (pcB s).data.toList) [44]).toArray⟩
theorem txB_list (L : List Strk) : (txB L).data.toList = Lib.join (L.map fun s => (pcB s).data.toList) [44] := by simp [txB]
theorem st_snoc (xs : List (List UInt8)) (x sep : List UInt8) (h : xs ≠ []) : Lib.join (xs ++ [x]) sep = Lib.join xs sep ++ sep ++ x := by
  cases xs with
  | nil => exact absurd rfl h
  | cons a r =>
    rw [List.cons_append, Lib.join_cons, Lib.join_cons]
    simp [Lib.joinTail]
theorem txB_one {L : List Strk} (h : 0 < L.length) : txB (L.take 1) = ⟨#[]⟩ ++ pcB L[0] := by
  have e : L.take 1 = [L[0]] := by rw [List.take_succ_eq_append_getElem h]; rfl
  apply bytes_ext
  rw [append_list, txB_list, e]
  simp [Lib.join_one]
theorem txB_succ {L : List Strk} {k : Nat} (h : k < L.length) (h0 : 0 < k) : txB (L.take (k + 1)) = txB (L.take k) ++ ⟨#[44]⟩ ++ pcB L[k] := by
  have e : L.take (k + 1) = L.take k ++ [L[k]] := List.take_succ_eq_append_getElem h
  apply bytes_ext
  rw [append_list, append_list, txB_list, txB_list, e, List.map_append, List.map_cons, List.map_nil, st_snoc]
  intro hn
  have := congrArg List.length hn
  rw [List.length_map, List.length_take, List.length_nil] at this
  omega
theorem okS_at {s : Strk} (h : okS 20 s = true) : 0 ≤ s.f ∧ s.f < 20 ∧ 0 ≤ s.t ∧ s.t < 20 ∧ s.c.size = 1 := by
  unfold okS okStroke at h
  rw [Bool.and_eq_true, decide_eq_true_iff] at h
  refine ⟨h.1.1, by omega, by omega, by omega, ?_⟩
  by_cases hc : s.c.size = 1
  · exact hc
  · rw [isCol_size hc] at h; exact absurd h.2 (by decide)
theorem pcB_size {s : Strk} (h : okS 20 s = true) : (pcB s).size ≤ 62 := by
  obtain ⟨h1, h2, h3, h4, h5⟩ := okS_at h
  have a := nB_size h2
  have b := nB_size h4
  unfold pcB
  rw [ByteArray.size_append, ByteArray.size_append, ByteArray.size_append]
  have : (⟨#[45]⟩ : ByteArray).size = 1 := rfl
  omega
theorem txB_size {L : List Strk} (hx : ∀ k (hk : k < L.length), okS 20 L[k] = true) (k : Nat) (hk : k ≤ L.length) : (txB (L.take k)).size ≤ k * 63 := by
  induction k with
  | zero => exact Nat.zero_le _
  | succ k ih =>
    have i := ih (by omega)
    have hn := pcB_size (hx k (by omega))
    rcases Nat.eq_zero_or_pos k with h0 | h0
    · subst h0
      rw [txB_one (by omega), ByteArray.size_append]
      have : (⟨#[]⟩ : ByteArray).size = 0 := rfl
      omega
    · rw [txB_succ (by omega) h0, ByteArray.size_append, ByteArray.size_append]
      have : (⟨#[44]⟩ : ByteArray).size = 1 := rfl
      omega
theorem cells3 (w : World) (a b : Int) (c : ByteArray) (t : TypeId) : (w.alloc (.cells #[.int .i64 a, .int .i64 b, .string c] t)).cell? ⟨w.heap.size, 0, none⟩ = some (.int .i64 a) ∧ (w.alloc (.cells #[.int .i64 a, .int .i64 b, .string c] t)).cell? ⟨w.heap.size, 1, none⟩ = some (.int .i64 b) ∧ (w.alloc (.cells #[.int .i64 a, .int .i64 b, .string c] t)).cell? ⟨w.heap.size, 2, none⟩ = some (.string c) := by
  refine ⟨?_, ?_, ?_⟩
  · rw [cell_of_row _ w.heap.size 0 _ t (0, 0) (heap_alloc_new w _)]; rfl
  · rw [cell_of_row _ w.heap.size 1 _ t (0, 0) (heap_alloc_new w _)]; rfl
  · rw [cell_of_row _ w.heap.size 2 _ t (0, 0) (heap_alloc_new w _)]; rfl
theorem lNum_any {x : Int} (h0 : 0 ≤ x) (h1 : x < 20) (w : World) :
    Calls Tryd.prog 37 #[.int .i64 x] w fun e w' => e = .returned (.string (nB x)) ∧ Below w.heap.size w w' := by
  have h := Tx.num_any x.toNat w (by omega)
  rw [show ((x.toNat : Nat) : Int) = x by omega] at h
  exact h

set_option maxRecDepth 100000 in
set_option maxHeartbeats 4000000 in
theorem stText_any (A : Option Addr) (cap : Nat) (L : List Strk) (w : World) (h40 : L.length ≤ 40) (hat : ∀ k (hk : k < L.length), okS 20 L[k] = true) (h : StrkSl w A L) :
    Calls Tryd.prog 20 #[.slice A L.length cap] w fun e w' => e = .returned (.string (txB L)) ∧ Below w.heap.size w w' := by
  have HL := Lib.hid h
  have HAT := Lib.hid hat
  have HS := Lib.hid fun k hk => txB_size hat k hk
  have HT : Hid (txB (L.take L.length) = txB L) := Lib.hid (by rw [List.take_length])
  clear h hat
  go_enter Tryd.func20, Tryd.ntmps20
  go_wp2
  go_loopw [3, 8] (fun s i wr => ∃ k : Nat, k ≤ L.length ∧ i = .int .i64 k ∧ s = .string (txB (L.take k)) ∧ Below w.heap.size w wr) (fun _ i _ => L.length - (intOf i).toNat)
  case atStart => exact ⟨0, Nat.zero_le _, rfl, rfl, Below.refl _ _⟩
  case round =>
    obtain ⟨k, hk, rfl, rfl, hb⟩ := hrel
    have HB := Lib.hid hb
    have hbs := hb.size
    by_cases hlt : k < L.length
    · obtain ⟨g, off, rfl, -, hcells⟩ := (HL.out.below hb).some (by omega)
      obtain ⟨d0, d1, d2⟩ := hcells k hlt
      have hok := okS_at (HAT.out k hlt)
      have hsz := HS.out k hk
      have HE : Hid ((0 < k → txB (L.take (k + 1)) = txB (L.take k) ++ ⟨#[44]⟩ ++ (nB L[k].f ++ ⟨#[45]⟩ ++ nB L[k].t ++ L[k].c)) ∧ (k = 0 → txB (L.take (k + 1)) = txB (L.take k) ++ (nB L[k].f ++ ⟨#[45]⟩ ++ nB L[k].t ++ L[k].c))) := Lib.hid ⟨fun h0 => txB_succ hlt h0, fun h0 => by
        subst h0; exact txB_one hlt⟩
      obtain ⟨f, hf⟩ : ∃ f, f = L[k].f := ⟨_, rfl⟩
      obtain ⟨t, ht⟩ : ∃ t, t = L[k].t := ⟨_, rfl⟩
      obtain ⟨c, hc⟩ : ∃ c, c = L[k].c := ⟨_, rfl⟩
      rw [← hf] at d0 hok HE
      rw [← ht] at d1 hok HE
      rw [← hc] at d2 hok HE
      obtain ⟨f0, f1, t0, t1, c1⟩ := hok
      have HNF := Lib.hid fun W => lNum_any f0 f1 W
      have HNT := Lib.hid fun W => lNum_any t0 t1 W
      have hx := nB_size f1
      have hy := nB_size t1
      obtain ⟨x, hxx⟩ : ∃ x, x = nB f := ⟨_, rfl⟩
      obtain ⟨y, hyy⟩ : ∃ y, y = nB t := ⟨_, rfl⟩
      rw [← hxx] at hx HNF HE
      rw [← hyy] at hy HNT HE
      obtain ⟨o, ho⟩ : ∃ o, o = txB (L.take k) := ⟨_, rfl⟩
      rw [← ho] at HE hsz ⊢
      have hos : o.size ≤ 2520 := by omega
      have hc1 : ¬ 9223372036854775807 < x.size + 1 := by omega
      have hc2 : ¬ 9223372036854775807 < x.size + 1 + y.size := by omega
      have hc3 : ¬ 9223372036854775807 < x.size + 1 + y.size + c.size := by omega
      have hc4 : ¬ 9223372036854775807 < o.size + (x.size + 1 + y.size + c.size) := by omega
      have hc5 : ¬ 9223372036854775807 < o.size + 1 + (x.size + 1 + y.size + c.size) := by omega
      have HC := Lib.hid (cells3 wr f t c 43)
      have HB0 := Lib.hid (hb.alloc hbs (.cells #[.int .i64 f, .int .i64 t, .string c] 43))
      have HK : Hid (∀ W, Below (wr.alloc (.cells #[.int .i64 f, .int .i64 t, .string c] 43)).heap.size (wr.alloc (.cells #[.int .i64 f, .int .i64 t, .string c] 43)) W → W.cell? ⟨wr.heap.size, 0, none⟩ = some (.int .i64 f) ∧ W.cell? ⟨wr.heap.size, 1, none⟩ = some (.int .i64 t) ∧ W.cell? ⟨wr.heap.size, 2, none⟩ = some (.string c)) := Lib.hid fun W h => ⟨by rw [(bcell h).1 wr.heap.size 0 (by simp)]; exact HC.out.1, by rw [(bcell h).1 wr.heap.size 1 (by simp)]; exact HC.out.2.1, by rw [(bcell h).1 wr.heap.size 2 (by simp)]; exact HC.out.2.2⟩
      have HK0 := HK.out _ (Below.refl _ _).drew
      clear hf ht hc hxx hyy ho hcells hb hsz
      rcases Nat.eq_zero_or_pos k with h0 | h0
      · have HE2 := Lib.hid (HE.out.2 h0)
        have eA := fun W : World => run_string_add_sum (P := Tryd.prog) W (x ++ ⟨#[45]⟩ ++ y) c (by simp only [ByteArray.size_append]; rw [show (⟨#[45]⟩ : ByteArray).size = 1 from rfl]; omega)
        have eB := fun W : World => run_string_add_sum (P := Tryd.prog) W o (x ++ ⟨#[45]⟩ ++ y ++ c) (by simp only [ByteArray.size_append]; rw [show (⟨#[45]⟩ : ByteArray).size = 1 from rfl]; omega)
        have hk0 : ¬ 0 < k := by omega
        clear HE h0
        go_wp2
        go_region_held3 (fun x1 => x1.cell? ⟨wr.heap.size, 0, none⟩ = some (.int .i64 f) ∧ x1.cell? ⟨wr.heap.size, 1, none⟩ = some (.int .i64 t) ∧ x1.cell? ⟨wr.heap.size, 2, none⟩ = some (.string c))
          (first | go_keep | exact HK0 | exact HK.out _ HB1.out | exact HK.out _ HB2.out)
          (first
            | (go_at_call 37; with_reducible refine (HNT.out _).mono ?_; rintro e w2 ⟨rfl, hbx⟩; have HB2 := Lib.hid (below_next HB1.out hbx); clear hbx)
            | (go_at_call 37; with_reducible refine (HNF.out _).mono ?_; rintro e w1 ⟨rfl, hbx⟩; have HB1 := Lib.hid (below_next (Below.refl _ _).drew hbx); clear hbx))
        go_wp2
        go_roundw
        case rel => exact ⟨k + 1, by omega, by go_num, by rw [HE2.out], st_nextN HB0.out HB0.out.size HB2.out⟩
        case measure => simp [intOf]; omega
      · have HE2 := Lib.hid (HE.out.1 h0)
        have eA := fun W : World => run_string_add_sum (P := Tryd.prog) W (x ++ ⟨#[45]⟩ ++ y) c (by simp only [ByteArray.size_append]; rw [show (⟨#[45]⟩ : ByteArray).size = 1 from rfl]; omega)
        have eB := fun W : World => run_string_add_sum (P := Tryd.prog) W (o ++ ⟨#[44]⟩) (x ++ ⟨#[45]⟩ ++ y ++ c) (by simp only [ByteArray.size_append]; rw [show (⟨#[45]⟩ : ByteArray).size = 1 from rfl, show (⟨#[44]⟩ : ByteArray).size = 1 from rfl]; omega)
        clear HE
        go_wp2
        go_region_held3 (fun x1 => x1.cell? ⟨wr.heap.size, 0, none⟩ = some (.int .i64 f) ∧ x1.cell? ⟨wr.heap.size, 1, none⟩ = some (.int .i64 t) ∧ x1.cell? ⟨wr.heap.size, 2, none⟩ = some (.string c))
          (first | go_keep | exact HK0 | exact HK.out _ HB1.out | exact HK.out _ HB2.out)
          (first
            | (go_at_call 37; with_reducible refine (HNT.out _).mono ?_; rintro e w2 ⟨rfl, hbx⟩; have HB2 := Lib.hid (below_next HB1.out hbx); clear hbx)
            | (go_at_call 37; with_reducible refine (HNF.out _).mono ?_; rintro e w1 ⟨rfl, hbx⟩; have HB1 := Lib.hid (below_next (Below.refl _ _).drew hbx); clear hbx))
        go_wp2
        go_roundw
        case rel => exact ⟨k + 1, by omega, by go_num, by rw [HE2.out], st_nextN HB0.out HB0.out.size HB2.out⟩
        case measure => simp [intOf]; omega
    · obtain rfl : k = L.length := by omega
      go_wp2
      go_ret
      exact ⟨by rw [HT.out]; rfl, hb⟩
end Go.Proofs.YtnijedmnjmeciaaDoor
