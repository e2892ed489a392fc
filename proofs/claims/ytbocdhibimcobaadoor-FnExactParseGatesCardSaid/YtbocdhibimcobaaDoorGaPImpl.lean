/- ParseWidths of the program. No condition but the text's length; the library's variables read as they are laid. -/
import Derived.Test.YtbocdhibimcobaaDoorGaPieces
import Derived.Test.YtbocdhibimcobaaDoorGaTxt2
namespace Go.Proofs.YtbocdhibimcobaaDoor.Ga
open Go.RowKit

/-- what the call needs of the library's variables -/
def Env (B : Nat) (w : World) : Prop :=
  Tab B w ∧ (∃ m, 3 < B ∧ w.cell? ⟨3, 0, none⟩ = some (.int .i64 m)) ∧
  (∃ t p, 0 < B ∧ w.cell? ⟨0, 0, none⟩ = some (.iface t p)) ∧ (∃ t p, 1 < B ∧ w.cell? ⟨1, 0, none⟩ = some (.iface t p))
theorem Env.on {B : Nat} {w w1 : World} (h : Env B w) (hb : Below B w w1) : Env B w1 := by
  obtain ⟨h1, ⟨m, l1, c1⟩, ⟨t2, p2, l2, c2⟩, ⟨t3, p3, l3, c3⟩⟩ := h
  exact ⟨h1.on hb, ⟨m, l1, by rw [hb.cell (p := ⟨3, 0, none⟩) l1]; exact c1⟩, ⟨t2, p2, l2, by rw [hb.cell (p := ⟨0, 0, none⟩) l2]; exact c2⟩, ⟨t3, p3, l3, by rw [hb.cell (p := ⟨1, 0, none⟩) l3]; exact c3⟩⟩
theorem env_at {w W : World} (h : Env w.heap.size w) (hb : Below w.heap.size w W) : Env W.heap.size W := by
  have hz := hb.size
  obtain ⟨h1, ⟨m, l1, c1⟩, ⟨t2, p2, l2, c2⟩, ⟨t3, p3, l3, c3⟩⟩ := h.on hb
  exact ⟨fun w' h' => h1 w' (h'.mono hz), ⟨m, by omega, c1⟩, ⟨t2, p2, by omega, c2⟩, ⟨t3, p3, by omega, c3⟩⟩

def isNum (p : ByteArray) : Bool := match Lib.atoiAll p.data.toList with | .ok _ => true | _ => false
def numOf (p : ByteArray) : Int := match Lib.atoiAll p.data.toList with | .ok v => v | _ => 0
theorem atoi_yes (p : ByteArray) (w : World) (hs : p.size ≤ 1048576) (h : isNum p = true) :
    Calls Tryd.prog 57 #[.string p] w fun e w' => e = .returned (.tuple #[.int .i64 (numOf p), .nilIface]) ∧ Below w.heap.size w w' := by
  unfold isNum at h
  unfold numOf
  rcases hv : Lib.atoiAll p.data.toList with v | _ | _
  · refine (Tryd.strconv_Atoi_ok p (by omega) v hv w).mono ?_
    rintro e w' ⟨rfl, rfl | ⟨t, rfl⟩⟩
    · exact ⟨rfl, Below.refl _ _⟩
    · exact ⟨rfl, Lib.bytesWorld_below _ _ _⟩
  · rw [hv] at h; cases h
  · rw [hv] at h; cases h
theorem atoi_no (p : ByteArray) (w : World) {B : Nat} (he : Env B w) (hs : p.size ≤ 1048576) (h : isNum p = false) :
    Calls Tryd.prog 57 #[.string p] w fun e w' => ∃ v t a, e = .returned (.tuple #[.int .i64 v, .iface t a]) ∧ Below w.heap.size w w' := by
  obtain ⟨-, -, ⟨t2, p2, l2, c2⟩, ⟨t3, p3, l3, c3⟩⟩ := he
  unfold isNum at h
  rcases hv : Lib.atoiAll p.data.toList with v | _ | _
  · rw [hv] at h; cases h
  · refine Calls.mono (Any.strconv_Atoi_syntax Tryd.laysC172 p (by omega) hv _ w c2 (Or.inr ⟨_, _, rfl⟩)) ?_
    rintro e w' ⟨N, rfl, -, -, hb⟩
    exact ⟨_, _, _, rfl, hb⟩
  · refine (Tryd.strconv_Atoi_range p (by omega) hv _ w c3 (Or.inr ⟨_, _, rfl⟩)).mono ?_
    rintro e w' ⟨N, rfl, -, -, hb⟩
    exact ⟨_, _, _, rfl, hb⟩
def wordsN (s : ByteArray) (n : Nat) : List ByteArray := Lib.splitB ⟨#[124]⟩ 0 (min n (s.size + 1) - 1) s
theorem wordsN_len (s : ByteArray) (n : Nat) (h : n ≤ 1000) : (wordsN s n).length ≤ n + 1 := by
  have := Lib.splitB_length_le ⟨#[124]⟩ 0 (min n (s.size + 1) - 1) s
  unfold wordsN; omega
theorem split_n (s : ByteArray) (n : Nat) (w : World) {B : Nat} (he : Env B w) (hs : s.size ≤ 1048576) (h1 : 1 ≤ n) (h2 : n ≤ 1000) :
    Calls Tryd.prog 56 #[.string s, .string ⟨#[124]⟩, .int .i64 n] w fun e w' => ∃ c, e = .returned (.slice (some ⟨w.heap.size, 0, none⟩) (wordsN s n).length c) ∧ (wordsN s n).length ≤ c ∧ Below w.heap.size w w' ∧ w.heap.size < w'.heap.size ∧
      ∀ j (h : j < (wordsN s n).length), w'.cell? ⟨w.heap.size, j, none⟩ = some (.string (wordsN s n)[j]) := by
  obtain ⟨-, ⟨m, l1, c1⟩, -, -⟩ := he
  refine (Tryd.strings_SplitN s ⟨#[124]⟩ n m w (by omega) c1 (by decide) h1 (by omega)).mono ?_
  rintro e w' ⟨rfl, rfl⟩
  have hl := Lib.splitB_length_le ⟨#[124]⟩ 0 (min n (s.size + 1) - 1) s
  refine ⟨min n (s.size + 1), rfl, by unfold wordsN; omega, below_new _ _, by show w.heap.size < (w.heap.push _).size; rw [Array.size_push]; omega, ?_⟩
  intro j hj
  rw [World.cell?_alloc_mark]
  unfold Lib.cellsOf
  rw [List.getElem?_toArray, List.getElem?_append_left (by rw [List.length_map]; exact hj), List.getElem?_map]
  have hj' : j < (Lib.splitB ⟨#[124]⟩ 0 (min n (s.size + 1) - 1) s).length := hj
  rw [List.getElem?_eq_getElem hj']
  rfl

theorem split_size (sep : ByteArray) (save : Nat) : ∀ (k : Nat) (s : ByteArray), ∀ p ∈ Lib.splitB sep save k s, p.size ≤ s.size
  | 0, s, p, hp => by rw [Lib.splitB_zero, List.mem_singleton] at hp; rw [hp]; exact Nat.le_refl _
  | k + 1, s, p, hp => by
    unfold Lib.splitB at hp
    split at hp
    · rw [List.mem_singleton] at hp; rw [hp]; exact Nat.le_refl _
    · rcases List.mem_cons.1 hp with h | h
      · rw [h]; exact extract_le _ _ _
      · exact Nat.le_trans (split_size sep save k _ p h) (extract_le _ _ _)
theorem wordsN_pos (s : ByteArray) (n : Nat) : 1 ≤ (wordsN s n).length := by
  unfold wordsN
  generalize min n (s.size + 1) - 1 = k
  cases k with
  | zero => rw [Lib.splitB_zero]; exact Nat.le_refl _
  | succ k => unfold Lib.splitB; split <;> simp
/-- the text is one of numbers, written as they are written -/
def numsN (s : ByteArray) (n : Nat) : List Int := (wordsN s n).map numOf
def okNN (s : ByteArray) (n : Nat) : Bool := (wordsN s n).all isNum && decide (txt (numsN s n) = s)
def resNN (s : ByteArray) (n : Nat) : List Int := if okNN s n = true then numsN s n else []
theorem atoi_rng {l : List UInt8} {v : Int} (h : Lib.atoiAll l = .ok v) : -9223372036854775808 ≤ v ∧ v ≤ 9223372036854775807 := Lib.atoiAll_bounds h
theorem numOf_rng (p : ByteArray) : -9223372036854775808 ≤ numOf p ∧ numOf p ≤ 9223372036854775807 := by
  unfold numOf
  split
  · next h => exact atoi_rng h
  · omega
theorem few_nums (s : ByteArray) (n : Nat) (h : n ≤ 900) : Few (numsN s n) := by
  have h1 := wordsN_pos s n
  have h2 := wordsN_len s n (by omega)
  unfold Few numsN
  rw [List.length_map]
  refine ⟨h1, by omega, fun x hx => ?_⟩
  obtain ⟨p, -, rfl⟩ := List.mem_map.1 hx
  exact numOf_rng p
theorem nums_succ {s : ByteArray} {n k : Nat} (h : k < (wordsN s n).length) : (numsN s n).take (k + 1) = (numsN s n).take k ++ [numOf (wordsN s n)[k]] := by
  have h' : k < (numsN s n).length := by unfold numsN; rw [List.length_map]; exact h
  rw [List.take_succ_eq_append_getElem h']
  simp [numsN]
end Go.Proofs.YtbocdhibimcobaaDoor.Ga
