/- Gates: who checks them, of both sides; rows and numbers of gates. No condition but the list's length. -/
import Derived.Test.YtbocdhibimcobaaSlIdx
namespace Go.Proofs.Ytbocdhibimcobaa
open Go.RowKit

theorem isRow_any (n : Int) (w : World) :
    Calls Try.prog 53 #[.int .i64 n] w fun e w' => e = .returned (.bool (okRow n)) ∧ w = w' := by
  unfold okRow
  by_cases h1 : 2 ≤ n
  · by_cases h2 : n ≤ 40
    · rw [decide_eq_true (show 2 ≤ n ∧ n ≤ 40 from ⟨h1, h2⟩)]
      go_enter Try.func53, Try.ntmps53
      go_wp2
      go_ret
      exact ⟨rfl, rfl⟩
    · rw [decide_eq_false (show ¬ (2 ≤ n ∧ n ≤ 40) from fun h => h2 h.2)]
      go_enter Try.func53, Try.ntmps53
      go_wp2
      go_ret
      exact ⟨rfl, rfl⟩
  · rw [decide_eq_false (show ¬ (2 ≤ n ∧ n ≤ 40) from fun h => h1 h.1)]
    go_enter Try.func53, Try.ntmps53
    go_wp2
    go_ret
    exact ⟨rfl, rfl⟩
theorem gaBoards_any (n : Int) (w : World) :
    Calls Try.prog 60 #[.int .i64 n] w fun e w' => e = .returned (.bool (okRow n)) ∧ w = w' := by
  have HI := Lib.hid (l1In_any n 2 40 w)
  unfold okRow
  obtain ⟨b, hb⟩ : ∃ b, b = decide (2 ≤ n ∧ n ≤ 40) := ⟨_, rfl⟩
  rw [← hb] at HI ⊢
  clear hb
  go_enter Try.func60, Try.ntmps60
  go_wp2_with fail
  refine HI.out.mono ?_
  rintro e w1 ⟨rfl, rfl⟩
  go_wp2
  go_ret
  exact ⟨rfl, rfl⟩

/-- a row, and a number of gates -/
def okMany (n m : Int) : Bool := okRow n && decide (0 ≤ m ∧ m ≤ 10)
theorem okMany_at {n m : Int} (h : okMany n m = true) : (2 ≤ n ∧ n ≤ 40) ∧ 0 ≤ m ∧ m ≤ 10 := by
  unfold okMany at h
  rw [Bool.and_eq_true, decide_eq_true_iff] at h
  exact ⟨okRow_at h.1, h.2⟩
theorem isRowFor_any (n m : Int) (w : World) :
    Calls Try.prog 68 #[.int .i64 n, .int .i64 m] w fun e w' => e = .returned (.bool (okMany n m)) ∧ w = w' := by
  have HR := Lib.hid (isRow_any n w)
  unfold okMany
  cases hr : okRow n
  · rw [hr] at HR
    clear hr
    go_enter Try.func68, Try.ntmps68
    go_wp2_with fail
    refine HR.out.mono ?_
    rintro e w1 ⟨rfl, rfl⟩
    go_wp2
    go_ret
    exact ⟨rfl, rfl⟩
  · rw [hr] at HR
    clear hr
    by_cases h1 : 0 ≤ m
    · by_cases h2 : m ≤ 10
      · rw [decide_eq_true (show 0 ≤ m ∧ m ≤ 10 from ⟨h1, h2⟩)]
        go_enter Try.func68, Try.ntmps68
        go_wp2_with fail
        refine HR.out.mono ?_
        rintro e w1 ⟨rfl, rfl⟩
        go_wp2
        go_ret
        exact ⟨rfl, rfl⟩
      · rw [decide_eq_false (show ¬ (0 ≤ m ∧ m ≤ 10) from fun h => h2 h.2)]
        go_enter Try.func68, Try.ntmps68
        go_wp2_with fail
        refine HR.out.mono ?_
        rintro e w1 ⟨rfl, rfl⟩
        go_wp2
        go_ret
        exact ⟨ret_bool (decide_eq_false (by omega)), rfl⟩
    · rw [decide_eq_false (show ¬ (0 ≤ m ∧ m ≤ 10) from fun h => h1 h.1)]
      go_enter Try.func68, Try.ntmps68
      go_wp2_with fail
      refine HR.out.mono ?_
      rintro e w1 ⟨rfl, rfl⟩
      go_wp2
      go_ret
      exact ⟨rfl, rfl⟩
theorem gaMany_any (n m : Int) (w : World) :
    Calls Try.prog 67 #[.int .i64 n, .int .i64 m] w fun e w' => e = .returned (.bool (okMany n m)) ∧ w = w' := by
  have HR := Lib.hid (gaBoards_any n w)
  have HI := Lib.hid (l1In_any m 0 10 w)
  unfold okMany
  obtain ⟨b, hb⟩ : ∃ b, b = decide (0 ≤ m ∧ m ≤ 10) := ⟨_, rfl⟩
  rw [← hb] at HI ⊢
  clear hb
  cases hr : okRow n
  · rw [hr] at HR
    go_enter Try.func67, Try.ntmps67
    go_wp2_with fail
    refine HR.out.mono ?_
    rintro e w1 ⟨rfl, rfl⟩
    go_wp2
    go_ret
    exact ⟨rfl, rfl⟩
  · rw [hr] at HR
    go_enter Try.func67, Try.ntmps67
    go_wp2_with fail
    refine HR.out.mono ?_
    rintro e w1 ⟨rfl, rfl⟩
    go_wp2_with fail
    refine HI.out.mono ?_
    rintro e w1 ⟨rfl, rfl⟩
    go_wp2
    go_ret
    exact ⟨rfl, rfl⟩
/-- a longest part -/
def okMost (m : Int) : Bool := decide (1 ≤ m ∧ m ≤ 40)
theorem okMost_at {m : Int} (h : okMost m = true) : 1 ≤ m ∧ m ≤ 40 := of_decide_eq_true h
theorem isLongest_any (m : Int) (w : World) :
    Calls Try.prog 75 #[.int .i64 m] w fun e w' => e = .returned (.bool (okMost m)) ∧ w = w' := by
  unfold okMost
  by_cases h1 : 1 ≤ m
  · by_cases h2 : m ≤ 40
    · rw [decide_eq_true (show 1 ≤ m ∧ m ≤ 40 from ⟨h1, h2⟩)]
      go_enter Try.func75, Try.ntmps75
      go_wp2
      go_ret
      exact ⟨rfl, rfl⟩
    · rw [decide_eq_false (show ¬ (1 ≤ m ∧ m ≤ 40) from fun h => h2 h.2)]
      go_enter Try.func75, Try.ntmps75
      go_wp2
      go_ret
      exact ⟨rfl, rfl⟩
  · rw [decide_eq_false (show ¬ (1 ≤ m ∧ m ≤ 40) from fun h => h1 h.1)]
    go_enter Try.func75, Try.ntmps75
    go_wp2
    go_ret
    exact ⟨rfl, rfl⟩

theorem okGa_no {n : Int} {L : List Int} (h : okRow n = false) : okGa n L = false := by unfold okGa; rw [h]; rfl
theorem okGa_long {n : Int} {L : List Int} (h : ¬ L.length ≤ 10) : okGa n L = false := by unfold okGa; rw [decide_eq_false h]; simp
theorem okGa_of {n : Int} {L : List Int} (h : okRow n = true) (h2 : L.length ≤ 10) : okGa n L = incF n 1 L := by unfold okGa; rw [h, decide_eq_true h2]; rfl

set_option maxHeartbeats 1000000 in
theorem gaAre_any (n : Int) (A : Option Addr) (c : Nat) (L : List Int) (w : World) (hm : L.length ≤ 1048576) (h : IntSl w A L) :
    Calls Try.prog 52 #[.int .i64 n, .slice A L.length c] w fun e w' => e = .returned (.bool (okGa n L)) ∧ w = w' := by
  have HR := Lib.hid (gaBoards_any n w)
  cases hr : okRow n
  · rw [okGa_no hr]
    rw [hr] at HR
    clear hr h
    go_enter Try.func52, Try.ntmps52
    go_wp2_with fail
    refine HR.out.mono ?_
    rintro e w1 ⟨rfl, rfl⟩
    go_wp2
    go_ret
    exact ⟨rfl, rfl⟩
  · rw [hr] at HR
    by_cases h10 : L.length ≤ 10
    · have HO := Lib.hid (okGa_of (L := L) hr h10)
      have hn := okRow_at hr
      have HI := Lib.hid (l1Rising1_any A c L (n - 1) w hm (by omega) h)
      rw [show n - 1 + 1 = n by omega] at HI
      clear hr h
      go_enter Try.func52, Try.ntmps52
      go_wp2_with fail
      refine HR.out.mono ?_
      rintro e w1 ⟨rfl, rfl⟩
      go_wp2_with fail
      refine HI.out.mono ?_
      rintro e w1 ⟨rfl, rfl⟩
      go_wp2
      go_ret
      exact ⟨ret_bool HO.out.symm, rfl⟩
    · rw [okGa_long h10]
      clear hr h
      go_enter Try.func52, Try.ntmps52
      go_wp2_with fail
      refine HR.out.mono ?_
      rintro e w1 ⟨rfl, rfl⟩
      go_wp2
      go_ret
      exact ⟨rfl, rfl⟩
set_option maxHeartbeats 1000000 in
theorem areGates_any (n : Int) (A : Option Addr) (c : Nat) (L : List Int) (w : World) (hm : L.length ≤ 1048576) (h : IntSl w A L) :
    Calls Try.prog 20 #[.int .i64 n, .slice A L.length c] w fun e w' => e = .returned (.bool (okGa n L)) ∧ w = w' := by
  have HR := Lib.hid (isRow_any n w)
  cases hr : okRow n
  · rw [okGa_no hr]
    rw [hr] at HR
    clear hr h
    go_enter Try.func20, Try.ntmps20
    go_wp2_with fail
    refine HR.out.mono ?_
    rintro e w1 ⟨rfl, rfl⟩
    go_wp2
    go_ret
    exact ⟨rfl, rfl⟩
  · rw [hr] at HR
    by_cases h10 : L.length ≤ 10
    · have HO := Lib.hid ((okGa_of (L := L) hr h10).trans (incF_one n L).symm)
      have hn := okRow_at hr
      have HI := Lib.hid (areIncreasing_any A c L n w hm (by omega) h)
      have HC := Lib.hid (hasInt_any A c L 0 w hm h)
      obtain ⟨b, hb⟩ : ∃ b, b = incF n 0 L := ⟨_, rfl⟩
      obtain ⟨d, hd⟩ : ∃ d, d = decide ((0 : Int) ∈ L) := ⟨_, rfl⟩
      rw [← hb, ← hd] at HO
      rw [← hb] at HI
      rw [← hd] at HC
      clear hr h hb hd
      cases b
      · go_enter Try.func20, Try.ntmps20
        go_wp2_with fail
        refine HR.out.mono ?_
        rintro e w1 ⟨rfl, rfl⟩
        go_wp2_with fail
        refine HI.out.mono ?_
        rintro e w1 ⟨rfl, rfl⟩
        go_wp2
        go_ret
        exact ⟨ret_bool HO.out.symm, rfl⟩
      · go_enter Try.func20, Try.ntmps20
        go_wp2_with fail
        refine HR.out.mono ?_
        rintro e w1 ⟨rfl, rfl⟩
        go_wp2_with fail
        refine HI.out.mono ?_
        rintro e w1 ⟨rfl, rfl⟩
        go_wp2_with fail
        refine HC.out.mono ?_
        rintro e w1 ⟨rfl, rfl⟩
        go_wp2
        go_ret
        exact ⟨ret_bool HO.out.symm, rfl⟩
    · rw [okGa_long h10]
      clear hr h
      go_enter Try.func20, Try.ntmps20
      go_wp2_with fail
      refine HR.out.mono ?_
      rintro e w1 ⟨rfl, rfl⟩
      go_wp2
      go_ret
      exact ⟨rfl, rfl⟩
theorem implAreGates_any (a0 : Int) (A1 : Option Addr) (c1 : Nat) (L1 : List Int) (w : World) (_ : (Lit.int .i64 a0).wf = true) (l1 : L1.length ≤ 1048576) (_ : WfL L1) (_ : L1.length ≤ c1) (h1 : IntSl w A1 L1) :
    Calls Try.prog 20 #[.int .i64 a0, .slice A1 L1.length c1] w fun e w' => e = .returned (.bool (okGa a0 L1)) ∧ Below w.heap.size w w' :=
  (areGates_any a0 A1 c1 L1 w l1 h1).mono fun _ _ h => ⟨h.1, by rw [← h.2]; exact Below.refl _ _⟩
theorem specAreGates_any (a0 : Int) (A1 : Option Addr) (c1 : Nat) (L1 : List Int) (w : World) (_ : (Lit.int .i64 a0).wf = true) (l1 : L1.length ≤ 1048576) (_ : WfL L1) (_ : L1.length ≤ c1) (h1 : IntSl w A1 L1) :
    Calls Try.prog 18 #[.int .i64 a0, .slice A1 L1.length c1] w fun e w' => e = .returned (.bool (okGa a0 L1)) ∧ Below w.heap.size w w' := by
  have HG := Lib.hid (gaAre_any a0 A1 c1 L1 w l1 h1)
  go_enter Try.func18, Try.ntmps18
  go_wp2_with fail
  refine HG.out.mono ?_
  rintro e w1 ⟨rfl, rfl⟩
  go_wp2
  go_ret
  exact ⟨rfl, Below.refl _ _⟩
end Go.Proofs.Ytbocdhibimcobaa
