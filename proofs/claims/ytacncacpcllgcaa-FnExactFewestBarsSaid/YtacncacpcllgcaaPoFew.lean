/- The model's fewest bars: 'spec.poBars', 'spec.poFewest'; FirstCut and FewestBars of the model. No condition but the lists' lengths. -/
import Derived.Test.YtacncacpcllgcaaPoCut
import Derived.Test.YtacncacpcllgcaaFits
namespace Go.Proofs.Ytacncacpcllgcaa
open Go.RowKit

set_option maxRecDepth 20000 in
set_option maxHeartbeats 1000000 in
theorem poBars_any (n : Nat) (bar : Int) (w : World) (hn : n ≤ 8) :
    Calls Try.prog 105 #[.int .i64 n, .int .i64 bar] w fun e w' => ∃ v, e = .returned v ∧ OwnInts w' w.heap.size 3 v (List.replicate n bar) ∧ Below w.heap.size w w' := by
  obtain ⟨i0, hi, hz0, hz1, hz2⟩ := info_parts info_int
  have HR0 : Hid (∀ m, List.replicate (m + 1) bar = List.replicate m bar ++ [bar]) := Lib.hid fun m => List.replicate_succ'
  go_enter Try.func105, Try.ntmps105
  go_wp2
  go_loopw [0, 5] (fun i v wr => ∃ j : Nat, j ≤ n ∧ i = .int .i64 ((n - j : Nat) : Int) ∧ OwnInts wr w.heap.size 3 v (List.replicate j bar) ∧ Below w.heap.size w wr) (fun i _ _ => (intOf i).toNat)
  case atStart => exact ⟨0, Nat.zero_le _, rfl, OwnInts.nil _ _ _, Below.refl _ _⟩
  case round =>
    obtain ⟨j, hj, rfl, hown, hb⟩ := hrel
    have HO := Lib.hid hown
    have HB := Lib.hid hb
    clear hown hb
    by_cases hlt : j < n
    · obtain ⟨m, hm⟩ : ∃ m, m = n - (j + 1) := ⟨_, rfl⟩
      have HM := Lib.hid hm
      have hm8 : m ≤ 8 := by omega
      have e0 : ((n - j : Nat) : Int) = (m : Int) + 1 := by omega
      rw [e0]
      have hlen : (List.replicate j bar).length = j := List.length_replicate
      have hbs := HB.out.size
      clear hm e0
      go_wp2_with (at_builtin; refine wpList_append_own _ rfl (.tmp 10) (.tmp 12) _ rfl w.heap.size 3 i0 _ 1 8 Try.underlying26 hi hz0 hz1 hz2 rfl (by decide) _ (List.replicate j bar).length ((List.replicate j bar).map (Value.int .i64)) rfl (World.ownsRow.alloc HO.out _) ⟨_, 0, none⟩ 1 1 [.int .i64 (bar)] rfl rfl (World.news_of_block (cs := #[.int .i64 (bar)]) (t := 3) (fr := (0, 0)) (by first | exact heap_alloc_new _ _ | exact heap_new_set _ _ _ _ _)) (by simp [Value.oneCell']) (by unfold maxLen; omega) (by omega) (by simp; omega) ?_; intro v' w3 hown' hgrow _)
      have HR : Hid (OwnInts w3 w.heap.size 3 v' (List.replicate (j + 1) bar)) := Lib.hid (by rw [HR0.out]; exact OwnInts.snoc hown')
      have HB3 : Hid (Below w.heap.size w w3) := Lib.hid ((HB.out.alloc hbs _).grown hgrow (by simp; omega) fun k hk => (World.ownsRow.lt HO.out k hk).1)
      clear hown' hgrow
      go_wp2
      go_roundw
      case rel => exact ⟨j + 1, by omega, by (rw [← HM.out]; first | done | go_num), HR.out, HB3.out⟩
      case measure => (simp [intOf]; try omega)
    · obtain rfl : j = n := by omega
      rw [Nat.sub_self]
      go_wp2
      go_ret
      exact ⟨_, rfl, HO.out, HB.out⟩

/-- the first cut out of b bars or more, and how many -/
def fewM (L : List Int) (bar : Int) : Nat → Nat → List Int × Nat
  | 0, _ => (upFrom 0 L.length, L.length)
  | f + 1, b => match cutM L (List.replicate b bar) with
    | some c => (c, b)
    | none => fewM L bar f (b + 1)
def fewR (L : List Int) (bar : Int) : List Int × Nat := fewM L bar (L.length - 1) 1
theorem fewM_some {L : List Int} {bar : Int} {b : Nat} {c : List Int} (hb : b < L.length) (h : cutM L (List.replicate b bar) = some c) : fewM L bar (L.length - b) b = (c, b) := by
  obtain ⟨f, hf⟩ : ∃ f, L.length - b = f + 1 := ⟨L.length - b - 1, by omega⟩
  rw [hf]; unfold fewM; rw [h]
theorem fewM_none {L : List Int} {bar : Int} {b : Nat} (hb : b < L.length) (h : cutM L (List.replicate b bar) = none) : fewM L bar (L.length - b) b = fewM L bar (L.length - (b + 1)) (b + 1) := by
  obtain ⟨f, hf⟩ : ∃ f, L.length - b = f + 1 := ⟨L.length - b - 1, by omega⟩
  rw [hf, show L.length - (b + 1) = f by omega]
  show (match cutM L (List.replicate b bar) with | some c => (c, b) | none => fewM L bar f (b + 1)) = _
  rw [h]
theorem upFrom_snoc : ∀ (m n : Nat), upFrom n (m + 1) = upFrom n m ++ [((n + m : Nat) : Int)]
  | 0, n => rfl
  | m + 1, n => by
    show (n : Int) :: upFrom (n + 1) (m + 1) = (n : Int) :: upFrom (n + 1) m ++ _
    rw [upFrom_snoc m (n + 1), List.cons_append, show n + 1 + m = n + (m + 1) by omega]

set_option maxRecDepth 20000 in
set_option maxHeartbeats 4000000 in
theorem poFewest_any (A0 : Option Addr) (c0 : Nat) (L : List Int) (bar : Int) (w : World) (hl1 : 1 ≤ L.length) (hl8 : L.length ≤ 8) (hx : ∀ x ∈ L, 1 ≤ x ∧ x ≤ 1000) (hb : 0 ≤ bar ∧ bar ≤ 1000000) (h0 : IntSl w A0 L) :
    Calls Try.prog 95 #[.slice A0 L.length c0, .int .i64 bar] w fun e w' => ∃ v, e = .returned (.tuple #[v, .int .i64 ((fewR L bar).2 : Nat)]) ∧ OwnInts w' w.heap.size 3 v (fewR L bar).1 ∧ Below w.heap.size w w' := by
  obtain ⟨i0, hi, hz0, hz1, hz2⟩ := info_parts info_int
  have HPB := Lib.hid fun (n : Nat) W (h : n ≤ 8) => poBars_any n bar W h
  have HPC := Lib.hid fun (n : Nat) (hn : n ≤ 8) (A : Option Addr) (c : Nat) W (q0 : IntSl W A0 L) (q1 : IntSl W A (List.replicate n bar)) =>
    poCut_any A0 c0 L hl8 hx L.length [] (List.replicate n bar) none 0 A c W (by simp) (by rw [List.length_replicate]; exact hn) (fun y hy => by rw [List.eq_of_mem_replicate hy]; exact hb) q0 (IntSl.nil _ _) q1
  simp only [List.length_replicate, List.length_nil, List.drop_zero] at HPC
  have HS0 := Lib.hid h0
  obtain ⟨Z, hZ⟩ : ∃ Z, Z = fewR L bar := ⟨_, rfl⟩
  rw [← hZ]
  have HZ0 : Hid (Z = fewM L bar (L.length - 1) 1) := Lib.hid hZ
  clear hZ h0 hx
  go_enter Try.func95, Try.ntmps95
  go_wp2
  go_loopw [6, 7] (fun i _ wr => ∃ b : Nat, 1 ≤ b ∧ b ≤ L.length ∧ i = .int .i64 b ∧ Hid (Z = fewM L bar (L.length - b) b) ∧ Below w.heap.size w wr) (fun i _ _ => L.length - (intOf i).toNat)
  case atStart => exact ⟨1, Nat.le_refl _, hl1, rfl, HZ0, Below.refl _ _⟩
  case round =>
    clear HZ0
    obtain ⟨b, b1, b2, rfl, HZ, hbw⟩ := hrel
    have HB := Lib.hid hbw
    clear hbw
    by_cases hlt : b < L.length
    · have hb8 : b ≤ 8 := by omega
      go_wp2_with fail
      refine (HPB.out b _ hb8).mono ?_
      rintro e w2 ⟨v2, rfl, hown, hb2⟩
      have HO2 := Lib.hid hown
      have HB2 := Lib.hid (below_nextN HB.out HB.out.size hb2)
      obtain ⟨A2, c2, hv2⟩ := own_any hown
      rw [List.length_replicate] at hv2
      subst hv2
      clear hown hb2
      go_wp2_with fail
      refine (HPC.out b hb8 _ _ _ (HS0.out.below HB2.out) (IntSl.of_own HO2.out)).mono ?_
      rintro e w3 ⟨v3, rfl, hown3, hb3⟩
      have HB3 := Lib.hid (below_nextN HB2.out HB2.out.size hb3)
      cases hc : cutM L (List.replicate b bar) with
      | none =>
        rw [hc, show outM [] none = [] from rfl] at hown3
        obtain ⟨A3, c3, hv3⟩ := OwnInts.len hown3
        rw [List.length_nil] at hv3
        subst hv3
        have HN : Hid (Z = fewM L bar (L.length - (b + 1)) (b + 1)) := Lib.hid (HZ.out.trans (fewM_none hlt hc))
        clear hown3 hb3 hc
        go_wp2
        go_roundw
        case rel => exact ⟨b + 1, by omega, by omega, by go_num, HN, HB3.out⟩
        case measure => simp [intOf]; omega
      | some c =>
        rw [hc, show outM [] (some c) = c from List.nil_append c] at hown3
        have hcl := cutM_len hc
        have HV : Hid (Z = (c, b)) := Lib.hid (HZ.out.trans (fewM_some hlt hc))
        have HO3 := Lib.hid (hown3.mono HB2.out.size)
        obtain ⟨A3, c3, rfl⟩ := OwnInts.len hown3
        have hc0 : (0 : Int) < (c.length : Int) := by omega
        clear hown3 hb3 hc hcl
        go_wp2
        go_ret2
        exact ⟨_, by (rw [HV.out]; first | done | rfl), by rw [HV.out]; exact HO3.out, HB3.out⟩
    · obtain rfl : b = L.length := by omega
      have HV : Hid (Z = (upFrom 0 L.length, L.length)) := Lib.hid (HZ.out.trans (by rw [Nat.sub_self]; rfl))
      have hbs := HB.out.size
      have HUS : Hid (∀ j, upFrom 0 (j + 1) = upFrom 0 j ++ [((j : Nat) : Int)]) := Lib.hid fun j => by rw [upFrom_snoc, Nat.zero_add]
      go_wp2
      go_loopw [8, 9, 28] (fun v _ i wi => ∃ j : Nat, j ≤ L.length ∧ i = .int .i64 j ∧ OwnInts wi w.heap.size 3 v (upFrom 0 j) ∧ Below w.heap.size w wi) (fun _ _ i _ => L.length - (intOf i).toNat)
      case atStart => exact ⟨0, Nat.zero_le _, rfl, OwnInts.nil _ _ _, HB.out⟩
      case round =>
        obtain ⟨j, hj, rfl, hown, hbj⟩ := hrel
        have HOj := Lib.hid hown
        have HBj := Lib.hid hbj
        clear hown hbj
        have hul := upFrom_len 0 j
        have hbsj := HBj.out.size
        by_cases hjl : j < L.length
        · go_wp2_with (at_builtin; refine wpList_append_own _ rfl (.tmp 31) (.tmp 33) _ rfl w.heap.size 3 i0 _ 1 8 Try.underlying26 hi hz0 hz1 hz2 rfl (by decide) _ (upFrom 0 j).length ((upFrom 0 j).map (Value.int .i64)) rfl (World.ownsRow.alloc HOj.out _) ⟨_, 0, none⟩ 1 1 [.int .i64 (j)] rfl rfl (World.news_of_block (cs := #[.int .i64 (j)]) (t := 3) (fr := (0, 0)) (by first | exact heap_alloc_new _ _ | exact heap_new_set _ _ _ _ _)) (by simp [Value.oneCell']) (by unfold maxLen; omega) (by omega) (by simp; omega) ?_; intro v' w3 hown' hgrow _)
          have HR : Hid (OwnInts w3 w.heap.size 3 v' (upFrom 0 (j + 1))) := Lib.hid (by rw [HUS.out]; exact OwnInts.snoc hown')
          have HBR : Hid (Below w.heap.size w w3) := Lib.hid ((HBj.out.alloc hbsj _).grown hgrow (by simp; omega) fun k hk => (World.ownsRow.lt HOj.out k hk).1)
          clear hown' hgrow
          go_wp2
          go_roundw
          case rel => exact ⟨j + 1, by omega, by go_num, HR.out, HBR.out⟩
          case measure => simp [intOf]; omega
        · obtain rfl : j = L.length := by omega
          go_wp2
          go_ret2
          exact ⟨_, by (rw [HV.out]; first | done | rfl), by rw [HV.out]; exact HOj.out, HBj.out⟩
end Go.Proofs.Ytacncacpcllgcaa
