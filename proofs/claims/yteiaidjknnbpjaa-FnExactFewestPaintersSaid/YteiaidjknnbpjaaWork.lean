/- WorkOf: what each painter works. No condition but the lists' lengths. -/
import Derived.Test.YteiaidjknnbpjaaCut
namespace Go.Proofs.Yteiaidjknnbpjaa
open Go.RowKit

/-- how many boards the first k painters have -/
def posN (T : List Nat) (k : Nat) : Nat := (T.take k).sum
/-- what the painter k works -/
def workN (W : List Int) (T : List Nat) (k : Nat) : Int := ((W.drop (posN T k)).take (T.getD k 0)).sum
def workJ (W : List Int) (T : List Nat) (j : Nat) : List Int := (List.range j).map (workN W T)
theorem posN_succ {T : List Nat} {k : Nat} (h : k < T.length) : posN T (k + 1) = posN T k + T[k] := by
  unfold posN; rw [List.take_succ_eq_append_getElem h, List.sum_append]; simp
theorem posN_le (T : List Nat) (k : Nat) : posN T k ≤ T.sum := by
  unfold posN
  have : T.sum = (T.take k).sum + (T.drop k).sum := by rw [← List.sum_append, List.take_append_drop]
  omega
theorem getD_nat (T : List Nat) (k : Nat) (h : k < T.length) : T.getD k 0 = T[k] := by
  rw [List.getD_eq_getElem?_getD, List.getElem?_eq_getElem h]; rfl
theorem workJ_len (W : List Int) (T : List Nat) (j : Nat) : (workJ W T j).length = j := by simp [workJ]
theorem workJ_succ (W : List Int) (T : List Nat) (j : Nat) : workJ W T (j + 1) = workJ W T j ++ [workN W T j] := by
  unfold workJ; rw [List.range_succ, List.map_append]; rfl
theorem workJ_at (W : List Int) (T : List Nat) (n j : Nat) (h : j < n) : ((workJ W T n).map (Value.int .i64))[j]? = some (.int .i64 (workN W T j)) := by
  unfold workJ; rw [List.map_map, List.getElem?_map, List.getElem?_range h]; rfl
theorem workN_eq {W : List Int} {T : List Nat} {k : Nat} (h : k < T.length) : workN W T k = ((W.drop (posN T k)).take T[k]).sum := by unfold workN; rw [getD_nat T k h]
theorem nats_of {S : List Int} (h : ∀ x ∈ S, 0 ≤ x) : S = (S.map Int.toNat).map fun n : Nat => (n : Int) := by
  rw [List.map_map]
  symm
  exact (List.map_congr_left fun x hx => Int.toNat_of_nonneg (h x hx)).trans (List.map_id' S)
theorem sum_cast (T : List Nat) : (T.map fun n : Nat => (n : Int)).sum = (T.sum : Int) := by
  induction T with
  | nil => rfl
  | cons a T ih => rw [List.map_cons, List.sum_cons, ih, List.sum_cons]; omega
/-- a share, as natural numbers -/
theorem isSh_nats {n : Nat} {p : Int} {S : List Int} (h : isSh n p S = true) : ∃ T : List Nat, S = T.map (fun n : Nat => (n : Int)) ∧ T.sum = n ∧ S.map Int.toNat = T ∧ (T.length : Int) = p := by
  unfold isSh at h
  rw [Bool.and_eq_true, Bool.and_eq_true, decide_eq_true_iff, decide_eq_true_iff] at h
  obtain ⟨h1, h2, h3⟩ := h
  have e := nats_of (S := S) fun x hx => (allIn_mem h2 hx).1
  refine ⟨S.map Int.toNat, e, ?_, rfl, by rw [List.length_map]; exact h1⟩
  rw [e, sum_cast] at h3
  omega

set_option maxRecDepth 20000 in
set_option maxHeartbeats 2000000 in
theorem shWork_any (A : Option Addr) (c : Nat) (W : List Int) (A2 : Option Addr) (c2 : Nat) (T : List Nat) (w : World) (hw : okW W = true) (hc : W.length ≤ c) (hT : T.length ≤ 5) (hs : T.sum = W.length) (h : IntSl w A W) (h2 : IntSl w A2 (T.map fun n : Nat => (n : Int))) :
    Calls Try.prog 99 #[.slice A W.length c, .slice A2 T.length c2] w fun e w' => ∃ v, e = .returned v ∧ OwnInts w' w.heap.size 3 v (workJ W T T.length) ∧ Below w.heap.size w w' := by
  obtain ⟨i0, hi, hz0, hz1, hz2⟩ := info_parts info_int
  have hwl := okW_len hw
  have hwx := Lib.hid (okW_mem hw)
  have HSL := Lib.hid h
  have HS2 := Lib.hid h2
  clear h h2 hw
  go_enter Try.func99, Try.ntmps99
  go_wp2
  go_loopw [5, 6, 8, 11] (fun v a _ i wr => ∃ j : Nat, j ≤ T.length ∧ i = .int .i64 j ∧ a = .int .i64 (posN T j) ∧ OwnInts wr w.heap.size 3 v (workJ W T j) ∧ Below w.heap.size w wr) (fun _ _ _ i _ => T.length - (intOf i).toNat)
  case atStart => exact ⟨0, Nat.zero_le _, rfl, rfl, OwnInts.nil _ _ _, Below.refl _ _⟩
  case round =>
    obtain ⟨j, hj, rfl, rfl, hown, hb⟩ := hrel
    have HO := Lib.hid hown
    clear hown
    by_cases hlt : j < T.length
    · obtain ⟨g2, o2, rfl, hg2, hat2⟩ := (HS2.out.below hb).some (by rw [List.length_map]; omega)
      have hc2 := hat2 j (by rw [List.length_map]; omega)
      rw [List.getElem_map] at hc2
      have HP := Lib.hid (posN_succ hlt)
      have hp1 := posN_le T (j + 1)
      rw [HP.out, hs] at hp1
      have HN := Lib.hid (workJ_succ W T j)
      have HE := Lib.hid (workN_eq (W := W) hlt)
      have hlen := workJ_len W T j
      obtain ⟨q, hq⟩ : ∃ q, q = T[j] := ⟨_, rfl⟩
      obtain ⟨p, hp⟩ : ∃ p, p = posN T j := ⟨_, rfl⟩
      rw [← hq, ← hp] at HP HE
      rw [← hq] at hc2
      rw [← hp] at hp1
      rw [← hq] at hp1
      rw [← hp]
      have hcut := fun W0 => cut_ln A W.length c p q (by omega) W0
      have HCL := Lib.hid (cut_len (L := W) hp1)
      have HCX := Lib.hid fun x (hx : x ∈ (W.drop p).take q) => hwx.out x (cut_mem hx)
      have HCS := Lib.hid fun W0 (hW0 : Below w.heap.size w W0) => shSum_w (c := c - p) HCL.out (by omega) HCX.out ((HSL.out.below hW0).cut p q c hc)
      have hbs := hb.size
      have hsb := Lib.hid (sum_w HCL.out (by omega) HCX.out)
      clear hat2 hp hq
      go_wp2_with (first
        | (go_at_call 92; refine (HCS.out _ hb).mono ?_; rintro e w2 ⟨rfl, rfl⟩; rw [← HE.out])
        | (at_builtin; refine wpList_append_own _ rfl (.tmp 15) (.tmp 23) _ rfl w.heap.size 3 i0 _ 1 8 Try.underlying24 hi hz0 hz1 hz2 rfl (by decide) _ (workJ W T j).length ((workJ W T j).map (Value.int .i64)) rfl (World.ownsRow.alloc HO.out _) ⟨_, 0, none⟩ 1 1 [.int .i64 (workN W T j)] rfl rfl (World.news_of_block (cs := #[.int .i64 (workN W T j)]) (t := 3) (fr := (0, 0)) (heap_alloc_new _ _)) (by simp [Value.oneCell']) (by unfold maxLen; omega) (by omega) (by simp; omega) ?_; intro v' w3 hown' hgrow _))
      have HR : Hid (OwnInts w3 w.heap.size 3 v' (workJ W T (j + 1))) := Lib.hid (by rw [HN.out]; exact OwnInts.snoc hown')
      have HB3 : Hid (Below w.heap.size w w3) := Lib.hid ((hb.alloc hbs _).grown hgrow (by simp; omega) fun k hk => (World.ownsRow.lt HO.out k hk).1)
      clear hown' hgrow
      go_wp2
      go_roundw
      case rel => exact ⟨j + 1, by omega, by go_num, by rw [HP.out]; go_num, HR.out, HB3.out⟩
      case measure => simp [intOf]; omega
    · obtain rfl : j = T.length := by omega
      go_wp2
      go_ret
      exact ⟨_, rfl, HO.out, hb⟩
end Go.Proofs.Yteiaidjknnbpjaa
