/- LeastBar: the first bar that is long enough; the model. No condition but the list's length. -/
import Derived.Test.YtnijedmnjmeciaaLeastMath
import Derived.Test.YtnijedmnjmeciaaPoFew
import Derived.Test.YtnijedmnjmeciaaRailsC
namespace Go.Proofs.Ytnijedmnjmeciaa
open Go.RowKit

/-- so many bars of a length are enough -/
def lbP (L : List Int) (q t : Nat) : Bool := (cutM L (List.replicate q (t : Int))).isSome
theorem lbP_iff (L : List Int) (q t : Nat) : lbP L q t = true ↔ canM L (List.replicate q (t : Int)) := (canM_iff _ _).symm
theorem lbP_mono {L : List Int} {q a b : Nat} (h : a ≤ b) (ha : lbP L q a = true) : lbP L q b = true := by
  rw [lbP_iff] at ha ⊢
  exact canM_longer (by omega) ha
theorem lbP_short {L : List Int} {q t : Nat} (hL : ∀ x ∈ L, 1 ≤ x ∧ x ≤ 500) (h : lbP L q t = true) : ∀ x ∈ L, x ≤ t := by
  rw [lbP_iff] at h
  exact canM_short (fun x hx => by have := hL x hx; omega) (fun y hy => by rw [List.eq_of_mem_replicate hy]; exact Int.le_refl _) h
theorem sum_le500 : ∀ {L : List Int}, (∀ x ∈ L, 1 ≤ x ∧ x ≤ 500) → (L.length : Int) ≤ L.sum ∧ L.sum ≤ 500 * (L.length : Int)
  | [], _ => by simp
  | x :: L, h => by
    have h1 := h x (List.mem_cons_self ..)
    have h2 := sum_le500 (L := L) fun y hy => h y (List.mem_cons_of_mem _ hy)
    rw [List.sum_cons, List.length_cons]
    omega
theorem lbP_sum {L : List Int} {q : Nat} (hq : 1 ≤ q) (hL : ∀ x ∈ L, 1 ≤ x ∧ x ≤ 500) {s : Nat} (hs : (s : Int) = L.sum) : lbP L q s = true := by
  rw [lbP_iff]
  obtain ⟨p, rfl⟩ : ∃ p, q = p + 1 := ⟨q - 1, by omega⟩
  rw [List.replicate_succ]
  exact canM_one (fun x hx => by have := hL x hx; omega) (by omega)
/-- the least bar -/
def lbN (L : List Int) (q : Nat) : Nat := ((List.range 4001).find? (lbP L q)).getD 0
theorem lbN_of {L : List Int} {q m : Nat} (hm : m ≤ 4000) (h1 : lbP L q m = true) (h2 : ∀ t, t < m → lbP L q t = false) : lbN L q = m := by
  unfold lbN
  rw [List.find?_range_eq_some.2 ⟨h1, by simp; omega, fun j hj => by rw [h2 j hj]; rfl⟩]
  rfl
def okLB (L : List Int) (q : Int) : Bool := okRa L && decide (1 ≤ q ∧ q ≤ 8)
def lbR (L : List Int) (q : Int) : Int := if okLB L q = true then ((lbN L q.toNat : Nat) : Int) else 0
theorem okLB_at {L : List Int} {q : Int} (h : okLB L q = true) : okRa L = true ∧ 1 ≤ q ∧ q ≤ 8 := by
  unfold okLB at h
  rw [Bool.and_eq_true, decide_eq_true_iff] at h
  exact h
theorem lbR_no {L : List Int} {q : Int} (h : okLB L q = false) : lbR L q = 0 := by unfold lbR; rw [h]; rfl
theorem sum_take {L : List Int} {j : Nat} (h : j < L.length) : (L.take (j + 1)).sum = (L.take j).sum + L[j] := by
  rw [List.take_succ_eq_append_getElem h, List.sum_append]; simp

theorem lMost_any (a b : Nat) (w : World) : Calls Try.prog 10 #[.int .i64 a, .int .i64 b] w fun e w' => e = .returned (.int .i64 ((max a b : Nat) : Int)) ∧ w = w' := by
  by_cases h : b < a
  · have HM : Hid (max a b = a) := Lib.hid (by omega)
    rw [HM.out]
    have h' : (b : Int) < (a : Int) := by omega
    go_enter Try.func10, Try.ntmps10
    go_wp2
    go_ret
    exact ⟨rfl, rfl⟩
  · have HM : Hid (max a b = b) := Lib.hid (by omega)
    rw [HM.out]
    have h' : ¬ (b : Int) < (a : Int) := by omega
    go_enter Try.func10, Try.ntmps10
    go_wp2
    go_ret
    exact ⟨rfl, rfl⟩

set_option maxHeartbeats 1000000 in
theorem specLeastBar_no (A0 : Option Addr) (c0 : Nat) (L0 : List Int) (a1 : Int) (w : World) (l0 : L0.length ≤ 1048576) (h0 : IntSl w A0 L0) (hok : (okRa L0 && decide (1 ≤ a1 ∧ a1 ≤ 8)) = false) :
    Calls Try.prog 4 #[.slice A0 L0.length c0, .int .i64 a1] w fun e w' => e = .returned (.tuple #[.int .i64 0, .bool false]) ∧ Below w.heap.size w w' := by
  have H0 := Lib.hid (poGood_any A0 c0 L0 w l0 h0)
  have H1 := Lib.hid (l1In_any a1 1 8 w)
  cases h0 : okRa L0
  · clear hok
    rw [h0] at H0
    clear h0 H1
    go_enter Try.func4, Try.ntmps4
    go_wp2_with fail
    refine H0.out.mono ?_
    rintro e w1 ⟨rfl, rfl⟩
    go_wp2
    go_ret2
    exact ⟨rfl, Below.refl _ _⟩
  · skip
    cases h1 : decide (1 ≤ a1 ∧ a1 ≤ 8)
    · clear hok
      rw [h0] at H0
      rw [h1] at H1
      clear h0 h1
      go_enter Try.func4, Try.ntmps4
      go_wp2_with fail
      refine H0.out.mono ?_
      rintro e w1 ⟨rfl, rfl⟩
      go_wp2_with fail
      refine H1.out.mono ?_
      rintro e w1 ⟨rfl, rfl⟩
      go_wp2
      go_ret2
      exact ⟨rfl, Below.refl _ _⟩
    · rw [h0, h1] at hok; simp at hok
set_option maxRecDepth 20000 in
set_option maxHeartbeats 4000000 in
theorem specLeastBar_any (A0 : Option Addr) (c0 : Nat) (L0 : List Int) (a1 : Int) (w : World) (l0 : L0.length ≤ 1048576) (_ : WfL L0) (_ : L0.length ≤ c0) (h0 : IntSl w A0 L0) (_ : (Lit.int .i64 a1).wf = true) :
    Calls Try.prog 4 #[.slice A0 L0.length c0, .int .i64 a1] w fun e w' => e = .returned (.tuple #[.int .i64 (lbR L0 a1), .bool (okLB L0 a1)]) ∧ Below w.heap.size w w' := by
  cases hok : okLB L0 a1
  · rw [lbR_no hok]
    exact specLeastBar_no A0 c0 L0 a1 w l0 h0 hok
  · obtain ⟨hra, q1, q8⟩ := okLB_at hok
    rw [show lbR L0 a1 = ((lbN L0 a1.toNat : Nat) : Int) by unfold lbR; rw [hok]; rfl]
    have HG := Lib.hid (poGood_any A0 c0 L0 w l0 h0)
    rw [hra] at HG
    have HI := Lib.hid fun W => l1In_any a1 1 8 W
    rw [decide_eq_true (show 1 ≤ a1 ∧ a1 ≤ 8 from ⟨q1, q8⟩)] at HI
    obtain ⟨q, rfl⟩ : ∃ q : Nat, a1 = q := ⟨a1.toNat, by omega⟩
    rw [Int.toNat_natCast]
    have hlen := okRa_len hra
    have hmem := okRa_mem hra
    have hsum := sum_le500 hmem
    obtain ⟨sm, hsm⟩ : ∃ sm : Nat, (sm : Int) = L0.sum := ⟨L0.sum.toNat, by omega⟩
    have hPS := lbP_sum (q := q) (by omega) hmem hsm
    have HSH := Lib.hid fun (t : Nat) (h : lbP L0 q t = true) => lbP_short hmem h
    have HLN := Lib.hid fun (m : Nat) => lbN_of (L := L0) (q := q) (m := m)
    have HMEM := Lib.hid hmem
    have HPB := Lib.hid fun (t : Nat) W => poBars_any q (t : Int) W (by omega)
    have HPC : Hid (∀ (t : Nat), t ≤ 4000 → ∀ (A : Option Addr) (c : Nat) (W : World), IntSl W A0 L0 → IntSl W A (List.replicate q (t : Int)) → Calls Try.prog 11 #[.slice A0 L0.length c0, .slice none 0 0, .slice A q c] W fun e w' => ∃ v, e = .returned v ∧ OwnInts w' W.heap.size 3 v (outM [] (cutM (L0.drop ([] : List Int).length) (List.replicate q (t : Int)))) ∧ Below W.heap.size W w') := Lib.hid fun t ht A c W x0 x1 => by
      have h := poCut_any A0 c0 L0 hlen.2 (fun x hx => by have := hmem x hx; omega) L0.length [] (List.replicate q (t : Int)) none 0 A c W (by simp) (by rw [List.length_replicate]; omega) (fun y hy => by rw [List.eq_of_mem_replicate hy]; omega) x0 (IntSl.nil _ _) x1
      rw [List.length_replicate] at h
      exact h
    have HLO : Hid (∀ t : Nat, (outM [] (cutM (L0.drop ([] : List Int).length) (List.replicate q (t : Int)))).length = if lbP L0 q t = true then L0.length else 0) := Lib.hid fun t => by
      show (outM [] (cutM L0 (List.replicate q (t : Int)))).length = _
      unfold lbP
      cases hc : cutM L0 (List.replicate q (t : Int)) with
      | none => rfl
      | some c => show ([] ++ c).length = _; rw [List.nil_append, cutM_len hc]; rfl
    have HPS := Lib.hid hPS
    have HM4 : Hid (sm ≤ 4000) := Lib.hid (by omega)
    have HH0 := Lib.hid h0
    obtain ⟨g, off, rfl, hg, hat⟩ := h0.some (by omega)
    have HAT := Lib.hid hat
    have HSM := Lib.hid hsm
    have hl8 := hlen.2
    have hl1 := hlen.1
    clear hok hra hmem hsum hPS hat h0 hlen hsm
    go_enter Try.func4, Try.ntmps4
    go_wp2_with (first
      | (go_at_call 8; refine HG.out.mono ?_; rintro e w' ⟨rfl, rfl⟩)
      | (go_at_call 9; refine (HI.out _).mono ?_; rintro e w' ⟨rfl, rfl⟩))
    go_loop [6, 7, 21] (fun l h i => ∃ j lo : Nat, j ≤ L0.length ∧ i = .int .i64 j ∧ l = .int .i64 lo ∧ lo ≤ 500 ∧ h = .int .i64 (L0.take j).sum ∧ (L0.take j).sum ≤ 500 * (j : Int) ∧ 0 ≤ (L0.take j).sum ∧ Hid (∀ t, t < lo → lbP L0 q t = false)) (fun _ _ i => L0.length - (intOf i).toNat)
    case atStart => exact ⟨0, 1, Nat.zero_le _, rfl, rfl, by omega, rfl, by simp, by simp, Lib.hid fun t ht => by
      cases hp : lbP L0 q t
      · rfl
      · have h1 := HSH.out t hp (L0[0]'(by omega)) (List.getElem_mem _)
        have h2 := HMEM.out (L0[0]'(by omega)) (List.getElem_mem _)
        omega⟩
    case round =>
      obtain ⟨j, lo, hj, rfl, rfl, hlo, rfl, hs1, hs0, hf⟩ := hrel
      by_cases hlt : j < L0.length
      · have k1 := HAT.out j hlt
        have hx := HMEM.out L0[j] (List.getElem_mem _)
        have HST := Lib.hid (sum_take hlt)
        have HXS : Hid (∀ t : Nat, lbP L0 q t = true → L0[j] ≤ (t : Int)) := Lib.hid fun t hp => HSH.out t hp _ (List.getElem_mem _)
        obtain ⟨x, hxx⟩ : ∃ x, x = L0[j] := ⟨_, rfl⟩
        rw [← hxx] at k1 hx HST HXS
        obtain ⟨y, rfl⟩ : ∃ y : Nat, x = y := ⟨x.toNat, by omega⟩
        obtain ⟨S, hS⟩ : ∃ S, S = (L0.take j).sum := ⟨_, rfl⟩
        rw [← hS] at HST hs1 hs0 ⊢
        have HMX := Lib.hid fun W => lMost_any lo y W
        have HF : Hid (∀ t, t < max lo y → lbP L0 q t = false) := Lib.hid fun t ht => by
          cases hp : lbP L0 q t
          · rfl
          · rcases Nat.lt_or_ge t lo with h1 | h1
            · rw [hf.out t h1] at hp; cases hp
            · have := HXS.out t hp; omega
        obtain ⟨m, hm⟩ : ∃ m, m = max lo y := ⟨_, rfl⟩
        rw [← hm] at HMX HF
        have hm5 : m ≤ 500 := by omega
        have HS1 : Hid ((L0.take (j + 1)).sum = S + (y : Int) ∧ S + (y : Int) ≤ 500 * ((j + 1 : Nat) : Int) ∧ 0 ≤ S + (y : Int)) := Lib.hid ⟨HST.out, by omega, by omega⟩
        clear hxx hS hm hf
        go_wp2_with fail
        refine (HMX.out _).mono ?_
        rintro e w' ⟨rfl, rfl⟩
        go_wp2
        go_round
        case rel => exact ⟨j + 1, m, by omega, by go_num, rfl, hm5, by rw [HS1.out.1], by rw [HS1.out.1]; exact HS1.out.2.1, by rw [HS1.out.1]; exact HS1.out.2.2, HF⟩
        case measure => simp [intOf]; omega
      · obtain rfl : j = L0.length := by omega
        rw [List.take_length, ← HSM.out]
        have hlh : lo ≤ sm := by
          rcases Nat.lt_or_ge sm lo with h | h
          · have := hf.out sm h; rw [HPS.out] at this; cases this
          · exact h
        have hs4 := HM4.out
        have HF := Lib.hid hf.out
        clear hf hs1 hs0
        go_wp2
        go_loopw [6, 7] (fun l h wr => ∃ lo hi : Nat, l = .int .i64 lo ∧ h = .int .i64 hi ∧ lo ≤ hi ∧ hi ≤ 4000 ∧ Hid ((∀ t, t < lo → lbP L0 q t = false) ∧ lbP L0 q hi = true) ∧ Below w.heap.size w wr) (fun l h _ => (intOf h).toNat - (intOf l).toNat)
        case atStart => exact ⟨lo, sm, rfl, rfl, hlh, hs4, Lib.hid ⟨HF.out, HPS.out⟩, Below.refl _ _⟩
        case round =>
          clear hlh hs4 HF
          obtain ⟨lo, hi, rfl, rfl, hlh, hs4, hI, hb⟩ := hrel
          have HB := Lib.hid hb
          have HIW := Lib.hid (HH0.out.below hb)
          clear hb
          by_cases hlt2 : lo < hi
          · obtain ⟨m, hm⟩ : ∃ m, m = (lo + hi) / 2 := ⟨_, rfl⟩
            have hm1 : lo ≤ m ∧ m < hi := by omega
            have tq : ((lo : Int) + (hi : Int)).tdiv 2 = (m : Int) := by rw [Int.tdiv_eq_ediv_of_nonneg (by omega)]; omega
            have HPB1 := Lib.hid (HPB.out m)
            have HPC1 := Lib.hid (HPC.out m (by omega))
            have hlo1 := HLO.out m
            obtain ⟨O, hO⟩ : ∃ O, O = outM [] (cutM (L0.drop ([] : List Int).length) (List.replicate q (m : Int))) := ⟨_, rfl⟩
            rw [← hO] at HPC1 hlo1
            clear hO hm
            cases hp : lbP L0 q m
            · rw [hp, if_neg (by decide)] at hlo1
              obtain rfl : O = [] := List.eq_nil_of_length_eq_zero hlo1
              have HI2 : Hid ((∀ t, t < m + 1 → lbP L0 q t = false) ∧ lbP L0 q hi = true) := Lib.hid ⟨fun t ht => (by
                cases h : lbP L0 q t
                · rfl
                · have h3 := lbP_mono (show t ≤ m by omega) h
                  rw [h3] at hp; cases hp), hI.out.2⟩
              clear hp hlo1
              go_wp2_with (first
                | (go_at_call 12; refine (HPB1.out _).mono ?_; rintro e w1 ⟨v1, rfl, ho1, hb1⟩; obtain ⟨AA, cc, rfl⟩ := OwnInts.len ho1; have h9 := IntSl.of_own ho1; clear ho1)
                | (go_at_call 11; refine (HPC1.out _ _ _ (HIW.out.below hb1) h9).mono ?_; rintro e w2 ⟨v2, rfl, ho2, hb2⟩; obtain ⟨AA2, cc2, rfl⟩ := OwnInts.len ho2))
              go_roundw
              case rel => exact ⟨m + 1, hi, by go_num, rfl, by omega, hs4, HI2, below_next HB.out (below_next hb1 hb2)⟩
              case measure => simp [intOf]; omega
            · rw [hp, if_pos rfl] at hlo1
              have HI2 : Hid ((∀ t, t < lo → lbP L0 q t = false) ∧ lbP L0 q m = true) := Lib.hid ⟨hI.out.1, hp⟩
              have hgt : decide ((0 : Int) < (O.length : Int)) = true := decide_eq_true (by omega)
              clear hp
              go_wp2_with (first
                | (go_at_call 12; refine (HPB1.out _).mono ?_; rintro e w1 ⟨v1, rfl, ho1, hb1⟩; obtain ⟨AA, cc, rfl⟩ := OwnInts.len ho1; have h9 := IntSl.of_own ho1; clear ho1)
                | (go_at_call 11; refine (HPC1.out _ _ _ (HIW.out.below hb1) h9).mono ?_; rintro e w2 ⟨v2, rfl, ho2, hb2⟩; obtain ⟨AA2, cc2, rfl⟩ := OwnInts.len ho2))
              go_roundw
              case rel => exact ⟨lo, m, rfl, rfl, by omega, by omega, HI2, below_next HB.out (below_next hb1 hb2)⟩
              case measure => simp [intOf]; omega
          · obtain rfl : hi = lo := by omega
            have HV := Lib.hid (HLN.out hi hs4 hI.out.2 hI.out.1)
            go_wp2
            go_ret2
            exact ⟨by rw [HV.out]; rfl, HB.out⟩
end Go.Proofs.Ytnijedmnjmeciaa
