/- 'impl.nextStroke': the program's first stroke that saves one. No condition but the texts' lengths. -/
import Derived.Test.YtohmodjigneldaaFewStep
import Derived.Test.YtohmodjigneldaaTxIter
import Derived.Deep.RegionHeld3
import Derived.Deep.MidRow
import Derived.WalkMore
namespace Go.Proofs.Ytohmodjigneldaa
open Go.RowKit

theorem results_one_cell {fn : Func} {p : Tmp} {ty : TypeId} (h : fn.results = #[.cell p ty]) (tmps : Array Value) (P : Program) (w : World) :
    (results fn tmps).run P w = ((asAddr (tmps.getD p undef)).run P w).andThen fun a w₁ => (loadVar ty a).run P w₁ := by
  simp only [results, h]
  simp [Sem.run_bind]
theorem encode_let (k : Nat) (h : k < 5) : Utf8.encode (97 + (k : Int)) = ⟨#[letB k]⟩ := by
  have g : ∀ k : Fin 5, Utf8.encode (97 + (k.val : Int)) = ⟨#[letB k.val]⟩ := by decide +kernel
  exact g ⟨k, h⟩
abbrev abcde : ByteArray := ⟨#[97, 98, 99, 100, 101]⟩
theorem abcde_at (k : Nat) (h : k < abcde.size) : abcde[k].toNat = 97 + k := by
  have g : ∀ k : Fin 5, (abcde[k.val]'(by have := k.isLt; exact this)).toNat = 97 + k.val := by decide +kernel
  exact g ⟨k, h⟩
abbrev zeroS : Obj := .cells #[.int .i64 0, .int .i64 0, .string ⟨#[]⟩] 45
/-- the table's box and the result's cell -/
def base2 (w : World) (cs : List Value) : World := (w.alloc (.cells cs.toArray 42)).alloc zeroS
theorem base2_size (w : World) (cs : List Value) : (base2 w cs).heap.size = w.heap.size + 2 := by unfold base2; simp
theorem base2_tab (w : World) (cs : List Value) : (base2 w cs).rangeAt w.heap.size 0 cs := by
  have h1 : (w.alloc (.cells cs.toArray 42)).rangeAt w.heap.size 0 cs := by
    have := World.rangeAt_of_block (heap_alloc_new w (.cells cs.toArray 42)) 0 cs.length
    simpa using this
  exact World.rangeAt_alloc h1 _
theorem base2_res (w : World) (cs : List Value) : ((base2 w cs).cell? ⟨w.heap.size + 1, 0, none⟩ = some (.int .i64 0) ∧ (base2 w cs).cell? ⟨w.heap.size + 1, 1, none⟩ = some (.int .i64 0) ∧ (base2 w cs).cell? ⟨w.heap.size + 1, 2, none⟩ = some (.string ⟨#[]⟩)) ∧ ∀ k, (base2 w cs).frozen? ⟨w.heap.size + 1, k, none⟩ = false := by
  have h := cells3 (w.alloc (.cells cs.toArray 42)) 0 0 ⟨#[]⟩ 45
  have e : (w.alloc (.cells cs.toArray 42)).heap.size = w.heap.size + 1 := by simp
  have f : ∀ k, ((w.alloc (.cells cs.toArray 42)).alloc zeroS).frozen? ⟨(w.alloc (.cells cs.toArray 42)).heap.size, k, none⟩ = false := fun k => by simp
  rw [e] at h f
  exact ⟨h, f⟩
theorem below_base2 (w : World) (cs : List Value) : Below w.heap.size w (base2 w cs) := below_next (below_new w _) (below_new _ _)
/-- the world of the search -/
structure NxSt (w : World) (cs : List Value) (wr : World) : Prop where
  b : Below (w.heap.size + 2) (base2 w cs) wr
  z : w.heap.size + 3 ≤ wr.heap.size
  c : ∃ (x y : Int) (s : ByteArray), wr.cell? ⟨w.heap.size + 1 + 1, 0, none⟩ = some (.int .i64 x) ∧ wr.cell? ⟨w.heap.size + 1 + 1, 1, none⟩ = some (.int .i64 y) ∧ wr.cell? ⟨w.heap.size + 1 + 1, 2, none⟩ = some (.string s)
  f : ∀ k, wr.frozen? ⟨w.heap.size + 1 + 1, k, none⟩ = false
section
variable {w wr wr' : World} {cs : List Value}
theorem NxSt.start (w : World) (cs : List Value) : NxSt w cs ((base2 w cs).alloc zeroS) := by
  have e := base2_size w cs
  have h := cells3 (base2 w cs) 0 0 ⟨#[]⟩ 45
  have f : ∀ k, ((base2 w cs).alloc zeroS).frozen? ⟨(base2 w cs).heap.size, k, none⟩ = false := fun k => by simp
  have b := below_new (base2 w cs) zeroS
  rw [e] at h f b
  exact ⟨b, by simp [e], ⟨_, _, _, h⟩, f⟩
theorem NxSt.below (h : NxSt w cs wr) {B : Nat} (hB : w.heap.size + 3 ≤ B) (hb : Below B wr wr') : NxSt w cs wr' := by
  obtain ⟨x, y, s, c0, c1, c2⟩ := h.c
  have lt : w.heap.size + 2 < B := by omega
  refine ⟨h.b.trans (hb.mono (by omega)), Nat.le_trans h.z hb.size, ⟨x, y, s, ?_, ?_, ?_⟩, fun k => ?_⟩
  · rw [(bcell hb).1 _ _ lt]; exact c0
  · rw [(bcell hb).1 _ _ lt]; exact c1
  · rw [(bcell hb).1 _ _ lt]; exact c2
  · rw [(bcell hb).2 _ _ lt]; exact h.f k
theorem NxSt.tab (h : NxSt w cs wr) : wr.rangeAt w.heap.size 0 cs := fun j v hv => by
  rw [(bcell h.b).1 _ _ (by omega)]; exact base2_tab w cs j v hv
theorem NxSt.res (h : NxSt w cs wr) : (wr.cell? ⟨w.heap.size + 1, 0, none⟩ = some (.int .i64 0) ∧ wr.cell? ⟨w.heap.size + 1, 1, none⟩ = some (.int .i64 0) ∧ wr.cell? ⟨w.heap.size + 1, 2, none⟩ = some (.string ⟨#[]⟩)) ∧ (wr.frozen? ⟨w.heap.size + 1, 0, none⟩ = false ∧ wr.frozen? ⟨w.heap.size + 1, 1, none⟩ = false ∧ wr.frozen? ⟨w.heap.size + 1, 2, none⟩ = false) := by
  obtain ⟨⟨c0, c1, c2⟩, f⟩ := base2_res w cs
  have lt : w.heap.size + 1 < w.heap.size + 2 := by omega
  refine ⟨⟨?_, ?_, ?_⟩, ?_, ?_, ?_⟩
  · rw [(bcell h.b).1 _ _ lt]; exact c0
  · rw [(bcell h.b).1 _ _ lt]; exact c1
  · rw [(bcell h.b).1 _ _ lt]; exact c2
  · rw [(bcell h.b).2 _ _ lt]; exact f 0
  · rw [(bcell h.b).2 _ _ lt]; exact f 1
  · rw [(bcell h.b).2 _ _ lt]; exact f 2
theorem NxSt.under (h : NxSt w cs wr) : Below w.heap.size w wr := fbelow_next (below_base2 w cs) (by rw [base2_size]; exact h.b)
/-- the variable is written -/
def put3 (wr : World) (g : Nat) (x y : Int) (s : ByteArray) : World := ((wr.setCell ⟨g, 0, none⟩ (.int .i64 x)).setCell ⟨g, 1, none⟩ (.int .i64 y)).setCell ⟨g, 2, none⟩ (.string s)
theorem put3_cells {g : Nat} {u0 u1 u2 : Value} {x y : Int} {s : ByteArray} (c0 : wr.cell? ⟨g, 0, none⟩ = some u0) (c1 : wr.cell? ⟨g, 1, none⟩ = some u1) (c2 : wr.cell? ⟨g, 2, none⟩ = some u2) : (put3 wr g x y s).cell? ⟨g, 0, none⟩ = some (.int .i64 x) ∧ (put3 wr g x y s).cell? ⟨g, 1, none⟩ = some (.int .i64 y) ∧ (put3 wr g x y s).cell? ⟨g, 2, none⟩ = some (.string s) := by
  have n01 : (⟨g, 0, none⟩ : Addr) ≠ ⟨g, 1, none⟩ := by simp
  have n02 : (⟨g, 0, none⟩ : Addr) ≠ ⟨g, 2, none⟩ := by simp
  have n12 : (⟨g, 1, none⟩ : Addr) ≠ ⟨g, 2, none⟩ := by simp
  unfold put3
  refine ⟨?_, ?_, ?_⟩
  · rw [World.cell?_setCell_other _ _ _ _ n02.symm, World.cell?_setCell_other _ _ _ _ n01.symm]
    exact World.cell?_setCell_same _ _ _ c0
  · rw [World.cell?_setCell_other _ _ _ _ n12.symm]
    exact World.cell?_setCell_same _ _ _ ((World.cell?_setCell_other _ _ _ _ n01).trans c1)
  · exact World.cell?_setCell_same _ _ _ ((World.cell?_setCell_other _ _ _ _ n12).trans ((World.cell?_setCell_other _ _ _ _ n02).trans c2))
theorem NxSt.put (h : NxSt w cs wr) (x y : Int) (s : ByteArray) : NxSt w cs (put3 wr (w.heap.size + 1 + 1) x y s) ∧ (put3 wr (w.heap.size + 1 + 1) x y s).cell? ⟨w.heap.size + 1 + 1, 0, none⟩ = some (.int .i64 x) ∧ (put3 wr (w.heap.size + 1 + 1) x y s).cell? ⟨w.heap.size + 1 + 1, 1, none⟩ = some (.int .i64 y) ∧ (put3 wr (w.heap.size + 1 + 1) x y s).cell? ⟨w.heap.size + 1 + 1, 2, none⟩ = some (.string s) := by
  obtain ⟨x', y', s', c0, c1, c2⟩ := h.c
  have hc : (put3 wr (w.heap.size + 1 + 1) x y s).cell? ⟨w.heap.size + 1 + 1, 0, none⟩ = some (.int .i64 x) ∧ (put3 wr (w.heap.size + 1 + 1) x y s).cell? ⟨w.heap.size + 1 + 1, 1, none⟩ = some (.int .i64 y) ∧ (put3 wr (w.heap.size + 1 + 1) x y s).cell? ⟨w.heap.size + 1 + 1, 2, none⟩ = some (.string s) := by
    exact put3_cells c0 c1 c2
  refine ⟨⟨((h.b.setCell (Nat.le_refl _) _).setCell (Nat.le_refl _) _).setCell (Nat.le_refl _) _, ?_, ⟨x, y, s, hc⟩, fun k => ?_⟩, hc⟩
  · unfold put3; simp; exact h.z
  · unfold put3; simp [h.f]
theorem put3_block {g B : Nat} {o : Obj} {x y : Int} {s : ByteArray} (h : wr.heap[B]? = some o) (hne : g < B) : (put3 wr g x y s).heap[B]? = some o := by
  unfold put3
  have ne : B ≠ g := by omega
  rw [Below.heap_setCell _ _ _ _ ne, Below.heap_setCell _ _ _ _ ne, Below.heap_setCell _ _ _ _ ne, h]
theorem NxSt.iter (h : NxSt w cs wr) {B : Nat} (hB : w.heap.size + 3 ≤ B) (s : ByteArray) (k : Nat) : NxSt w cs (wr.iterAt B s k) := h.below hB (Tx.below_iterAt (Below.refl B wr) (Nat.le_refl _) s k)
end

set_option maxRecDepth 100000 in
set_option maxHeartbeats 8000000 in
theorem nextStroke_any (s t : ByteArray) (F L K : Nat) (w : World) (h1 : 1 ≤ t.size) (h20 : t.size ≤ 20) (hst : s.size = t.size) (hl : Tx.leadsF (Tx.cB t) (Tx.cB s) t.size) (hp : Pick (Tx.cB t) (Tx.cB s) t.size F L K) :
    Calls Try.prog 31 #[.agg (Tx.tabA (Tx.cB t) t.size), .string s, .string t, .int .i64 (Tx.fpN (Tx.cB t) (Tx.cB s) t.size : Int)] w fun e w' => e = .returned (.agg #[.int .i64 F, .int .i64 L, .string ⟨#[letB K]⟩]) ∧ Below w.heap.size w w' := by
  have hPL := hp.fl
  have hPN := hp.ln
  have hPK := hp.k5
  have HS : Hid (∀ f l k, f ≤ l → l < t.size → k < 5 → ∀ W, Calls Try.prog 32 #[.string s, .agg #[.int .i64 (f : Int), .int .i64 (l : Int), .string ⟨#[letB k]⟩]] W fun e w' => e = .returned (.string (paintS s f l ⟨#[letB k]⟩)) ∧ Below W.heap.size W w') := Lib.hid fun f l k q1 q2 q3 W => painted_any s f l ⟨#[letB k]⟩ W (by omega) (Nat.le_refl 1) q1 (by omega)
  have HO : Hid (∀ f l k, f ≤ l → l < t.size → k < 5 → ∀ W, Calls Try.prog 28 #[.agg (Tx.tabA (Tx.cB t) t.size), .string (paintS s f l ⟨#[letB k]⟩), .string t] W fun e w' => e = .returned (.int .i64 (Tx.fpN (Tx.cB t) (Tx.pnt (Tx.cB s) f l (97 + k)) t.size : Int)) ∧ Below W.heap.size W w') := Lib.hid fun f l k q1 q2 q3 W => by
    have := Tx.fewestByParts_any (paintS s f l ⟨#[letB k]⟩) t W h1 h20 (by rw [paintS_size1 q1 (by omega), hst])
    rw [show Tx.fpF (Tx.cB t) (Tx.cB (paintS s f l ⟨#[letB k]⟩)) t.size t.size = Tx.fpN (Tx.cB t) (Tx.cB (paintS s f l ⟨#[letB k]⟩)) t.size from rfl, fpN_paint q1 (by omega) q3] at this
    exact this
  have HB20 : Hid (∀ f l k, Tx.fpN (Tx.cB t) (Tx.pnt (Tx.cB s) f l (97 + k)) t.size ≤ 20) := Lib.hid fun f l k => Tx.fp_20 _ _ _ _
  have HSV : Hid (∀ f l k, f ≤ l → l < t.size → k < 5 → Tx.noBare (Tx.cB t) f (l + 1) → Tx.fpN (Tx.cB t) (Tx.cB s) t.size ≤ Tx.fpN (Tx.cB t) (Tx.pnt (Tx.cB s) f l (97 + k)) t.size + 1) := Lib.hid fun f l k _ q2 _ q4 => Tx.save_one h20 hl q4 (by omega)
  have HP := Lib.hid hp
  have hsz : ((Tx.tabA (Tx.cB t) t.size).toList).length = 441 := by simp [Tx.tabA, Tx.rowF_len]
  obtain ⟨cs, hcs⟩ : ∃ cs : List Value, cs = (Tx.tabA (Tx.cB t) t.size).toList := ⟨_, rfl⟩
  rw [← hcs] at hsz
  have hcs2 : Tx.tabA (Tx.cB t) t.size = cs.toArray := by rw [hcs, Array.toArray_toList]
  rw [hcs2] at HO ⊢
  have hinf : Hid ((Try.prog.info? 42).map (·.size) = some cs.length) := Lib.hid (by rw [Tx.info_tab, hsz])
  obtain ⟨few, hfew⟩ : ∃ x, x = Tx.fpN (Tx.cB t) (Tx.cB s) t.size := ⟨_, rfl⟩
  rw [← hfew] at HSV ⊢
  have HFEW := Lib.hid hfew
  clear hl hp hfew hst hcs hcs2 hsz
  go_enter Try.func31, Try.ntmps31
  go_wp2
  go_step3
  go_wp2
  go_step3
  go_wp2
  generalize hW0 : ((w.alloc (.cells cs.toArray 42)).alloc zeroS).alloc zeroS = W0
  have HST : Hid (NxSt w cs W0) := Lib.hid (by rw [← hW0]; exact NxSt.start w cs)
  clear hW0
  go_loopw [16] (fun v wr => ∃ f : Nat, f ≤ F ∧ v = .int .i64 (f : Int) ∧ NxSt w cs wr) (fun v _ => t.size - (intOf v).toNat)
  case atStart => exact ⟨0, Nat.zero_le _, rfl, HST.out⟩
  case round =>
    clear HST W0
    obtain ⟨f, hf, rfl, hb⟩ := hrel
    have HB := Lib.hid hb
    clear hb
    have hfn : f < t.size := by omega
    go_wp2
    go_loopw [11] (fun v wr => ∃ l : Nat, f ≤ l ∧ l ≤ t.size ∧ v = .int .i64 (l : Int) ∧ Hid (Tx.noBare (Tx.cB t) f l ∧ (f = F → l ≤ L)) ∧ NxSt w cs wr) (fun v _ => t.size - (intOf v).toNat)
    case atStart => exact ⟨f, Nat.le_refl _, by omega, rfl, Lib.hid ⟨fun i i1 i2 => absurd i1 (by omega), fun e => by omega⟩, HB.out⟩
    case round =>
      clear HB
      obtain ⟨l, hfl, hlt, rfl, HI, hb⟩ := hrel
      have HB := Lib.hid hb
      clear hb
      have il0 : (0 : Int) ≤ (l : Int) := by omega
      by_cases hln : l < t.size
      · have ce : t[l].toNat = Tx.cB t l := (Tx.cB_at t l hln).symm
        by_cases hc : Tx.cB t l = 46
        · have hq : ((t[l].toNat : Int) != 46) = false := by rw [ce, hc]; rfl
          have HN := Lib.hid (HP.out.fNext (l := l) hf hfl HI.out.2 (.inr hc))
          clear hc ce
          go_wp2
          go_roundw
          case rel => exact ⟨f + 1, HN.out, by go_num, HB.out⟩
          case measure => simp [intOf]; omega
        · have hq : ((t[l].toNat : Int) != 46) = true := by rw [ce, bne_iff_ne]; omega
          have HNB := Lib.hid (bare_step HI.out.1 hc)
          clear hc ce
          go_wp2
          have hz3 := HB.out.z
          have HI0 : Hid (NxSt w cs (wr.iter ⟨#[97, 98, 99, 100, 101]⟩ 0)) := Lib.hid (HB.out.below hz3 (below_new wr (.stringIter ⟨#[97, 98, 99, 100, 101]⟩ 0)))
          obtain ⟨B, hB⟩ : ∃ B, B = wr.heap.size := ⟨_, rfl⟩
          have HIT : Hid ((wr.iter ⟨#[97, 98, 99, 100, 101]⟩ 0).heap[B]? = some (.stringIter ⟨#[97, 98, 99, 100, 101]⟩ 0)) := Lib.hid (by rw [hB]; exact World.iter_heap _ _ _)
          rw [← hB] at hz3 ⊢
          clear hB
          go_loopw [13] (fun _ wz => ∃ k : Nat, k ≤ 5 ∧ wz.heap[B]? = some (.stringIter ⟨#[97, 98, 99, 100, 101]⟩ k) ∧ Hid (f = F → l = L → k ≤ K) ∧ NxSt w cs wz) (fun _ wz => 5 - wz.iterPos B)
          case atStart => exact ⟨0, by omega, HIT.out, Lib.hid fun _ _ => Nat.zero_le _, HI0.out⟩
          case round =>
            clear HI0 HIT
            obtain ⟨k, hk, hit, HK, hb⟩ := hrel
            have hpos := Tx.iterPos_at hit
            have HB := Lib.hid hb
            clear hb
            by_cases hk5 : k < 5
            · have hnx : ∀ ty, (Instr.next (.pointer (some ⟨B, 0, none⟩)) true ty).run Try.prog wr = _ := fun ty => Lib.run_next_ascii_at wr B abcde k ty hit hk5 (by rw [abcde_at k hk5]; omega)
              rw [abcde_at k hk5] at hnx
              have HN0 : Hid (NxSt w cs (wr.iterAt B ⟨#[97, 98, 99, 100, 101]⟩ (k + 1))) := Lib.hid (HB.out.iter hz3 _ _)
              have HT0 : Hid ((wr.iterAt B ⟨#[97, 98, 99, 100, 101]⟩ (k + 1)).heap[B]? = some (.stringIter ⟨#[97, 98, 99, 100, 101]⟩ (k + 1))) := Lib.hid (Lib.iterAt_heap wr B abcde k (k + 1) hit)
              obtain ⟨wi, hwi⟩ : ∃ wi, wi = wr.iterAt B ⟨#[97, 98, 99, 100, 101]⟩ (k + 1) := ⟨_, rfl⟩
              rw [← hwi] at HN0 HT0 hnx
              clear hwi hit HB
              have henc := encode_let k hk5
              obtain ⟨HPU, p0, p1, p2⟩ := HN0.out.put f l ⟨#[letB k]⟩
              have HPT := Lib.hid (put3_block (x := f) (y := l) (s := ⟨#[letB k]⟩) HT0.out (show w.heap.size + 1 + 1 < B by omega))
              obtain ⟨z0, z1, z2, c0, c1, c2⟩ := HN0.out.c
              have f0 := HN0.out.f 0
              have f1 := HN0.out.f 1
              have f2 := HN0.out.f 2
              go_wp2
              rw [show ((wi.setCell ⟨w.heap.size + 1 + 1, 0, none⟩ (.int .i64 f)).setCell ⟨w.heap.size + 1 + 1, 1, none⟩ (.int .i64 l)).setCell ⟨w.heap.size + 1 + 1, 2, none⟩ (.string ⟨#[letB k]⟩) = put3 wi (w.heap.size + 1 + 1) f l ⟨#[letB k]⟩ from rfl]
              obtain ⟨wx, hwx⟩ : ∃ wx, wx = put3 wi (w.heap.size + 1 + 1) f l ⟨#[letB k]⟩ := ⟨_, rfl⟩
              rw [← hwx] at HPU p0 p1 p2 HPT ⊢
              have HSK : Hid (∀ W, Below wx.heap.size wx W → W.rangeAt w.heap.size 0 cs ∧ W.cell? ⟨w.heap.size + 1 + 1, 0, none⟩ = some (.int .i64 f) ∧ W.cell? ⟨w.heap.size + 1 + 1, 1, none⟩ = some (.int .i64 l) ∧ W.cell? ⟨w.heap.size + 1 + 1, 2, none⟩ = some (.string ⟨#[letB k]⟩)) := Lib.hid fun W hW => by
                have lt : w.heap.size + 1 + 1 < wx.heap.size := by have := HPU.z; omega
                exact ⟨(HPU.below HPU.z hW).tab, ((bcell hW).1 _ _ lt).trans p0, ((bcell hW).1 _ _ lt).trans p1, ((bcell hW).1 _ _ lt).trans p2⟩
              have HNX : Hid (∀ W, Below wx.heap.size wx W → NxSt w cs W ∧ W.heap[B]? = some (.stringIter ⟨#[97, 98, 99, 100, 101]⟩ (k + 1))) := Lib.hid fun W hW => ⟨HPU.below HPU.z hW, Tx.iter_below HPT.out hW (Array.getElem?_eq_some_iff.1 HPT.out).1⟩
              have HPA := Lib.hid (HS.out f l k hfl hln hk5)
              have HOV := Lib.hid (HO.out f l k hfl hln hk5)
              have hx20 := HB20.out f l k
              have hsv := HSV.out f l k hfl hln hk5 HNB.out
              have HONE := Lib.hid (HP.out.only hf HI.out.2 HK.out hfl hln HNB.out hk5)
              have HNXT := Lib.hid (HP.out.kNext (f := f) (l := l) (k := k) HK.out)
              rw [← HFEW.out] at HONE HNXT
              obtain ⟨x, hx⟩ : ∃ x, x = Tx.fpN (Tx.cB t) (Tx.pnt (Tx.cB s) f l (97 + k)) t.size := ⟨_, rfl⟩
              rw [← hx] at HOV hx20 hsv HONE HNXT
              obtain ⟨T, hT⟩ : ∃ T, T = paintS s f l ⟨#[letB k]⟩ := ⟨_, rfl⟩
              rw [← hT] at HPA HOV
              have hun := Try.underlying42
              have hinf2 := hinf.out
              clear hx hT hwx HPU p0 p1 p2 HPT c0 c1 c2 f0 f1 f2 hnx henc HN0 HT0
              go_region_held3 (fun x => x.rangeAt w.heap.size 0 cs ∧ x.cell? ⟨w.heap.size + 1 + 1, 0, none⟩ = some (.int .i64 f) ∧ x.cell? ⟨w.heap.size + 1 + 1, 1, none⟩ = some (.int .i64 l) ∧ x.cell? ⟨w.heap.size + 1 + 1, 2, none⟩ = some (.string ⟨#[letB k]⟩))
                (first | exact HSK.out _ (Below.refl _ _).drew | exact HSK.out _ HQ2.out | exact HSK.out _ HQ1.out)
                (first
                  | (go_at_call 32; refine (HPA.out _).mono ?_; rintro e w1 ⟨rfl, hbq⟩; have HQ1 := Lib.hid (fbelow_next (Below.refl wx.heap.size wx).drew hbq); clear hbq)
                  | (go_at_call 28; refine (HOV.out _).mono ?_; rintro e w2 ⟨rfl, hbq⟩; have HQ2 := Lib.hid (fbelow_next HQ1.out hbq); clear hbq))
              obtain ⟨HN2, HT2⟩ := HNX.out _ HQ2.out
              have HN2 := Lib.hid HN2
              have HT2 := Lib.hid HT2
              obtain ⟨-, m0, m1, m2⟩ := HSK.out _ HQ2.out
              clear HSK HNX HPA HOV HQ1 HQ2
              by_cases hh : x < few
              · obtain ⟨rfl, rfl, rfl⟩ := HONE.out (by omega)
                obtain ⟨⟨k0, k1, k2⟩, f0, f1, f2⟩ := HN2.out.res
                rw [decide_eq_true hh]
                clear HONE HNXT HT2 HI HK hh
                go_wp2
                try rw [Exit.noGoto_ret]
                refine bodyPost_ret (v := .agg #[.int .i64 f, .int .i64 l, .string ⟨#[letB k]⟩]) ?_ rfl ⟨rfl, ?_⟩
                · rw [results_one_cell rfl]; go_simp
                · exact (((HN2.out.under.setCell (Nat.le_succ _) _).setCell (Nat.le_succ _) _).setCell (Nat.le_succ _) _)
              · have HN := Lib.hid (HNXT.out (by omega))
                rw [decide_eq_false hh]
                clear HONE HNXT hh
                go_wp2
                go_roundw
                case rel => exact ⟨k + 1, by omega, HT2.out, HN, HN2.out⟩
                case measure => rw [hpos, Tx.iterPos_at HT2.out]; omega
            · obtain rfl : k = 5 := by omega
              have hnx : ∀ ty, (Instr.next (.pointer (some ⟨B, 0, none⟩)) true ty).run Try.prog wr = _ := fun ty => Lib.run_next_end_at wr B abcde 5 ty hit (by decide)
              have HN := Lib.hid (HP.out.lNext (f := f) (l := l) HI.out.2 HK.out)
              go_wp2
              go_roundw
              case rel => exact ⟨l + 1, by omega, by omega, by go_num, Lib.hid ⟨HNB.out, HN.out⟩, HB.out⟩
              case measure => simp [intOf]; omega
      · obtain rfl : l = t.size := by omega
        have HN := Lib.hid (HP.out.fNext (l := t.size) hf hfl HI.out.2 (.inl (Nat.le_refl _)))
        go_wp2
        go_roundw
        case rel => exact ⟨f + 1, HN.out, by go_num, HB.out⟩
        case measure => simp [intOf]; omega
end Go.Proofs.Ytohmodjigneldaa
