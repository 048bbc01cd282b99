import Derived.Test.YtdpobjgfnhjagaaDoorMh
import Derived.Test.YtdpobjgfnhjagaaDoorCards
import Derived.Test.YtdpobjgfnhjagaaDoorTie
import Derived.ProofKit
import Derived.OpenShut
import Derived.Deep.DeepHandedRow
import Derived.Deep.Slices
import Derived.Lib.LaidTab
import Derived.MakeChecks
import Derived.Carry
namespace Go.Proofs.YtdpobjgfnhjagaaDoor
open Go.ChangeShapes Go.WideShapes Go.ChangeAt Go.RowKit

theorem bk_own : ownKnob Tryd.prog.godebug = none := by kernel_rfl
theorem bk_laidOut : laidOutB Tryd.prog = true := by kernel_rfl
theorem bk_bounds {n : Int} (h : (Lit.int .i64 n).wf = true) : -9223372036854775808 ≤ n ∧ n ≤ 9223372036854775807 := by
  have h1 : IntKind.i64.min = -9223372036854775808 := by decide +kernel
  have h2 : IntKind.i64.max = 9223372036854775807 := by decide +kernel
  simp only [Lit.wf, h1, h2, Bool.and_eq_true, decide_eq_true_eq] at h
  exact h
theorem bk_cells39 : Tryd.prog.cellsOf 39 = 3 := by kernel_rfl
theorem bk_cells3 : Tryd.prog.cellsOf 3 = 1 := by kernel_rfl
theorem bk_cells132 : Tryd.prog.cellsOf 132 = 19 := by kernel_rfl

/-- The table that the start lays. -/
theorem ord_of_laid {W : World} (h : laidMetH Tryd.prog Rows.backedRow.laid W) : OrdAt W := by
  rw [MakeChecks.laidMetH_plain _ _ _ (by kernel_rfl)] at h
  have hT := Lib.tabIs_of_head (P := Tryd.prog) (k := .i64) (zs := [16, 17, 18, 0, 8, 7, 9, 6, 10, 5, 11, 4, 12, 3, 13, 2, 14, 1, 15]) (g := 0) (t := 132) (e := 3) (n := 19) (by kernel_rfl) (by kernel_rfl) Tryd.underlying132 Tryd.underlying3 bk_cells3 bk_cells132 h
  intro i hi
  have := hT.cell (g := 0) (by kernel_rfl) i hi
  rw [this]
  have key : ∀ k : Fin 19, ([16, 17, 18, 0, 8, 7, 9, 6, 10, 5, 11, 4, 12, 3, 13, 2, 14, 1, 15] : List Int).getD k.val 0 = ((ordL.getD k.val 0 : Nat) : Int) := by decide
  rw [key ⟨i, hi⟩]


set_option maxRecDepth 100000 in
theorem open_raw {H : Type} {enc : TypeId × Value → H} {w : World} {base : Nat} {spare : Nat → Bool} {held : Bool} {fuel : Nat} {cs : List Value} {x : DataW H × List MemPlace} (h : DataW.trod enc Tryd.prog w base spare held fuel 31 cs = some x) :
    cs = [.slice none 0 0] ∨ ∃ (a : Addr) (len cap : Nat), cs = [.slice (some a) len cap] ∧ len ≤ maxLen ∧
      ∀ i, i < len → ∀ j, j < 3 → ∃ n : Int, w.cell? (a.add (i * 3 + j)) = some (.int .i64 n) ∧ -9223372036854775808 ≤ n ∧ n ≤ 9223372036854775807 := by
  rcases Deep.open_slice Tryd.underlying31 h with ⟨h0, _⟩ | ⟨a, len, cap, m, n, D, Pl, rfl, hb, hl, hm, hmm, _, hx⟩
  · exact Or.inl h0
  · right
    have hlm : len ≤ m := by rw [hmm]; split <;> omega
    refine ⟨a, len, cap, rfl, by omega, fun i hi j hj => ?_⟩
    obtain ⟨cs', h1, h2⟩ := hx i (by omega)
    rw [bk_cells39] at h1
    obtain ⟨_, hlen, hcell⟩ := World.cells?_some h1
    obtain ⟨xs, k, hk, _, _, hxl, hf⟩ := DataW.trod_struct Tryd.underlying39 h2
    match xs, hxl, cs', hlen with
    | [y0, y1, y2], _, [v0, v1, v2], _ =>
      have g0 := hf 0 _ rfl
      have g1 := hf 1 _ rfl
      have g2 := hf 2 _ rfl
      simp [bk_cells3] at g0 g1 g2
      obtain ⟨n0, q0, _, b0⟩ := DataW.trod_int Tryd.underlying3 g0
      obtain ⟨n1, q1, _, b1⟩ := DataW.trod_int Tryd.underlying3 g1
      obtain ⟨n2, q2, _, b2⟩ := DataW.trod_int Tryd.underlying3 g2
      have e := hcell j hj
      rw [Deep.add_add] at e
      rw [e]
      match j, hj with
      | 0, _ => exact ⟨n0, by simpa using q0, bk_bounds b0⟩
      | 1, _ => exact ⟨n1, by simpa using q1, bk_bounds b1⟩
      | 2, _ => exact ⟨n2, by simpa using q2, bk_bounds b2⟩

theorem made_empty (ao : Option Addr) (cap : Nat) (w0 : World) : Made10 (.slice ao 0 cap) w0 := by
  intro w1 _
  refine (made_none ao cap w1).mono ?_
  rintro e w2 ⟨rfl, rfl⟩
  refine ⟨_, 0, 0, [], rfl, ⟨⟨rfl, Or.inr ⟨w1.heap.size, 0, #[], rfl, Nat.le_refl _, heap_alloc_new _ _, Nat.le_refl _, by unfold maxLen; omega, rfl, rfl⟩⟩, rfl, by omega⟩, ?_⟩
  exact (Fr.refl Non w1).alloc _ |>.below (Nat.le_refl _) (fun k hk => hk.elim)

theorem made_list (b o len cap : Nat) (w0 : World) (hb : b < w0.heap.size) (hlen : len ≤ maxLen)
    (hc : ∀ i, i < len → ∀ j, j < 3 → ∃ n : Int, w0.cell? ⟨b, o + (i * 3 + j), none⟩ = some (.int .i64 n) ∧ -9223372036854775808 ≤ n ∧ n ≤ 9223372036854775807) : Made10 (.slice (some ⟨b, o, none⟩) len cap) w0 := by
  intro w1 hb1
  obtain ⟨K, hK⟩ := Deep.choose_lt (α := Int) (fun i hi => hc i hi 0 (by omega))
  obtain ⟨N, hN⟩ := Deep.choose_lt (α := Int) (fun i hi => hc i hi 1 (by omega))
  obtain ⟨C, hC⟩ := Deep.choose_lt (α := Int) (fun i hi => hc i hi 2 (by omega))
  exact made_some b o len cap K N C w1 (Nat.lt_of_lt_of_le hb hb1.size) hlen
    (fun i hi => ⟨(hb1.cell (p := ⟨b, o + i * 3, none⟩) hb).trans (hK i hi).1, (hK i hi).2⟩)
    (fun i hi => ⟨(hb1.cell (p := ⟨b, o + i * 3 + 1, none⟩) hb).trans (hN i hi).1, (hN i hi).2⟩)
    (fun i hi => ⟨(hb1.cell (p := ⟨b, o + i * 3 + 2, none⟩) hb).trans (hC i hi).1, (hC i hi).2⟩)

set_option maxRecDepth 100000 in
/-- The walk's result, for every argument and every world. -/
theorem bk_contract (H : Type) (enc : TypeId × Value → H) (W : World) (base : Nat) (args : Array Value) (ds gs : List (DataW H)) (before : List MemPlace)
    (hval : ∀ (j : Nat) t v, Tryd.f4.params[j]? = some t → args[j]? = some v → Value.okWide Tryd.prog W .any base t v)
    (hW : DataW.Whole enc Tryd.prog Tryd.f4.params.toList Rows.backedSpec.vars false W args.toList ds gs before) (hO : OrdAt W) :
    Calls Tryd.prog 4 args W fun e W' => ∃ v, e = .returned v ∧ Rows.backedSpec.post enc Tryd.prog Tryd.f4 false true false false W args v W' := by
  have hW' := hW
  obtain ⟨p, q, hA0, hV, rfl, hfz, hnd⟩ := hW
  have hA : DataW.TrodAll enc Tryd.prog W 0 (fun _ => true) true Tryd.f4.params.toList args.toList ds p := hA0
  rw [Tryd.params4] at hA hval
  obtain ⟨v0, v1, d0, d1, p0, p1, rfl, rfl, rfl, h0, h1⟩ := trodAll_two hA
  obtain ⟨rfl, rfl⟩ := trodVars_none hV
  obtain ⟨n1, rfl, rfl, rfl, wn1⟩ := open_int Tryd.underlying3 (hval 1 3 v1 rfl rfl) h1
  obtain ⟨a0, len, cap, rfl⟩ := okWide_slice Tryd.underlying31 (hval 0 31 v0 rfl rfl)
  have h0k := h0
  obtain ⟨fuel, hf⟩ := h0
  clear hA0
  simp only [List.append_nil] at hW'
  have hlt : ∀ x ∈ p0, x.block < W.heap.size := fun x hx => by simpa using hW'.lt x hx
  have hpos : 0 < W.heap.size := lt_of_cell (hO 0 (by omega))
  have fin : ∀ (e : Ending) (W' : World), (e = .returned (.bool true) ∧ Below W.heap.size W W') → ∃ v, e = .returned v ∧ Rows.backedSpec.post enc Tryd.prog Tryd.f4 false true false false W #[.slice a0 len cap, .int .i64 n1] v W' := by
    rintro e W' ⟨rfl, bel⟩
    refine ⟨_, rfl, _, _, _, [], p0 ++ [], [], hW', ?_, ?_, rfl, bel.frame _, fun h => by cases h⟩
    · exact trodAll_cons_mk (shut_bool Tryd.underlying4 _) trodAll_mk0
    · exact trodAll_mk2 (Below.trod bk_laidOut (by kernel_rfl) (of_decide_eq_true (by kernel_rfl)) h0k bel hlt) (shut_int Tryd.underlying3 wn1)
  by_cases hl0 : len = 0
  · subst hl0
    exact (backed_any _ n1 W (bk_bounds wn1) hO hpos (made_empty a0 cap W)).mono fin
  · rcases open_raw hf with hcs | ⟨a, len', cap', hcs, hl, hcell⟩
    · simp [Value.cells] at hcs
      omega
    · simp [Value.cells] at hcs
      obtain ⟨rfl, rfl, rfl⟩ := hcs
      obtain ⟨z0, hc0, _⟩ := hcell 0 (by omega) 0 (by omega)
      have hsp : a.spot = none := by
        have := World.cell?_spot hc0
        unfold Addr.add at this
        split at this <;> simp_all
      obtain ⟨b, off, sp⟩ := a
      simp only at hsp
      subst hsp
      have hadd : ∀ i, (⟨b, off, none⟩ : Addr).add i = ⟨b, off + i, none⟩ := fun i => by unfold Addr.add; split <;> simp_all
      have hbl : b < W.heap.size := by
        rw [hadd] at hc0
        by_cases hb : b < W.heap.size
        · exact hb
        · simp [World.cell?, Array.getElem?_eq_none (Nat.not_lt.1 hb)] at hc0
      refine (backed_any _ n1 W (bk_bounds wn1) hO hpos (made_list b off len cap W hbl hl (fun i hi j hj => ?_))).mono fin
      obtain ⟨n, h1, h2⟩ := hcell i hi j hj
      rw [hadd] at h1
      exact ⟨n, h1, h2⟩

theorem bk_laid_met (os : Os) : laidMet Tryd.prog Rows.backedRow.laid (({ World.holding Tryd.prog os ⟨#[], #[], []⟩ with heap := (World.holding Tryd.prog os ⟨#[], #[], []⟩).heap.modify 0 fun
      | .cells _ t frozen => .cells #[.int .i64 16, .int .i64 17, .int .i64 18, .int .i64 0, .int .i64 8, .int .i64 7, .int .i64 9, .int .i64 6, .int .i64 10, .int .i64 5, .int .i64 11, .int .i64 4, .int .i64 12, .int .i64 3, .int .i64 13, .int .i64 2, .int .i64 14, .int .i64 1, .int .i64 15] t frozen
      | o => o } : World).forCall (fun _ _ => 0) ⟨#[], #[.slice none 0 0, .int .i64 0], []⟩).memory :=
  laidMet_of_run' 8 (by kernel_rfl) (by kernel_rfl)
theorem bk_reads (os : Os) {H : Type} (enc : TypeId × Value → H) : ∃ places, DataW.whole enc Tryd.prog (({ World.holding Tryd.prog os ⟨#[], #[], []⟩ with heap := (World.holding Tryd.prog os ⟨#[], #[], []⟩).heap.modify 0 fun
      | .cells _ t frozen => .cells #[.int .i64 16, .int .i64 17, .int .i64 18, .int .i64 0, .int .i64 8, .int .i64 7, .int .i64 9, .int .i64 6, .int .i64 10, .int .i64 5, .int .i64 11, .int .i64 4, .int .i64 12, .int .i64 3, .int .i64 13, .int .i64 2, .int .i64 14, .int .i64 1, .int .i64 15] t frozen
      | o => o } : World).forCall (fun _ _ => 0) ⟨#[], #[.slice none 0 0, .int .i64 0], []⟩).memory Tryd.f4.params.toList Rows.backedSpec.vars false #[Value.slice none 0 0, Value.int .i64 0].toList 8 = some ([.nil, .lit (.int .i64 0)], [], places) :=
  ⟨[], by kernel_rfl⟩

set_option maxRecDepth 100000 in
theorem bk_lifted (os : Os) (started : os.Started) (H : Type) (enc : TypeId × Value → H) (F : Stop.Interp) :
    ReturnsInHanded {} Tryd.checked os 4 .any ((OpenSpec.ofChange Rows.backedSpec).preRow enc Tryd.prog Tryd.f4 Rows.backedRow.domain false Rows.backedRow.laid) (((OpenSpec.ofChange Rows.backedSpec).at F).post enc Tryd.prog Tryd.f4 false true false false) := by
  obtain ⟨places, hx⟩ := bk_reads os enc
  refine returnsInHanded_of_row (C := Tryd.checked) (s := OpenSpec.ofChange Rows.backedSpec) bk_own started (by kernel_rfl) Tryd.func4
    (witness_row_at (enc := enc) (C := Tryd.checked) false ({ World.holding Tryd.prog os ⟨#[], #[], []⟩ with heap := (World.holding Tryd.prog os ⟨#[], #[], []⟩).heap.modify 0 fun
      | .cells _ t frozen => .cells #[.int .i64 16, .int .i64 17, .int .i64 18, .int .i64 0, .int .i64 8, .int .i64 7, .int .i64 9, .int .i64 6, .int .i64 10, .int .i64 5, .int .i64 11, .int .i64 4, .int .i64 12, .int .i64 3, .int .i64 13, .int .i64 2, .int .i64 14, .int .i64 1, .int .i64 15] t frozen
      | o => o } : World) #[.slice none 0 0, .int .i64 0] rfl (by kernel_rfl) (by kernel_rfl) (by kernel_rfl)
      (OpenSpec.preRow_of_cond 8 hx (by kernel_rfl) (fun k hk => by cases hk) (by kernel_rfl) (bk_laid_met os))) ?_
  intro W base args ds gs before hval hW _ _ _ hL _ _
  exact bk_contract H enc W base args ds gs before hval hW (ord_of_laid hL)

theorem bk_said : Rows.BackedSaid :=
  OpenClaim.holds_of_cond 4 Tryd.f4 rfl rfl rfl rfl rfl rfl rfl ⟨rfl, rfl, rfl, rfl, rfl⟩ rfl rfl rfl rfl rfl (by kernel_rfl) Tryd.func4 (by kernel_rfl)
    (of_decide_eq_true (by kernel_rfl)) (by unfold Func.isWrapper; first | (rw [if_pos (by decide +kernel)]; kernel_rfl) | (rw [if_neg (by decide +kernel)]; exact ⟨rfl, rfl⟩))
    (fun os started H enc _ F => by rw [OpenClaim.pre_eq_preRow]; exact bk_lifted os started H enc F)

/-- No parameter wants a stand-in. -/
theorem bk_plain (f : FuncId) (fn : Func) (hf : Tryd.pinned.checked.prog.funcNamed Rows.backedRow.func = some f) (hfn : Tryd.pinned.checked.prog.funcs[f]? = some fn) :
    true = Tryd.pinned.checked.prog.looks [] ∧ ∀ (j : Nat) t, fn.params[j]? = some t → Tryd.pinned.checked.prog.wantsStandIn t = false := by
  obtain rfl : f = 4 := Option.some.inj ((show Tryd.prog.funcNamed Rows.backedRow.func = some 4 by kernel_rfl).symm.trans hf) |>.symm
  obtain rfl : fn = Tryd.f4 := (Option.some.inj (Tryd.func4.symm.trans hfn)).symm
  refine ⟨by kernel_rfl, fun j t ht => ?_⟩
  rw [Tryd.params4] at ht
  have hm : t ∈ #[31, 3] := Array.mem_of_getElem? ht
  simp at hm
  rcases hm with rfl | rfl
  · exact (show Tryd.prog.wantsStandIn 31 = false by kernel_rfl)
  · exact (show Tryd.prog.wantsStandIn 3 = false by kernel_rfl)

theorem backed_card : Rows.BackedCardSaid :=
  Claim7.holds_tied_plain_at .later [] _ _ _ _ bk_said (fun _ h => by cases h) (by kernel_rfl) (fun _ h => by cases h) backed_row_tie rfl ⟨rfl, rfl⟩ (by kernel_rfl) rfl bk_plain (by kernel_rfl)

#print axioms backed_card
end Go.Proofs.YtdpobjgfnhjagaaDoor
