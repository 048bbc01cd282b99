import Derived.Test.YtdpobjgfnhjagaaDoorWe
namespace Go.Proofs.YtdpobjgfnhjagaaDoor
open Go.RowKit

theorem catch_idle (p0 p1 p2 : Addr) (w : World) :
    CallsD Tryd.prog 14 #[.pointer (some p0), .pointer (some p1), .pointer (some p2)] .returning w fun e u' w' => e = .returned (.tuple #[]) ∧ u' = .returning ∧ w' = w := by
  refine callsD_of_wpS Tryd.func14 rfl fun c₀ cs hu => ?_
  apply wpS_seq
  apply wpS_region
  simp [wpOpsS, go_sem, recoverD, hu, Tryd.ntmps14, Exit.thenS]
  refine wpS_of_wp ?_
  go_wp2_with fail
  cases c₀
  simp_all [bodyPostS, results, Tryd.results14]

theorem run_assert41 (v : Value) (w : World) : (Instr.typeAssert (.iface 41 v) 20 41 true).run Tryd.prog w = .ok (.tuple #[v, .bool true]) w := by
  simp [Instr.typeAssert, run_underlying Tryd.underlying41, go_sem, Result.andThen]

/-- A block of one cell. -/
abbrev Cell1 (w : World) (k : Nat) (v : Value) (t : TypeId) : Prop := w.heap[k]? = some (.cells #[v] t (0, 0))

set_option maxHeartbeats 400000 in
theorem catch_stop (k0 : Nat) (v0 v1 v2 : Value) (x : Int) (w : World) (h0 : Cell1 w k0 v0 25) (h1 : Cell1 w (k0 + 1) v1 3) (h2 : Cell1 w (k0 + 2) v2 27) :
    CallsD Tryd.prog 14 #[.pointer (some ⟨k0, 0, none⟩), .pointer (some ⟨k0 + 1, 0, none⟩), .pointer (some ⟨k0 + 2, 0, none⟩)] (.panicking [{ v := .iface 41 (.agg #[.int .i64 x]), recovered := false }]) w fun e u' w' =>
      e = .returned (.tuple #[]) ∧ u' = .panicking [{ v := .iface 41 (.agg #[.int .i64 x]), recovered := true }] ∧
      Cell1 w' k0 (.slice none 0 0) 25 ∧ Cell1 w' (k0 + 1) (.int .i64 0) 3 ∧ Cell1 w' (k0 + 2) (.int .i64 x) 27 ∧ Fr (fun k => k0 ≤ k) w w' := by
  have c0 := cell_of_one h0
  have c1 := cell_of_one h1
  have c2 := cell_of_one h2
  have f0 := free_of_one h0
  have f1 := free_of_one h1
  have f2 := free_of_one h2
  have b2 := lt_of_heap h2
  have H0 : Hid _ := h0; clear h0
  have H1 : Hid _ := h1; clear h1
  have H2 : Hid _ := h2; clear h2
  have hta := run_assert41
  refine callsD_of_wpS Tryd.func14 rfl fun c₀ cs hu => ?_
  apply wpS_seq
  apply wpS_region
  simp [wpOpsS, go_sem, recoverD, hu, Tryd.ntmps14, Exit.thenS]
  refine wpS_of_wp ?_
  rw [show (#[Value.pointer (some ⟨k0, 0, none⟩), Value.pointer (some ⟨k0 + 1, 0, none⟩), Value.pointer (some ⟨k0 + 2, 0, none⟩)] ++ (Array.replicate 11 undef).setIfInBounds 3 (Value.iface 41 (Value.agg #[Value.int IntKind.i64 x])) : Array Value) = #[Value.pointer (some ⟨k0, 0, none⟩), Value.pointer (some ⟨k0 + 1, 0, none⟩), Value.pointer (some ⟨k0 + 2, 0, none⟩), undef, undef, undef, Value.iface 41 (Value.agg #[Value.int IntKind.i64 x]), undef, undef, undef, undef, undef, undef, undef] from rfl]
  go_wp2_with fail
  have g0 : Cell1 (w.alloc (.cells #[.int .i64 x] 41)) k0 v0 25 := (heap_alloc_old (by omega) _).trans H0.out
  have g1 : Cell1 (w.alloc (.cells #[.int .i64 x] 41)) (k0 + 1) v1 3 := (heap_alloc_old (by omega) _).trans H1.out
  have g2 : Cell1 (w.alloc (.cells #[.int .i64 x] 41)) (k0 + 2) v2 27 := (heap_alloc_old b2 _).trans H2.out
  have g3 : Cell1 (w.alloc (.cells #[.int .i64 x] 41)) w.heap.size (.int .i64 x) 41 := heap_alloc_new _ _
  have hfr : Fr (fun k => k0 ≤ k) w (w.alloc (.cells #[.int .i64 x] 41)) := (Fr.refl _ _).alloc _
  clear c0 c1 c2 f0 f1 f2 H0 H1 H2
  generalize w.alloc (.cells #[.int .i64 x] 41) = w1 at *
  generalize w.heap.size = s at *
  have c0 := cell_of_one g0
  have c1 := cell_of_one g1
  have c2 := cell_of_one g2
  have c3 := cell_of_one g3
  have f0 := free_of_one g0
  have f1 := free_of_one g1
  have f2 := free_of_one g2
  have n0 : ¬ k0 = s := by omega
  have n1 : ¬ k0 + 1 = s := by omega
  have n2 : ¬ k0 + 2 = s := by omega
  have n0' : ¬ s = k0 := by omega
  have n1' : ¬ s = k0 + 1 := by omega
  have n2' : ¬ s = k0 + 2 := by omega
  have H0 : Hid _ := g0; clear g0
  have H1 : Hid _ := g1; clear g1
  have H2 : Hid _ := g2; clear g2
  clear g3
  go_region
  go_wp2_with fail
  refine ⟨rfl, .panicking _, rfl, .tuple #[], by simp [results, Tryd.results14], rfl, rfl, ?_⟩
  refine ⟨?_, ?_, ?_, ?_⟩
  · exact (heap_set_other (by omega) _ _).trans ((heap_set_other (by omega) _ _).trans (heap_set H0.out 0 _))
  · exact (heap_set_other (by omega) _ _).trans (heap_set ((heap_set_other (by omega) _ _).trans H1.out) 0 _)
  · exact heap_set (((heap_set_other (by omega) _ _).trans (heap_set_other (by omega) _ _)).trans H2.out) 0 _
  · exact (((hfr.setCell (p := ⟨k0, 0, none⟩) (Nat.le_refl _) _).setCell (p := ⟨k0 + 1, 0, none⟩) (Nat.le_add_right _ _) _).setCell (p := ⟨k0 + 2, 0, none⟩) (Nat.le_add_right _ _) _).drew

/-- The world in which Stream reads: its three results and the reader lie behind what was there. -/
abbrev W0 (w : World) (bv : Value) (lim : Int) : World :=
  (((w.alloc (.cells #[.slice none 0 0] 25)).alloc (.cells #[.int .i64 0] 3)).alloc (.cells #[.int .i64 0] 27)).alloc (RB bv 0 0 0 (.slice none 0 0) lim (.pointer none))

theorem W0_heap (w : World) (bv : Value) (lim : Int) : Cell1 (W0 w bv lim) w.heap.size (.slice none 0 0) 25 ∧ Cell1 (W0 w bv lim) (w.heap.size + 1) (.int .i64 0) 3 ∧ Cell1 (W0 w bv lim) (w.heap.size + 2) (.int .i64 0) 27 ∧
    (W0 w bv lim).heap[w.heap.size + 3]? = some (RB bv 0 0 0 (.slice none 0 0) lim (.pointer none)) ∧ (W0 w bv lim).heap.size = w.heap.size + 4 ∧ Below w.heap.size w (W0 w bv lim) := by
  have e1 : (w.alloc (.cells #[.slice none 0 0] 25)).heap.size = w.heap.size + 1 := by simp
  have e2 : ((w.alloc (.cells #[.slice none 0 0] 25)).alloc (.cells #[.int .i64 0] 3)).heap.size = w.heap.size + 2 := by simp
  have e3 : (((w.alloc (.cells #[.slice none 0 0] 25)).alloc (.cells #[.int .i64 0] 3)).alloc (.cells #[.int .i64 0] 27)).heap.size = w.heap.size + 3 := by simp
  refine ⟨?_, ?_, ?_, ?_, by simp, ?_⟩
  · exact (heap_alloc_old (by omega) _).trans ((heap_alloc_old (by omega) _).trans ((heap_alloc_old (by omega) _).trans (heap_alloc_new _ _)))
  · have := heap_alloc_new (w.alloc (.cells #[.slice none 0 0] 25)) (.cells #[.int .i64 0] 3)
    rw [e1] at this
    exact (heap_alloc_old (by omega) _).trans ((heap_alloc_old (by omega) _).trans this)
  · have := heap_alloc_new ((w.alloc (.cells #[.slice none 0 0] 25)).alloc (.cells #[.int .i64 0] 3)) (.cells #[.int .i64 0] 27)
    rw [e2] at this
    exact (heap_alloc_old (by omega) _).trans this
  · have := heap_alloc_new (((w.alloc (.cells #[.slice none 0 0] 25)).alloc (.cells #[.int .i64 0] 3)).alloc (.cells #[.int .i64 0] 27)) (RB bv 0 0 0 (.slice none 0 0) lim (.pointer none))
    rw [e3] at this
    exact this
  · exact ((((Below.refl _ _).alloc (Nat.le_refl _) _).alloc (by simp) _).alloc (by simp; omega) _).alloc (by simp; omega) _

set_option maxHeartbeats 1000000 in
theorem stream_of (ao : Option Addr) (l c : Nat) (lim : Int) (w : World) (hl0 : 0 ≤ lim) (hlim : lim ≤ 60000) (R : Ending → World → Prop)
    (hR : Calls Tryd.prog 15 #[.pointer (some ⟨w.heap.size + 3, 0, none⟩)] (W0 w (.slice ao l c) lim) R)
    (hE : ∀ e w1, R e w1 → Fr (fun k => w.heap.size + 3 ≤ k) (W0 w (.slice ao l c) lim) w1 ∧
      ((e = .returned (.tuple #[]) ∧ ∃ q held left fx oa on oc, w1.heap[w.heap.size + 3]? = some (RB (.slice ao l c) q held left (.slice oa on oc) lim fx)) ∨ ∃ x, e = stop x)) :
    Calls Tryd.prog 12 #[.slice ao l c, .int .i64 lim] w fun e w' => ∃ e1 w1, R e1 w1 ∧
      ((∃ q held left fx oa on oc, e1 = .returned (.tuple #[]) ∧ Fr (fun k => w.heap.size ≤ k ∧ k < w.heap.size + 3) w1 w' ∧ w1.heap[w.heap.size + 3]? = some (RB (.slice ao l c) q held left (.slice oa on oc) lim fx) ∧ e = .returned (.tuple #[.slice oa on oc, .int .i64 q, .int .i64 0])) ∨
       (∃ x, e1 = stop x ∧ Fr (fun k => w.heap.size ≤ k) w1 w' ∧ e = .returned (.tuple #[.slice none 0 0, .int .i64 0, .int .i64 x]))) := by
  have hmf : ∀ (fn : Fn) (first cap : Array Value) (w : World), (Instr.makeFunc fn first cap).run Tryd.prog w = .ok (.func fn first cap) w := fun _ _ _ _ => rfl
  have HR : Hid (Calls Tryd.prog 15 #[.pointer (some ⟨w.heap.size + 3, 0, none⟩)] (W0 w (.slice ao l c) lim) R) := hR; clear hR
  have HE : Hid (∀ e w1, R e w1 → Fr (fun k => w.heap.size + 3 ≤ k) (W0 w (.slice ao l c) lim) w1 ∧
      ((e = .returned (.tuple #[]) ∧ ∃ q held left fx oa on oc, w1.heap[w.heap.size + 3]? = some (RB (.slice ao l c) q held left (.slice oa on oc) lim fx)) ∨ ∃ x, e = stop x)) := hE; clear hE
  go_enter_defers Tryd.func12, Tryd.ntmps12
  go_wp2_with fail
  refine HR.out.mono ?_
  intro e w1 hr
  obtain ⟨hf, hc⟩ := HE.out e w1 hr
  obtain ⟨a0, a1, a2, a3, a4, a5⟩ := W0_heap w (.slice ao l c) lim
  have k0 : Cell1 w1 w.heap.size (.slice none 0 0) 25 := (hf.block _ (by omega) (by omega)).trans a0
  have k1 : Cell1 w1 (w.heap.size + 1) (.int .i64 0) 3 := (hf.block _ (by omega) (by omega)).trans a1
  have k2 : Cell1 w1 (w.heap.size + 2) (.int .i64 0) 27 := (hf.block _ (by omega) (by omega)).trans a2
  rcases hc with ⟨rfl, q, held, left, fx, oa, on, oc, hB⟩ | ⟨x, rfl⟩
  · obtain ⟨d0, d1, d2, d3, d4, d5, d6, df⟩ := rb_cells hB
    have c0 := cell_of_one k0
    have c1 := cell_of_one k1
    have c2 := cell_of_one k2
    have f0 := free_of_one k0
    have f1 := free_of_one k1
    have f2 := free_of_one k2
    have HB : Hid _ := hB; clear hB
    have HK0 : Hid _ := k0; clear k0
    have HK1 : Hid _ := k1; clear k1
    have HK2 : Hid _ := k2; clear k2
    clear a0 a1 a2 a3 a4 a5 hf HR HE
    go_wp2_with fail
    go_region
    go_wp2_with fail
    refine leaves_cons (f := 14) (args := #[.pointer (some ⟨w.heap.size, 0, none⟩), .pointer (some ⟨w.heap.size + 1, 0, none⟩), .pointer (some ⟨w.heap.size + 2, 0, none⟩)]) (by simp) (by simp [go_sem]) ?_
    refine (catch_idle _ _ _ _).mono ?_
    rintro e u' w'' ⟨rfl, rfl, hw⟩
    have g0 : Cell1 w'' w.heap.size (.slice oa on oc) 25 := by
      rw [hw]
      exact (heap_set_other (by omega) _ _).trans ((heap_set_other (by omega) _ _).trans (heap_set HK0.out 0 _))
    have g1 : Cell1 w'' (w.heap.size + 1) (.int .i64 q) 3 := by
      rw [hw]
      exact (heap_set_other (by omega) _ _).trans (heap_set ((heap_set_other (by omega) _ _).trans HK1.out) 0 _)
    have g2 : Cell1 w'' (w.heap.size + 2) (.int .i64 0) 27 := by
      rw [hw]
      exact heap_set (((heap_set_other (by omega) _ _).trans (heap_set_other (by omega) _ _)).trans HK2.out) 0 _
    have gf : Fr (fun k => w.heap.size ≤ k ∧ k < w.heap.size + 3) w1 w'' := by
      rw [hw]
      exact ((((Fr.refl _ w1).setCell (p := ⟨w.heap.size, 0, none⟩) (by simp) _).setCell (p := ⟨w.heap.size + 1, 0, none⟩) (by simp) _).setCell (p := ⟨w.heap.size + 1 + 1, 0, none⟩) ⟨Nat.le_add_right _ 2, Nat.lt_succ_self _⟩ _).drew
    clear hw
    have c0 := cell_of_one g0
    have c1 := cell_of_one g1
    have c2 := cell_of_one g2
    simp only [Leaves, settle]
    refine ⟨.tuple #[.slice oa on oc, .int .i64 q, .int .i64 0], ?_, _, w1, hr, Or.inl ⟨q, held, left, fx, oa, on, oc, rfl, gf, HB.out, rfl⟩⟩
    simp [results, Tryd.results12, go_sem, c0, c1, c2]
  · clear a0 a1 a2 a3 a4 a5 HR HE
    have HK0 : Hid _ := k0; clear k0
    have HK1 : Hid _ := k1; clear k1
    have HK2 : Hid _ := k2; clear k2
    go_wp2_with fail
    refine leaves_cons (f := 14) (args := #[.pointer (some ⟨w.heap.size, 0, none⟩), .pointer (some ⟨w.heap.size + 1, 0, none⟩), .pointer (some ⟨w.heap.size + 2, 0, none⟩)]) (by simp) (by simp [go_sem]) ?_
    refine (catch_stop w.heap.size _ _ _ x w1 HK0.out HK1.out HK2.out).mono ?_
    rintro e u' w'' ⟨rfl, rfl, g0, g1, g2, gf⟩
    have c0 := cell_of_one g0
    have c1 := cell_of_one g1
    have c2 := cell_of_one g2
    simp only [settle]
    refine ⟨.tuple #[.slice none 0 0, .int .i64 0, .int .i64 x], ?_, _, w1, hr, Or.inr ⟨x, rfl, gf, rfl⟩⟩
    simp [results, Tryd.results12, go_sem, c0, c1, c2]

/-- Stream's answer is this; nothing that was there has turned. -/
def Answer (w : World) (out : List UInt8) (used : Nat) (e : Ending) (w' : World) : Prop :=
  ∃ ov, e = .returned (.tuple #[ov, .int .i64 used, .int .i64 0]) ∧ w'.ownsRow w.heap.size 5 1 ov out.length (bv8 out) ∧ Below w.heap.size w w'

def Refused (w : World) (x : Int) (e : Ending) (w' : World) : Prop :=
  e = .returned (.tuple #[.slice none 0 0, .int .i64 0, .int .i64 x]) ∧ Below w.heap.size w w'

/-- Of stored blocks: read, too short, or too many. -/
def Told (w : World) (lim : Int) (I : List UInt8) (blks : List (List UInt8)) (e : Ending) (w' : World) : Prop :=
  ((enc blks).length ≤ I.length ∧ (blks.flatten.length : Int) ≤ lim ∧ Answer w blks.flatten (enc blks).length e w') ∨
  (I.length < (enc blks).length ∧ Refused w 2 e w') ∨ (lim < (blks.flatten.length : Int) ∧ Refused w 4 e w')

theorem owns_slice {w : World} {base : Nat} {e : TypeId} {size : Nat} {v : Value} {n : Nat} {xs : List Value} (h : w.ownsRow base e size v n xs) : ∃ ao cp, v = .slice ao n cp := by
  rcases h.2 with ⟨h1, h2⟩ | ⟨g, cap, cur, h1, _⟩
  · exact ⟨none, 0, by rw [h1, h2]⟩
  · exact ⟨_, _, h1⟩

theorem owns_base {w : World} {base base' : Nat} {e : TypeId} {size : Nat} {v : Value} {n : Nat} {xs : List Value} (h : w.ownsRow base e size v n xs) (hb : base' ≤ base) : w.ownsRow base' e size v n xs := by
  obtain ⟨h1, h2⟩ := h
  refine ⟨h1, ?_⟩
  rcases h2 with h2 | ⟨g, cap, cur, hv, hg, r⟩
  · exact Or.inl h2
  · exact Or.inr ⟨g, cap, cur, hv, Nat.le_trans hb hg, r⟩

theorem stream_any (b o c : Nat) (lim : Int) (I : List UInt8) (blks : List (List UInt8)) (w : World)
    (hl : I.length ≤ maxLen) (hb : b < w.heap.size) (hI : Lies w b o I)
    (hne : blks ≠ []) (hr : Reads I 0 blks) (hx : ∀ x ∈ blks, x.length ≤ 2000) (hl0 : 0 ≤ lim) (hlim : lim ≤ 60000) :
    Calls Tryd.prog 12 #[.slice (some ⟨b, o, none⟩) I.length c, .int .i64 lim] w (Told w lim I blks) := by
  obtain ⟨a0, a1, a2, a3, a4, a5⟩ := W0_heap w (.slice (some ⟨b, o, none⟩) I.length c) lim
  have hI0 : Lies (W0 w (.slice (some ⟨b, o, none⟩) I.length c) lim) b o I := hI.keep (Fr.of_below a5) (by omega)
  have hB := blocks_any (w.heap.size + 3) b o c lim I blks (.pointer none) (W0 w (.slice (some ⟨b, o, none⟩) I.length c) lim) a3 hl (by omega) hI0 hne hr hx hl0 hlim
  refine (stream_of (some ⟨b, o, none⟩) I.length c lim w hl0 hlim _ hB ?_).mono ?_
  · intro e w1 h
    refine ⟨h.2, ?_⟩
    rcases h.1 with ⟨h1, _, _, held, ov, h2, _, _, h3⟩ | ⟨h1, _⟩ | ⟨h1, _⟩
    · obtain ⟨ao, cp, rfl⟩ := owns_slice h3
      exact Or.inl ⟨h1, _, _, _, _, _, _, _, h2⟩
    · exact Or.inr ⟨_, h1⟩
    · exact Or.inr ⟨_, h1⟩
  · rintro e w' ⟨e1, w1, h, hc⟩
    obtain ⟨hcase, hf⟩ := h
    have hbel : Below w.heap.size w w1 := a5.trans (hf.below (by omega) (by intro k hk; omega))
    rcases hc with ⟨q, held, left, fx, oa, on, oc, rfl, f, hB2, rfl⟩ | ⟨x, rfl, f, rfl⟩
    · have hbel' : Below w.heap.size w w' := hbel.trans (f.below hbel.size (by intro k hk; omega))
      rcases hcase with ⟨_, h2, h3, held', ov, h4, _, _, h5⟩ | ⟨h1, _⟩ | ⟨h1, _⟩
      · rw [hB2] at h4
        obtain ⟨ao, cp, rfl⟩ := owns_slice h5
        simp [-List.length_flatten] at h4
        obtain ⟨rfl, rfl, rfl, ⟨rfl, rfl, rfl⟩, rfl⟩ := h4
        refine Or.inl ⟨h2, h3, _, rfl, ?_, hbel'⟩
        simp only [List.nil_append] at h5

        have h6 := owns_keep (w' := w') h5 fun g hg hs => f.block g hs (by have := (owns_block h5 hg).1; omega)
        exact owns_base (base' := w.heap.size) h6 (by omega)
      · cases h1
      · cases h1
    · have hbel' : Below w.heap.size w w' := hbel.trans (f.below hbel.size (by intro k hk; omega))
      rcases hcase with ⟨h1, _⟩ | ⟨h1, h2⟩ | ⟨h1, h2⟩
      · cases h1
      · simp [stop] at h1
        subst h1
        exact Or.inr (Or.inl ⟨h2, rfl, hbel'⟩)
      · simp [stop] at h1
        subst h1
        exact Or.inr (Or.inr ⟨h2, rfl, hbel'⟩)

set_option maxHeartbeats 400000 in
/-- spool.Inflate hands Stream's answer on. -/
theorem inflate_of (bv : Value) (lim : Int) (w : World) (R : Ending → World → Prop) (h : Calls Tryd.prog 12 #[bv, .int .i64 lim] w R)
    (hR : ∀ e w', R e w' → ∃ a b c, e = .returned (.tuple #[a, b, c])) : Calls Tryd.prog 8 #[bv, .int .i64 lim] w R := by
  have H : Hid (Calls Tryd.prog 12 #[bv, .int .i64 lim] w R) := h; clear h
  have HR : Hid (∀ e w', R e w' → ∃ a b c, e = .returned (.tuple #[a, b, c])) := hR; clear hR
  go_enter Tryd.func8, Tryd.ntmps8
  go_wp2_with fail
  refine H.out.mono ?_
  intro e w' h
  obtain ⟨a, b, c, rfl⟩ := HR.out e w' h
  go_wp2_with fail
  go_ret3
  exact h

end Go.Proofs.YtdpobjgfnhjagaaDoor
