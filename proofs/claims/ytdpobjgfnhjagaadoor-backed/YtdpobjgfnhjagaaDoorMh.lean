import Derived.Test.YtdpobjgfnhjagaaDoorMg
import Derived.Lib.SlBytesConst
namespace Go.Proofs.YtdpobjgfnhjagaaDoor
open Go.RowKit

/-- Tokens as a value: none, or a row of them. -/
def TokV (w : World) (T : Value) (ts : List GT) : Prop := (T = .slice none 0 0 ∧ ts = []) ∨ ∃ g cap, T = .slice (some ⟨g, 0, none⟩) ts.length cap ∧ TkAt w g ts
theorem TokV.below {w w' : World} {T : Value} {ts : List GT} (h : TokV w T ts) (hb : Below w.heap.size w w') : TokV w' T ts := by
  rcases h with h | ⟨g, cap, e, h⟩
  · exact Or.inl h
  · exact Or.inr ⟨g, cap, e, h.below hb h.lt⟩
theorem TokV.of_owns {w : World} {base n : Nat} {v : Value} {ts : List GT} (h : w.ownsRow base 64 3 v n (tkC ts)) (hn : ts.length = n) : TokV w v ts := by
  rcases h.2 with ⟨h1, h2⟩ | ⟨g, cap, cur, hv, _⟩
  · exact Or.inl ⟨h1, List.length_eq_zero_iff.1 (by omega)⟩
  · subst hv
    exact Or.inr ⟨g, cap, by rw [hn], (TkAt.of_owns h).1⟩
theorem TokV.slice {w : World} {T : Value} {ts : List GT} (h : TokV w T ts) : ∃ ta tn tc, T = .slice ta tn tc := by
  rcases h with ⟨h, _⟩ | ⟨g, cap, e, _⟩
  · exact ⟨_, _, _, h⟩
  · exact ⟨_, _, _, e⟩
theorem TokV.cnt {w : World} {T : Value} {ts : List GT} (h : TokV w T ts) (hn : ts.length ≤ 30000) (hok : ∀ t ∈ ts, gtOk t) : CntOf T ts w := by
  rcases h with ⟨rfl, rfl⟩ | ⟨g, cap, rfl, h⟩
  · exact counts_nil w
  · exact counts_any g ts.length cap ts w h rfl hn hok
theorem TokV.put {w : World} {T : Value} {ts : List GT} (h : TokV w T ts) (hn : ts.length ≤ 30000) : PutOf T ts w := by
  rcases h with ⟨rfl, rfl⟩ | ⟨g, cap, rfl, h⟩
  · intro B gl gw cl cw dl dw ecl ecw L D bs w' _ _ ho EL ED _ h256 he hl
    exact tokens_nil B gl 0 gw cl cw dl 0 dw ecl ecw L D bs w' ho EL ED h256 he hl
  · intro B gl gw cl cw dl dw ecl ecw L D bs w' hb hB ho EL ED hok h256 he hl
    have := h.lt
    exact tokens_put B gl 0 gw cl cw dl 0 dw ecl ecw g ts.length cap L D bs ts w' ho EL ED (h.below hb h.lt) (by omega) rfl hn hok h256 he hl
theorem TokV.fixed {w : World} {T : Value} {ts : List GT} (h : TokV w T ts) (hn : ts.length ≤ 30000) (hok : ∀ t ∈ ts, gtOk t) :
    Calls Tryd.prog 20 #[T] w fun e w' => ∃ ov, e = .returned ov ∧ w'.ownsRow (w.heap.size + 1) 5 1 ov (pack (fixedBits (ts.map toTok))).length (bv8 (pack (fixedBits (ts.map toTok)))) ∧ Below w.heap.size w w' := by
  rcases h with ⟨rfl, rfl⟩ | ⟨g, cap, rfl, h⟩
  · exact fixed_nil w
  · exact fixed_any g ts.length cap ts w h rfl hn hok
theorem TokV.dynamic {w : World} {T : Value} {ts : List GT} (h : TokV w T ts) (hn : ts.length ≤ 30000) (hok : ∀ t ∈ ts, gtOk t) (hO : OrdAt w) (h0 : 0 < w.heap.size) :
    Calls Tryd.prog 21 #[T] w fun e w' => ∃ v, e = .returned v ∧ ∃ bits, DynW ts bits ∧ (∀ x ∈ bits, x < 2) ∧ w'.ownsRow (w.heap.size + 1) 5 1 v (pack bits).length (bv8 (pack bits)) ∧ Below w.heap.size w w' :=
  dynamic_of T ts w (h.cnt hn hok) (h.put hn) hn hok hO h0

/-- A stream of b. -/
def StrOf (b s : List UInt8) : Prop := ∀ (rest : List UInt8) (lim : Int), 0 ≤ lim → inflE (s ++ rest) lim = if (b.length : Int) ≤ lim then .ok (b, s.length) else .error 4

/-- Tokens of which b comes out. -/
structure TsR (b : List UInt8) (ts : List GT) : Prop where
  ok : ∀ t ∈ ts, gtOk t
  dist : distsOk (ts.map toTok) []
  ex : toksEx (ts.map toTok) [] = b
  cnt : ts.length ≤ b.length
theorem TsI.r {b : List UInt8} {ts : List GT} (h : TsI b b.length ts) : TsR b ts := ⟨h.ok, h.dist, by rw [h.ex, List.take_length], h.cnt⟩

theorem toks_says {b : List UInt8} {ts : List GT} (h : TsR b ts) (lim : Int) (h0 : 0 ≤ lim) : toksOut lim (ts.map toTok) [] = if (b.length : Int) ≤ lim then .ok b else .error 4 := by
  have e : toksEx (ts.map toTok) [] = b := h.ex
  by_cases c : (b.length : Int) ≤ lim
  · rw [if_pos c, toksOut_ok lim _ _ h.dist (by rw [e]; exact c), e]
  · rw [if_neg c, toksOut_full lim _ _ h.dist (by simpa using h0) (by rw [e]; omega)]
theorem lsb_two (n : Nat) : ∀ (v x : Nat), x ∈ lsb n v → x < 2 := by
  induction n with
  | zero => intro v x h; simp [lsb] at h
  | succ n ih =>
    intro v x h
    simp only [lsb, List.mem_cons] at h
    rcases h with rfl | h
    · omega
    · exact ih _ _ h
theorem msb_two (n : Nat) : ∀ (v x : Nat), x ∈ msb n v → x < 2 := by
  induction n with
  | zero => intro v x h; simp [msb] at h
  | succ n ih =>
    intro v x h
    simp only [msb, List.mem_cons] at h
    rcases h with rfl | h
    · omega
    · exact ih _ _ h
theorem toks_two (L D : List Nat) (ts : List Tok) : ∀ x ∈ toksBits L D ts, x < 2 := by
  induction ts with
  | nil => intro x h; simp [toksBits] at h
  | cons t r ih =>
    intro x h
    simp only [toksBits, tokBits, List.mem_append] at h
    rcases h with (h | h) | h
    · exact msb_two _ _ _ h
    · by_cases c : t.s < 256
      · rw [if_pos c] at h; simp at h
      · rw [if_neg c] at h
        simp only [List.mem_append] at h
        rcases h with h | h | h
        · exact lsb_two _ _ _ h
        · exact msb_two _ _ _ h
        · exact lsb_two _ _ _ h
    · exact ih x h
theorem fixed_two (ts : List Tok) : ∀ x ∈ fixedBits ts, x < 2 := by
  intro x h
  simp only [fixedBits, headBits, List.mem_append, List.mem_cons] at h
  rcases h with (rfl | h) | h | h
  · omega
  · exact lsb_two _ _ _ h
  · exact toks_two _ _ _ _ h
  · exact msb_two _ _ _ h

theorem str_fixed {b : List UInt8} {ts : List GT} (h : TsR b ts) : StrOf b (pack (fixedBits (ts.map toTok))) := by
  intro rest lim h0
  rw [infl_fixed (toks := ts.map toTok) (fun t ht => by
    obtain ⟨u, hu, rfl⟩ := List.mem_map.1 ht
    exact fixed_ok u (h.ok u hu)) (pack_bits _ (fixed_two _) rest), toks_says h lim h0, pack_length]
  by_cases c : (b.length : Int) ≤ lim
  · rw [if_pos c, if_pos c]
  · rw [if_neg c, if_neg c]
theorem str_dyn {b : List UInt8} {ts : List GT} {bits : List Nat} (h : TsR b ts) (hd : DynW ts bits) (h2 : ∀ x ∈ bits, x < 2) : StrOf b (pack bits) := by
  intro rest lim h0
  rw [hd.reads h.ok _ lim (pack_bits _ h2 rest), toks_says h lim h0, pack_length]
  by_cases c : (b.length : Int) ≤ lim
  · rw [if_pos c, if_pos c]
  · rw [if_neg c, if_neg c]
theorem str_stored (b : List UInt8) (hb : b.length ≤ 30000) : StrOf b (headOf true b.length ++ b) := by
  intro rest lim h0
  rw [List.append_assoc, infl_stored b rest lim (by omega) h0, List.length_append, head_length]
  by_cases c : (b.length : Int) ≤ lim
  · rw [if_pos c, if_pos c, Nat.add_comm]
  · rw [if_neg c, if_neg c]
/-- The bytes one by one, as tokens. -/
theorem sgl_str (b : List UInt8) : TsR b (sgl b b.length) := by
  have h := sgl_tsi b b.length (Nat.le_refl _)
  rw [List.take_of_length_le (by rw [sgl_length]; omega), List.take_length] at h
  refine ⟨fun t ht => ?_, h.2, h.1, by rw [sgl_length]; omega⟩
  simp only [sgl, List.mem_map, List.mem_range] at ht
  obtain ⟨i, hi, rfl⟩ := ht
  rw [if_pos hi]
  exact Or.inl rfl

/-- What Stream writes. -/
structure StrOk (b : List UInt8) (lev : Nat) (s : List UInt8) : Prop where
  le : s.length ≤ b.length + 5
  str : StrOf b s
  rep : 1 ≤ lev → ∃ ts, TsI b b.length ts ∧ s.length ≤ (pack (fixedBits (ts.map toTok))).length
  sing : 1 ≤ lev → ∃ bits, DynW (sgl b b.length) bits ∧ s.length ≤ (pack bits).length

/-- The best so far. -/
structure BstAt (b : List UInt8) (w0 : World) (ao : Option Addr) (m c : Nat) (w : World) (s : List UInt8) : Prop where
  own : w.ownsRow w0.heap.size 5 1 (.slice ao m c) s.length (bv8 s)
  len : m = s.length
  str : StrOf b s
  le : s.length ≤ b.length + 5
theorem BstAt.below {b : List UInt8} {w0 : World} {ao : Option Addr} {m c : Nat} {w w' : World} {s : List UInt8} (h : BstAt b w0 ao m c w s) (hb : Below w.heap.size w w') : BstAt b w0 ao m c w' s :=
  ⟨owns_keep h.own (fun g _ hg => hb.block g hg), h.len, h.str, h.le⟩

structure StrS (b : List UInt8) (w0 : World) (p : Nat) (T1 T2 : Value) (ts : List GT) (w : World) : Prop where
  box : w.heap[p]? = some (.cells #[T1, T2] 49 (0, 0))
  t1 : TokV w T1 (sgl b b.length)
  t2 : TokV w T2 ts
  tsi : TsI b b.length ts
  b : Below w0.heap.size w0 w
theorem StrS.below {b : List UInt8} {w0 : World} {p : Nat} {T1 T2 : Value} {ts : List GT} {w w' : World} (h : StrS b w0 p T1 T2 ts w) (hb : Below w.heap.size w w') : StrS b w0 p T1 T2 ts w' :=
  ⟨(hb.block p (lt_of_heap h.box)).trans h.box, h.t1.below hb, h.t2.below hb, h.tsi, h.b.trans (hb.mono h.b.size)⟩

/-- What is known ahead of round k, and behind its first half (h = 1). -/
structure StrI (b : List UInt8) (w0 : World) (p k h : Nat) (ao : Option Addr) (m c : Nat) (w : World) (T1 T2 : Value) (ts : List GT) (s : List UInt8) : Prop where
  st : StrS b w0 p T1 T2 ts w
  best : BstAt b w0 ao m c w s
  fx : 3 ≤ 2 * k + h → s.length ≤ (pack (fixedBits (ts.map toTok))).length
  dy : 1 ≤ k → ∃ bits, DynW (sgl b b.length) bits ∧ s.length ≤ (pack bits).length
theorem StrI.below {b : List UInt8} {w0 : World} {p k h : Nat} {ao : Option Addr} {m c : Nat} {w w' : World} {T1 T2 : Value} {ts : List GT} {s : List UInt8} (hI : StrI b w0 p k h ao m c w T1 T2 ts s) (hb : Below w.heap.size w w') : StrI b w0 p k h ao m c w' T1 T2 ts s :=
  ⟨hI.st.below hb, hI.best.below hb, hI.fx, hI.dy⟩

/-- Which tokens round k takes. -/
def Sel (k : Nat) (T T1 T2 : Value) : Prop := (k = 0 ∧ T = T1) ∨ (k = 1 ∧ T = T2)
theorem StrI.tok {b : List UInt8} {w0 : World} {p k h : Nat} {ao : Option Addr} {m c : Nat} {w : World} {T T1 T2 : Value} {ts : List GT} {s : List UInt8} (hI : StrI b w0 p k h ao m c w T1 T2 ts s) (hs : Sel k T T1 T2) :
    ∃ us, TokV w T us ∧ TsR b us ∧ ((k = 0 ∧ us = sgl b b.length) ∨ (k = 1 ∧ us = ts)) := by
  rcases hs with ⟨h1, h2⟩ | ⟨h1, h2⟩
  · exact ⟨_, by rw [h2]; exact hI.st.t1, sgl_str b, Or.inl ⟨h1, rfl⟩⟩
  · exact ⟨_, by rw [h2]; exact hI.st.t2, hI.st.tsi.r, Or.inr ⟨h1, rfl⟩⟩

theorem pick_best {b : List UInt8} {w0 w : World} {ao fo : Option Addr} {m c fm fc : Nat} {s f : List UInt8} (h : BstAt b w0 ao m c w s) (hf : w.ownsRow w0.heap.size 5 1 (.slice fo fm fc) f.length (bv8 f)) (hl : fm = f.length) (hs : StrOf b f) :
    ∃ ro rm rc r, (if fm < m then Value.slice fo fm fc else .slice ao m c) = .slice ro rm rc ∧ BstAt b w0 ro rm rc w r ∧ r.length ≤ s.length ∧ r.length ≤ f.length := by
  have h1 := h.len
  have h2 := h.le
  by_cases q : fm < m
  · exact ⟨fo, fm, fc, f, if_pos q, ⟨hf, hl, hs, by omega⟩, by omega, Nat.le_refl _⟩
  · exact ⟨ao, m, c, s, if_neg q, h, Nat.le_refl _, by omega⟩

theorem dstream_any (g o bc lev : Nat) (b : List UInt8) (w : World) (hL : Lies w g o b) (hg : g < w.heap.size) (hb : b.length ≤ 30000) (hlev : lev ≤ 9) (hO : OrdAt w) :
    Calls Tryd.prog 13 #[.slice (some ⟨g, o, none⟩) b.length bc, .int .i64 (lev : Int)] w fun e w' => ∃ v, e = .returned (.tuple #[v, .int .i64 0]) ∧ ∃ s, StrOk b lev s ∧ w'.ownsRow w.heap.size 5 1 v s.length (bv8 s) ∧ Below w.heap.size w w' := by
  have h0 : 0 < w.heap.size := by omega
  refine stream_walk _ _ _ _ w hb hlev
    (fun ao m c w1 => ∃ s, BstAt b w ao m c w1 s ∧ Below w.heap.size w w1)
    (fun ao m c t1 n1 c1 w2 => ∃ s, BstAt b w ao m c w2 s ∧ Below w.heap.size w w2 ∧ TokV w2 (.slice t1 n1 c1) (sgl b b.length))
    (fun ao m c t1 n1 c1 t2 n2 c2 w3 => ∃ s ts, BstAt b w ao m c w3 s ∧ Below w.heap.size w w3 ∧ TokV w3 (.slice t1 n1 c1) (sgl b b.length) ∧ TokV w3 (.slice t2 n2 c2) ts ∧ TsI b b.length ts)
    (fun p k ao m c w4 => ∃ T1 T2 ts s, StrI b w p k 0 ao m c w4 T1 T2 ts s)
    (fun p k ao m c ta tn tc w4 => ∃ T1 T2 ts s, StrI b w p k 0 ao m c w4 T1 T2 ts s ∧ Sel k (.slice ta tn tc) T1 T2)
    (fun p k ao m c ta tn tc w4 => ∃ T1 T2 ts s, StrI b w p k 1 ao m c w4 T1 T2 ts s ∧ Sel k (.slice ta tn tc) T1 T2)
    (fun p k ao m c ta tn tc fo fm fc w5 => ∃ T1 T2 ts s f, StrI b w p k 0 ao m c w5 T1 T2 ts s ∧ Sel k (.slice ta tn tc) T1 T2 ∧ w5.ownsRow w.heap.size 5 1 (.slice fo fm fc) f.length (bv8 f) ∧ fm = f.length ∧ StrOf b f ∧ (k = 1 → f = pack (fixedBits (ts.map toTok))))
    (fun p k ao m c ta tn tc fo fm fc w5 => ∃ T1 T2 ts s f, StrI b w p k 1 ao m c w5 T1 T2 ts s ∧ Sel k (.slice ta tn tc) T1 T2 ∧ w5.ownsRow w.heap.size 5 1 (.slice fo fm fc) f.length (bv8 f) ∧ fm = f.length ∧ StrOf b f ∧ (k = 0 → ∃ bits, DynW (sgl b b.length) bits ∧ f = pack bits))
    (fun v w' => ∃ s, StrOk b lev s ∧ w'.ownsRow w.heap.size 5 1 v s.length (bv8 s) ∧ Below w.heap.size w w')
    ?_ ?_ ?_ ?_ ?_ ?_ ?_ ?_ ?_ ?_ ?_
  · refine (stored_put g o bc b w hL hg hb).mono ?_
    rintro e w1 ⟨ov, rfl, ho, hb1⟩
    obtain ⟨ao, c, rfl⟩ := owns_slice ho
    have hl : (headOf true b.length ++ b).length = b.length + 5 := by rw [List.length_append, head_length]; omega
    exact ⟨ao, _, c, rfl, _, ⟨by rw [hl]; exact owns_low ho (by omega), hl.symm, str_stored b hb, by omega⟩, hb1⟩
  · rintro ao m c w1 ⟨s, hs, hb1⟩ hz
    exact ⟨s, ⟨hs.le, hs.str, by omega, by omega⟩, hs.own, hb1⟩
  · rintro ao m c w1 hp ⟨s, hs, hb1⟩
    refine (singles_any g o bc b w1 (fun i hi => (hb1.cell (p := ⟨g, o + i, none⟩) hg).trans (hL i hi)) (Nat.lt_of_lt_of_le hg hb1.size) hb).mono ?_
    rintro e w2 ⟨v, rfl, ho, hb2⟩
    have hv := TokV.of_owns ho (sgl_length _ _)
    obtain ⟨ta, tn, tc, rfl⟩ := hv.slice
    exact ⟨ta, tn, tc, rfl, s, hs.below hb2, hb1.trans (hb2.mono hb1.size), hv⟩
  · rintro ao m c t1 n1 c1 w2 hp ⟨s, hs, hb2, hv1⟩
    refine (repeats_any g o bc lev b w2 (fun i hi => (hb2.cell (p := ⟨g, o + i, none⟩) hg).trans (hL i hi)) (Nat.lt_of_lt_of_le hg hb2.size) hb hlev).mono ?_
    rintro e w3 ⟨v, ts, rfl, ho, hts, hb3⟩
    have hv := TokV.of_owns ho rfl
    obtain ⟨ta, tn, tc, rfl⟩ := hv.slice
    exact ⟨ta, tn, tc, rfl, s, ts, hs.below hb3, hb2.trans (hb3.mono hb2.size), hv1.below hb3, hv, hts⟩
  · rintro ao m c t1 n1 c1 t2 n2 c2 w3 W ⟨s, ts, hs, hb3, hv1, hv2, hts⟩ hW
    have hbW : Below w3.heap.size w3 W := by rw [hW]; exact (Fr.refl Non w3).alloc _ |>.below (Nat.le_refl _) (fun k hk => hk.elim)
    exact ⟨_, _, ts, s, ⟨by rw [hW]; exact heap_alloc_new _ _, hv1.below hbW, hv2.below hbW, hts, hb3.trans (hbW.mono hb3.size)⟩, hs.below hbW, by omega, by omega⟩
  · rintro p k ao m c w4 hk ⟨T1, T2, ts, s, hI⟩
    rcases (show k = 0 ∨ k = 1 by omega) with rfl | rfl
    · obtain ⟨ta, tn, tc, e⟩ := hI.st.t1.slice
      exact ⟨ta, tn, tc, by rw [← e]; exact cell_of_heap hI.st.box 0, T1, T2, ts, s, hI, Or.inl ⟨rfl, e.symm⟩⟩
    · obtain ⟨ta, tn, tc, e⟩ := hI.st.t2.slice
      exact ⟨ta, tn, tc, by rw [← e]; exact cell_of_heap hI.st.box 1, T1, T2, ts, s, hI, Or.inr ⟨rfl, e.symm⟩⟩
  · rintro p k ao m c ta tn tc w4 hk ⟨T1, T2, ts, s, hI, hsel⟩
    obtain ⟨us, hv, hr, hu⟩ := hI.tok hsel
    have hc := hr.cnt
    refine (hv.fixed (by omega) hr.ok).mono ?_
    rintro e w5 ⟨ov, rfl, ho, hb5⟩
    obtain ⟨fo, fc, rfl⟩ := owns_slice ho
    refine ⟨fo, _, fc, rfl, T1, T2, ts, s, _, hI.below hb5, hsel, owns_low ho (by have := hI.st.b.size; omega), rfl, str_fixed hr, fun h1 => ?_⟩
    rcases hu with ⟨h2, _⟩ | ⟨_, h2⟩
    · omega
    · rw [h2]
  · rintro p k ao m c ta tn tc fo fm fc w5 hk ⟨T1, T2, ts, s, f, hI, hsel, ho, hl, hst, hf⟩
    refine (shorter_any _ _ ao fo m fm c fc rfl rfl w5).mono ?_
    rintro e w6 ⟨rfl, rfl⟩
    obtain ⟨ro, rm, rc, r, e, hb', l1, l2⟩ := pick_best hI.best ho hl hst
    rw [e]
    refine ⟨ro, rm, rc, rfl, T1, T2, ts, r, ⟨hI.st, hb', fun h1 => ?_, fun h1 => ?_⟩, hsel⟩
    · have : k = 1 := by omega
      rw [← hf this]; exact l2
    · obtain ⟨bits, q1, q2⟩ := hI.dy h1
      exact ⟨bits, q1, by omega⟩
  · rintro p k ao m c ta tn tc w4 hk ⟨T1, T2, ts, s, hI, hsel⟩
    obtain ⟨us, hv, hr, hu⟩ := hI.tok hsel
    have hc := hr.cnt
    refine (hv.dynamic (by omega) hr.ok (hO.below hI.st.b h0) (by have := hI.st.b.size; omega)).mono ?_
    rintro e w5 ⟨ov, rfl, bits, hW, h2, ho, hb5⟩
    obtain ⟨fo, fc, rfl⟩ := owns_slice ho
    refine ⟨fo, _, fc, rfl, T1, T2, ts, s, _, hI.below hb5, hsel, owns_low ho (by have := hI.st.b.size; omega), rfl, str_dyn hr hW h2, fun h1 => ?_⟩
    rcases hu with ⟨_, h3⟩ | ⟨h3, _⟩
    · rw [h3] at hW; exact ⟨bits, hW, rfl⟩
    · omega
  · rintro p k ao m c ta tn tc fo fm fc w5 hk ⟨T1, T2, ts, s, f, hI, hsel, ho, hl, hst, hf⟩
    refine (shorter_any _ _ ao fo m fm c fc rfl rfl w5).mono ?_
    rintro e w6 ⟨rfl, rfl⟩
    obtain ⟨ro, rm, rc, r, e, hb', l1, l2⟩ := pick_best hI.best ho hl hst
    rw [e]
    refine ⟨ro, rm, rc, rfl, T1, T2, ts, r, ⟨hI.st, hb', fun h1 => ?_, fun h1 => ?_⟩⟩
    · have := hI.fx (by omega)
      omega
    · rcases Nat.eq_zero_or_pos k with h3 | h3
      · obtain ⟨bits, q1, q2⟩ := hf h3
        exact ⟨bits, q1, by rw [← q2]; exact l2⟩
      · obtain ⟨bits, q1, q2⟩ := hI.dy h3
        exact ⟨bits, q1, by omega⟩
  · rintro p ao m c w4 hp ⟨T1, T2, ts, s, hI⟩
    exact ⟨s, ⟨hI.best.le, hI.best.str, fun _ => ⟨ts, hI.st.tsi, hI.fx (by omega)⟩, fun _ => hI.dy (by omega)⟩, hI.best.own, hI.st.b⟩

/-- spool.Deflate. -/
theorem deflate_any (g o bc lev : Nat) (b : List UInt8) (w : World) (hL : Lies w g o b) (hg : g < w.heap.size) (hb : b.length ≤ 30000) (hlev : lev ≤ 9) (hO : OrdAt w) :
    Calls Tryd.prog 11 #[.slice (some ⟨g, o, none⟩) b.length bc, .int .i64 (lev : Int)] w fun e w' => ∃ v, e = .returned (.tuple #[v, .int .i64 0]) ∧ ∃ s, StrOk b lev s ∧ w'.ownsRow w.heap.size 5 1 v s.length (bv8 s) ∧ Below w.heap.size w w' :=
  deflate_walk _ _ w _ (dstream_any g o bc lev b w hL hg hb hlev hO)
end Go.Proofs.YtdpobjgfnhjagaaDoor

namespace Go.Proofs.YtdpobjgfnhjagaaDoor
open Go.RowKit

/-- A reader's place: how many bytes it has taken, what it holds of the last one, how many bits of that are left. -/
structure Spot where
  p : Nat
  held : Int
  left : Nat

/-- The next bit, and the place behind it. -/
def bitOf (I : List UInt8) (s : Spot) : Option (Int × Spot) :=
  match s.left with
  | 0 => if s.p < I.length then some (((I.getD s.p 0).toNat : Int) % 2, ⟨s.p + 1, ((I.getD s.p 0).toNat : Int) / 2, 7⟩) else none
  | k + 1 => if 0 ≤ s.held ∧ s.held < 256 ∧ k < 8 then some (s.held % 2, ⟨s.p, s.held / 2, k⟩) else none

theorem bitOf_01 {I : List UInt8} {s s' : Spot} {v : Int} (h : bitOf I s = some (v, s')) : v = 0 ∨ v = 1 := by
  unfold bitOf at h
  split at h
  · split at h
    · simp at h; omega
    · cases h
  · split at h
    · simp at h; omega
    · cases h

theorem bit_step (B b o c : Nat) (I : List UInt8) (s s' : Spot) (v lim : Int) (ov fx : Value) (w : World)
    (h : w.heap[B]? = some (RB (.slice (some ⟨b, o, none⟩) I.length c) s.p s.held s.left ov lim fx)) (hl : I.length ≤ maxLen) (hb : b ≠ B) (hI : Lies w b o I) (hs : bitOf I s = some (v, s')) :
    Calls Tryd.prog 22 #[.pointer (some ⟨B, 0, none⟩)] w fun r w' => r = .returned (.int .i64 v) ∧
      w'.heap[B]? = some (RB (.slice (some ⟨b, o, none⟩) I.length c) s'.p s'.held s'.left ov lim fx) ∧ Fr (One B) w w' := by
  obtain ⟨p, held, left⟩ := s
  cases left with
  | zero =>
    simp only [bitOf] at hs
    split at hs
    · rename_i hp
      simp only [Option.some.injEq, Prod.mk.injEq] at hs
      obtain ⟨rfl, rfl⟩ := hs
      exact bit_fresh B b o I.length c p held lim _ ov fx w h hp hl hb (hI p hp) (u8_lt _).1 (u8_lt _).2
    · cases hs
  | succ k =>
    simp only [bitOf] at hs
    split at hs
    · rename_i hp
      simp only [Option.some.injEq, Prod.mk.injEq] at hs
      obtain ⟨rfl, rfl⟩ := hs
      exact bit_more B k p held lim _ ov fx w h hp.1 hp.2.1 hp.2.2
    · cases hs

/-- Reading a symbol: its place among the sorted ones. -/
def rdS (I : List UInt8) (cs : List Int) (lg : Int) (t : Nat) : Nat → Nat → Int → Int → Int → Spot → Option (Nat × Spot)
  | 0, _, _, _, _, _ => none
  | fuel + 1, n, word, first, ahead, s =>
    match bitOf I s with
    | none => none
    | some (v, s') =>
      if n < 16 ∧ 0 ≤ word ∧ word ≤ 65536 ∧ 0 ≤ first ∧ first ≤ 65536 ∧ 0 ≤ ahead ∧ ahead ≤ 1000 ∧ 0 ≤ cs.getD n 0 ∧ cs.getD n 0 ≤ 1000 then
        if 2 * word + v < first + cs.getD n 0 then
          if 0 ≤ ahead + (2 * word + v) - first ∧ ahead + (2 * word + v) - first < t then some ((ahead + (2 * word + v) - first).toNat, s') else none
        else if lg ≤ n then none
        else rdS I cs lg t fuel (n + 1) (2 * word + v) (2 * (first + cs.getD n 0)) (ahead + cs.getD n 0) s'
      else none

set_option maxHeartbeats 2000000 in
theorem read_any (B b o c cl g t : Nat) (I : List UInt8) (cs S : List Int) (lg lim : Int) (fuel i : Nat) (s s' : Spot) (ov fx : Value) (w : World)
    (h : w.heap[B]? = some (RB (.slice (some ⟨b, o, none⟩) I.length c) s.p s.held s.left ov lim fx)) (hl : I.length ≤ maxLen) (hb : b ≠ B) (hI : Lies w b o I)
    (hc : w.heap[cl]? = some (CB cs (.slice (some ⟨g, 0, none⟩) t t) lg)) (h16 : cs.length = 16) (hS : w.heap[g]? = some (.cells (ints S) 3 (0, 0))) (ht : S.length = t) (ht2 : t ≤ 288) (hcB : cl ≠ B) (hgB : g ≠ B)
    (hr : rdS I cs lg t fuel 1 0 0 0 s = some (i, s')) :
    Calls Tryd.prog 83 #[.pointer (some ⟨cl, 0, none⟩), .func (Fn.func 22) #[.pointer (some ⟨B, 0, none⟩)] #[]] w fun r w' => r = .returned (.tuple #[.int .i64 (S.getD i 0), .bool true]) ∧
      w'.heap[B]? = some (RB (.slice (some ⟨b, o, none⟩) I.length c) s'.p s'.held s'.left ov lim fx) ∧ Fr (One B) w w' := by
  have H : Hid _ := h; clear h
  have HC : Hid (w.heap[cl]? = some (CB cs (.slice (some ⟨g, 0, none⟩) t t) lg)) := hc; clear hc
  have HS : Hid (w.heap[g]? = some (.cells (ints S) 3 (0, 0))) := hS; clear hS
  have HT : Hid (S.length = t) := ht; clear ht
  have H16 : Hid (cs.length = 16) := h16; clear h16
  have HR : Hid (rdS I cs lg t fuel 1 0 0 0 s = some (i, s')) := hr; clear hr
  go_enter Tryd.func83, Tryd.ntmps83
  go_wp2_with fail
  go_loopw [6, 7, 8, 9] (fun wd fi ah nn wr => ∃ (fu n : Nat) (word first ahead : Int) (q : Spot), wd = .int .i64 word ∧ fi = .int .i64 first ∧ ah = .int .i64 ahead ∧ nn = .int .i64 n ∧ n ≤ 16 ∧ Hid (rdS I cs lg t fu n word first ahead q = some (i, s')) ∧ wr.heap[B]? = some (RB (.slice (some ⟨b, o, none⟩) I.length c) q.p q.held q.left ov lim fx) ∧ Fr (One B) w wr) (fun _ _ _ nn _ => 17 - (intOf nn).toNat)
  case atStart => exact ⟨fuel, 1, 0, 0, 0, s, rfl, rfl, rfl, rfl, by omega, HR.out, H.out, Fr.refl _ _⟩
  case round =>
    obtain ⟨fu, n, word, first, ahead, q, rfl, rfl, rfl, rfl, hn, hr, hh, hfr⟩ := hrel
    have hr1 := hr.out
    cases fu with
    | zero => simp [rdS] at hr1
    | succ fu =>
      simp only [rdS] at hr1
      cases hbit : bitOf I q with
      | none => simp [hbit] at hr1
      | some vs =>
        obtain ⟨v, q'⟩ := vs
        simp only [hbit] at hr1
        have hv := bitOf_01 hbit
        have HBIT : Hid (bitOf I q = some (v, q')) := hbit; clear hbit
        split at hr1
        · rename_i hbd
          obtain ⟨n16, w0, w1, f0, f1, a0, a1, cn0, cn1⟩ := hbd
          have hIr : Lies wr b o I := hI.keep hfr hb
          have HH : Hid _ := hh; clear hh
          obtain ⟨cv, hcv⟩ : ∃ cv, Hid (cs.getD n 0 = cv) := ⟨_, rfl⟩
          rw [hcv.out] at hr1 cn0 cn1
          have HR1 : Hid _ := hr1; clear hr1
          go_wp2_with fail
          refine (bit_step B b o c I q q' v lim ov fx wr HH.out hl hb hIr HBIT.out).mono ?_
          rintro e w1 ⟨rfl, k1, f1'⟩
          have hf2 := hfr.trans f1'
          have hc1 : w1.heap[cl]? = some (CB cs (.slice (some ⟨g, 0, none⟩) t t) lg) := (hf2.block cl (lt_of_heap HC.out) hcB).trans HC.out
          have hS1 : w1.heap[g]? = some (.cells (ints S) 3 (0, 0)) := (hf2.block g (lt_of_heap HS.out) hgB).trans HS.out
          obtain ⟨e1, e2, e3, e4⟩ := code_cell hc1 H16.out
          have hcn := e1 n n16
          rw [hcv.out] at hcn
          have K1 : Hid _ := k1; clear k1 e1 hc1
          have hr2 := HR1.out
          split at hr2
          · rename_i hlt
            split at hr2
            · rename_i hidx
              simp only [Option.some.injEq, Prod.mk.injEq] at hr2
              obtain ⟨hi, hs'⟩ := hr2
              obtain ⟨ix, hix⟩ := Int.eq_ofNat_of_zero_le hidx.1
              have hit : ix < t := by omega
              have hsc := cell_ints hS1 ix (by rw [HT.out]; exact hit)
              have HS1 : Hid _ := hS1; clear hS1
              have HIX : Hid (ahead + (2 * word + v) - first = (ix : Int)) := hix
              go_wp2_with fail
              go_ret2
              have hii : i = ix := by have := HIX.out; omega
              subst hii
              subst hs'
              exact ⟨rfl, K1.out, hf2⟩
            · cases hr2
          · rename_i hlt
            split at hr2
            · cases hr2
            · rename_i hlg
              have HR2 : Hid _ := hr2; clear hr2
              clear hS1
              go_wp2_with fail
              go_roundw
              case rel => exact ⟨fu, n + 1, 2 * word + v, 2 * (first + cv), ahead + cv, q', rfl, rfl, rfl, by go_num, by omega, HR2.out, K1.out, hf2⟩
              case measure => simp [intOf]; omega
        · cases hr1

set_option maxHeartbeats 1000000 in
theorem symbol_any (B b o c cl g t : Nat) (I : List UInt8) (cs S : List Int) (lg lim : Int) (fuel i : Nat) (s s' : Spot) (ov fx : Value) (w : World)
    (h : w.heap[B]? = some (RB (.slice (some ⟨b, o, none⟩) I.length c) s.p s.held s.left ov lim fx)) (hl : I.length ≤ maxLen) (hb : b ≠ B) (hI : Lies w b o I)
    (hc : w.heap[cl]? = some (CB cs (.slice (some ⟨g, 0, none⟩) t t) lg)) (h16 : cs.length = 16) (hS : w.heap[g]? = some (.cells (ints S) 3 (0, 0))) (ht : S.length = t) (ht2 : t ≤ 288) (hcB : cl ≠ B) (hgB : g ≠ B)
    (hr : rdS I cs lg t fuel 1 0 0 0 s = some (i, s')) :
    Calls Tryd.prog 72 #[.pointer (some ⟨B, 0, none⟩), .pointer (some ⟨cl, 0, none⟩)] w fun r w' => r = .returned (.int .i64 (S.getD i 0)) ∧
      w'.heap[B]? = some (RB (.slice (some ⟨b, o, none⟩) I.length c) s'.p s'.held s'.left ov lim fx) ∧ Fr (One B) w w' := by
  have hmf : ∀ (fn : Fn) (first cap : Array Value) (w : World), (Instr.makeFunc fn first cap).run Tryd.prog w = .ok (.func fn first cap) w := fun _ _ _ _ => rfl
  have HR := read_any B b o c cl g t I cs S lg lim fuel i s s' ov fx w h hl hb hI hc h16 hS ht ht2 hcB hgB hr
  generalize S.getD i 0 = sym at HR ⊢
  have HH : Hid _ := HR; clear HR h hc h16 hS ht hr
  go_enter Tryd.func72, Tryd.ntmps72
  go_wp2_with fail
  refine Calls.mono HH.out ?_
  rintro e w1 ⟨rfl, k1, f1⟩
  have K1 : Hid _ := k1; clear k1
  go_wp2_with fail
  go_ret
  exact ⟨rfl, K1.out, f1⟩

end Go.Proofs.YtdpobjgfnhjagaaDoor

namespace Go.Proofs.YtdpobjgfnhjagaaDoor
open Go.RowKit

/-- The fixed literal codes. -/
def litC : List Int := [0, 0, 0, 0, 0, 0, 0, 24, 152, 112, 0, 0, 0, 0, 0, 0]
def litN : List Int := [0, 0, 0, 0, 0, 0, 0, 0, 24, 176, 288, 288, 288, 288, 288, 288]
def litS : List Int := (run2 lits 0 (litN, List.replicate 288 0)).2
theorem lit_run1 : run1 lits (List.replicate 16 0, 0) = (litC, 9) := by decide +kernel
theorem lit_ok1 : ok1 lits (List.replicate 16 0, 0) = true := by decide +kernel
theorem lit_run0 : run0 litC 0 (List.replicate 16 0, 0) = (litN, ((288 : Nat) : Int)) := by decide +kernel
theorem lit_ok0 : ok0 litC 0 = true := by decide +kernel
theorem lit_ok2 : ok2 lits 0 288 (litN, List.replicate 288 0) = true := by decide +kernel
theorem litS_length : litS.length = 288 := by decide +kernel
theorem litS_121 : litS.getD 121 0 = 97 := by decide +kernel
theorem litS_0 : litS.getD 0 0 = 256 := by decide +kernel

def distC : List Int := [0, 0, 0, 0, 0, 32, 0, 0, 0, 0, 0, 0, 0, 0, 0, 0]
def distN : List Int := [0, 0, 0, 0, 0, 0, 32, 32, 32, 32, 32, 32, 32, 32, 32, 32]
theorem dist_run1 : run1 dists (List.replicate 16 0, 0) = (distC, 5) := by decide +kernel
theorem dist_ok1 : ok1 dists (List.replicate 16 0, 0) = true := by decide +kernel
theorem dist_run0 : run0 distC 0 (List.replicate 16 0, 0) = (distN, ((32 : Nat) : Int)) := by decide +kernel
theorem dist_ok0 : ok0 distC 0 = true := by decide +kernel
theorem dist_ok2 : ok2 dists 0 32 (distN, List.replicate 32 0) = true := by decide +kernel

def I3 : List UInt8 := [75, 4, 0]
theorem read1 : (rdS I3 litC 9 288 20 1 0 0 0 ⟨1, 9, 5⟩).map (fun x => (x.1, x.2.p, x.2.held, x.2.left)) = some (121, 2, 0, 5) := by decide +kernel
theorem read2 : (rdS I3 litC 9 288 20 1 0 0 0 ⟨2, 0, 5⟩).map (fun x => (x.1, x.2.p, x.2.held, x.2.left)) = some (0, 3, 0, 6) := by decide +kernel

theorem read1' : rdS I3 litC 9 288 20 1 0 0 0 ⟨1, 9, 5⟩ = some (121, ⟨2, 0, 5⟩) := by
  have := read1
  cases h : rdS I3 litC 9 288 20 1 0 0 0 ⟨1, 9, 5⟩ with
  | none => rw [h] at this; cases this
  | some x =>
    rw [h] at this
    obtain ⟨i, p, hd, l⟩ := x
    simp at this
    obtain ⟨rfl, rfl, rfl, rfl⟩ := this
    rfl
theorem read2' : rdS I3 litC 9 288 20 1 0 0 0 ⟨2, 0, 5⟩ = some (0, ⟨3, 0, 6⟩) := by
  have := read2
  cases h : rdS I3 litC 9 288 20 1 0 0 0 ⟨2, 0, 5⟩ with
  | none => rw [h] at this; cases this
  | some x =>
    rw [h] at this
    obtain ⟨i, p, hd, l⟩ := x
    simp at this
    obtain ⟨rfl, rfl, rfl, rfl⟩ := this
    rfl

/-- The fixed codes lie in memory. -/
def Coded (w : World) (cl : Nat) : Prop := w.heap[cl]? = some (CB litC (.slice (some ⟨cl + 3, 0, none⟩) 288 288) 9) ∧ w.heap[cl + 3]? = some (.cells (ints litS) 3 (0, 0))

theorem Coded.keep {w w' : World} {cl : Nat} {S : Nat → Prop} (h : Coded w cl) (f : Fr S w w') (h1 : ¬ S cl) (h2 : ¬ S (cl + 3)) : Coded w' cl :=
  ⟨(f.block cl (lt_of_heap h.1) h1).trans h.1, (f.block (cl + 3) (lt_of_heap h.2) h2).trans h.2⟩

theorem pairs_cells {w : World} {pb : Nat} {u v : Value} (h : w.heap[pb]? = some (.cells #[u, v] 106 (0, 0))) : w.cell? ⟨pb, 0, none⟩ = some u ∧ w.cell? ⟨pb, 1, none⟩ = some v :=
  ⟨cell_of_heap h 0, cell_of_heap h 1⟩

set_option maxHeartbeats 1000000 in
theorem symbols_a (B b o c cl cd pb : Nat) (lim : Int) (fx : Value) (w : World)
    (h : w.heap[B]? = some (RB (.slice (some ⟨b, o, none⟩) 3 c) 1 9 5 (.slice none 0 0) lim fx)) (hb : b < B) (hI : Lies w b o I3)
    (hp : w.heap[pb]? = some (.cells #[.pointer (some ⟨cl, 0, none⟩), .pointer (some ⟨cd, 0, none⟩)] 106 (0, 0))) (hC : Coded w cl) (hcl : B < cl) (hpb : B < pb) (hlim : 1 ≤ lim) (hlim2 : lim ≤ 60000) :
    Calls Tryd.prog 44 #[.pointer (some ⟨B, 0, none⟩), .pointer (some ⟨pb, 0, none⟩)] w fun r w' => r = .returned (.tuple #[]) ∧
      (∃ ov, w'.heap[B]? = some (RB (.slice (some ⟨b, o, none⟩) 3 c) 3 0 6 ov lim fx) ∧ w'.ownsRow (B + 1) 5 1 ov 1 (bv8 [97])) ∧ Fr (fun k => B ≤ k) w w' := by
  have HH : Hid _ := h; clear h
  have HP : Hid _ := hp; clear hp
  go_enter Tryd.func44, Tryd.ntmps44
  go_wp2_with fail
  go_loopw [4] (fun _ wr => Lies wr b o I3 ∧ Coded wr cl ∧ wr.heap[pb]? = some (.cells #[.pointer (some ⟨cl, 0, none⟩), .pointer (some ⟨cd, 0, none⟩)] 106 (0, 0)) ∧ Fr (fun k => B ≤ k) w wr ∧
    ((wr.heap[B]? = some (RB (.slice (some ⟨b, o, none⟩) 3 c) 1 9 5 (.slice none 0 0) lim fx)) ∨ (∃ ov, wr.heap[B]? = some (RB (.slice (some ⟨b, o, none⟩) 3 c) 2 0 5 ov lim fx) ∧ wr.ownsRow (B + 1) 5 1 ov 1 (bv8 [97])))) (fun _ wr => 3 - posOf B wr)
  case atStart => exact ⟨hI, hC, HP.out, Fr.refl _ _, Or.inl HH.out⟩
  case round =>
    obtain ⟨hIr, hCr, hpr, hfr, hcase⟩ := hrel
    obtain ⟨p0, p1⟩ := pairs_cells hpr
    have HPR : Hid _ := hpr; clear hpr
    rcases hcase with hh | ⟨ov, hh, hw⟩
    · have HR : Hid _ := hh; clear hh
      have hpos : posOf B wr = 1 := posOf_rb (p := 1) HR.out
      have HPO : Hid (posOf B wr = 1) := hpos; clear hpos
      go_wp2_with fail
      refine (symbol_any B b o c cl (cl + 3) 288 I3 litC litS 9 lim 20 121 ⟨1, 9, 5⟩ ⟨2, 0, 5⟩ (.slice none 0 0) fx wr HR.out (by decide) (by omega) hIr hCr.1 rfl hCr.2 litS_length (by omega) (by omega) (by omega) read1').mono ?_
      rintro e w1 ⟨rfl, k1, f1⟩
      rw [litS_121]
      have K1 : Hid _ := k1; clear k1
      go_wp2_with fail
      refine (put_ok B _ _ _ lim 97 0 _ (.slice none 0 0) fx [] w1 K1.out ⟨rfl, Or.inl ⟨rfl, rfl⟩⟩ (by omega) hlim2).mono ?_
      rintro e w2 ⟨rfl, ov, k2, o2, f2⟩
      have f2' : Fr (One B) w1 w2 := f2.mono fun k _ hk => by
        rcases hk with hk | hk
        · exact hk
        · cases hk
      have K2 : Hid _ := k2; clear k2
      go_wp2_with fail
      go_roundw
      case rel =>
        have ff := f1.trans f2'
        refine ⟨hIr.keep ff (by simp [One]; omega), hCr.keep ff (by simp [One]; omega) (by simp [One]; omega), ?_, hfr.trans (One.up ff), Or.inr ⟨ov, K2.out, by simpa [bv8] using o2⟩⟩
        exact (ff.block pb (lt_of_heap HPR.out) (by simp [One]; omega)).trans HPR.out
      case measure =>
        have := posOf_rb (p := 2) K2.out
        rw [HPO.out, this]
        omega
    · have HR : Hid _ := hh; clear hh
      go_wp2_with fail
      refine (symbol_any B b o c cl (cl + 3) 288 I3 litC litS 9 lim 20 0 ⟨2, 0, 5⟩ ⟨3, 0, 6⟩ ov fx wr HR.out (by decide) (by omega) hIr hCr.1 rfl hCr.2 litS_length (by omega) (by omega) (by omega) read2').mono ?_
      rintro e w1 ⟨rfl, k1, f1⟩
      rw [litS_0]
      have K1 : Hid _ := k1; clear k1
      go_wp2_with fail
      refine bodyPost_ret (results_none rfl _ _ _) rfl ?_
      exact ⟨rfl, ⟨ov, K1.out, own_one hw f1⟩, hfr.trans (One.up f1)⟩

set_option maxHeartbeats 1000000 in
theorem fixedPair_new (B : Nat) (bv ov : Value) (p held left lim : Int) (w : World)
    (h : w.heap[B]? = some (RB bv p held left ov lim (.pointer none))) :
    Calls Tryd.prog 42 #[.pointer (some ⟨B, 0, none⟩)] w fun r w' => ∃ cl cd pb, r = .returned (.pointer (some ⟨pb, 0, none⟩)) ∧ Coded w' cl ∧ w.heap.size ≤ cl ∧ w.heap.size ≤ pb ∧
      w'.heap[pb]? = some (.cells #[.pointer (some ⟨cl, 0, none⟩), .pointer (some ⟨cd, 0, none⟩)] 106 (0, 0)) ∧ w'.heap[B]? = some (RB bv p held left ov lim (.pointer (some ⟨pb, 0, none⟩))) ∧ Fr (One B) w w' := by
  obtain ⟨c0, c1, c2, c3, c4, c5, c6, hf⟩ := rb_cells h
  have hB := lt_of_heap h
  have HH : Hid _ := h; clear h
  go_enter Tryd.func42, Tryd.ntmps42
  go_wp2_with fail
  refine (fixedLiterals_any w).mono ?_
  rintro e w1 ⟨rfl, k1, b1⟩
  have s1 := lt_of_heap k1
  have K1 : Hid _ := k1; clear k1
  go_wp2_with fail
  refine (make_any w.heap.size 0 288 288 288 lits 0 0 0 0 0 0 0 24 152 112 0 0 0 0 0 0 9 litC litN litS w1 rfl lits_length (by omega) (IntsAt.of_heap K1.out) lit_run1 lit_ok1 lit_run0 lit_ok0 (by omega) rfl lit_ok2).mono ?_
  rintro e w2 ⟨rfl, k2, k2', b2⟩
  have s2 := lt_of_heap k2'
  have K2 : Coded w2 w1.heap.size := ⟨k2, k2'⟩
  clear k2 k2'
  go_wp2_with fail
  refine (fixedDistances_any w2).mono ?_
  rintro e w3 ⟨rfl, k3, b3⟩
  have s3 := lt_of_heap k3
  have K3 : Hid _ := k3; clear k3
  go_wp2_with fail
  refine (make_any w2.heap.size 0 32 32 32 dists 0 0 0 0 0 32 0 0 0 0 0 0 0 0 0 0 5 distC distN _ w3 rfl dists_length (by omega) (IntsAt.of_heap K3.out) dist_run1 dist_ok1 dist_run0 dist_ok0 (by omega) rfl dist_ok2).mono ?_
  rintro e w4 ⟨rfl, k4, k4', b4⟩
  clear k4 k4'
  have f4 : Below w.heap.size w w4 := ((b1.trans (b2.mono (by omega))).trans (b3.mono (by omega))).trans (b4.mono (by omega))
  have h4 : w4.heap[B]? = some (RB bv p held left ov lim (.pointer none)) := (f4.block B hB).trans HH.out
  obtain ⟨d0, d1, d2, d3, d4, d5, d6, df⟩ := rb_cells h4
  have H4 : Hid _ := h4; clear h4
  have s4 := f4.size
  have hB4 : B < w4.heap.size := by omega
  have s34 := b4.size
  go_wp2_with fail
  go_ret
  have fc : Fr (fun k => w2.heap.size ≤ k) w2 w4 := Fr.of_below (b3.trans (b4.mono (by omega)))
  have hC : Coded w4 w1.heap.size := K2.keep fc (by omega) (by omega)
  refine ⟨w1.heap.size, w3.heap.size, w4.heap.size, rfl, ?_, by omega, by omega, ?_, ?_, ?_⟩
  · exact hC.keep (((Fr.refl (One B) w4).setCell (p := ⟨B, 6, none⟩) rfl _).alloc _) (by simp [One]; omega) (by simp [One]; omega)
  · have e : (w4.setCell ⟨B, 6, none⟩ (.pointer (some ⟨w4.heap.size, 0, none⟩))).heap.size = w4.heap.size := by simp [World.setCell]
    have := heap_alloc_new (w4.setCell ⟨B, 6, none⟩ (.pointer (some ⟨w4.heap.size, 0, none⟩))) (.cells #[.pointer (some ⟨w1.heap.size, 0, none⟩), .pointer (some ⟨w3.heap.size, 0, none⟩)] 106)
    rw [e] at this
    exact this
  · have := heap_set H4.out 6 (.pointer (some ⟨w4.heap.size, 0, none⟩))
    exact (heap_alloc_old (by simpa [World.setCell] using hB4) _).trans (by simpa using this)
  · have : Fr (One B) w w4 := ⟨f4.os, f4.tape, f4.output, f4.size, fun k hk _ => f4.block k hk⟩
    exact (this.setCell (p := ⟨B, 6, none⟩) rfl _).alloc _

set_option maxHeartbeats 1000000 in
theorem block_a (B b o c : Nat) (lim : Int) (w : World)
    (h : w.heap[B]? = some (RB (.slice (some ⟨b, o, none⟩) 3 c) 1 9 5 (.slice none 0 0) lim (.pointer none))) (hb : b < B) (hI : Lies w b o I3) (hlim : 1 ≤ lim) (hlim2 : lim ≤ 60000) :
    Calls Tryd.prog 23 #[.pointer (some ⟨B, 0, none⟩), .int .i64 1] w fun r w' => r = .returned (.tuple #[]) ∧
      (∃ ov fx, w'.heap[B]? = some (RB (.slice (some ⟨b, o, none⟩) 3 c) 3 0 6 ov lim fx) ∧ w'.ownsRow (B + 1) 5 1 ov 1 (bv8 [97])) ∧ Fr (fun k => B ≤ k) w w' := by
  have hB := lt_of_heap h
  have HH : Hid _ := h; clear h
  go_enter Tryd.func23, Tryd.ntmps23
  go_wp2_with fail
  refine (fixedPair_new B _ _ _ _ _ _ w HH.out).mono ?_
  rintro e w1 ⟨cl, cd, pb, rfl, hC, h1, h2, h3, h4, h5⟩
  have H3 : Hid _ := h3; clear h3
  have H4 : Hid _ := h4; clear h4
  go_wp2_with fail
  refine (symbols_a B b o c cl cd pb lim _ w1 H4.out hb (hI.keep h5 (by simp [One]; omega)) H3.out hC (by omega) (by omega) hlim hlim2).mono ?_
  rintro e w2 ⟨rfl, ⟨ov, h6, h7⟩, h8⟩
  have H6 : Hid _ := h6; clear h6
  go_wp2_with fail
  go_end0
  exact ⟨rfl, ⟨ov, _, H6.out, h7⟩, (One.up h5).trans h8⟩

set_option maxHeartbeats 1000000 in
theorem blocks_a (B b o c : Nat) (lim : Int) (w : World)
    (h : w.heap[B]? = some (RB (.slice (some ⟨b, o, none⟩) 3 c) 0 0 0 (.slice none 0 0) lim (.pointer none))) (hb : b < B) (hI : Lies w b o I3) (hlim : 1 ≤ lim) (hlim2 : lim ≤ 60000) :
    Calls Tryd.prog 15 #[.pointer (some ⟨B, 0, none⟩)] w fun r w' => r = .returned (.tuple #[]) ∧
      (∃ ov fx, w'.heap[B]? = some (RB (.slice (some ⟨b, o, none⟩) 3 c) 3 0 6 ov lim fx) ∧ w'.ownsRow (B + 1) 5 1 ov 1 (bv8 [97])) ∧ Fr (fun k => B ≤ k) w w' := by
  have hB := lt_of_heap h
  have HH : Hid _ := h; clear h
  go_enter Tryd.func15, Tryd.ntmps15
  go_wp2_with fail
  go_loopw [2] (fun t wr => (t = .bool false ∧ wr = w) ∨ (t = .bool true ∧ posOf B wr = 3 ∧ (∃ ov fx, wr.heap[B]? = some (RB (.slice (some ⟨b, o, none⟩) 3 c) 3 0 6 ov lim fx) ∧ wr.ownsRow (B + 1) 5 1 ov 1 (bv8 [97])) ∧ Fr (fun k => B ≤ k) w wr)) (fun _ wr => 3 - posOf B wr)
  case atStart => exact Or.inl ⟨rfl, rfl⟩
  case round =>
    rcases hrel with ⟨rfl, rfl⟩ | ⟨rfl, hpos, ⟨ov, fx, hh, hw⟩, hfr⟩
    · have HPO : Hid (posOf B wr = 0) := posOf_rb (p := 0) HH.out
      go_wp2_with fail
      refine (bit_fresh B b o 3 c 0 0 lim 75 _ _ wr HH.out (by omega) (by decide) (by omega) (hI 0 (by decide)) (by omega) (by omega)).mono ?_
      rintro e w1 ⟨rfl, k1, f1⟩
      have K1 : Hid _ := k1; clear k1
      go_wp2_with fail
      refine (number_two B 5 1 37 lim _ _ _ w1 K1.out (by omega) (by omega) (by omega)).mono ?_
      rintro e w2 ⟨rfl, k2, f2⟩
      have K2 : Hid _ := k2; clear k2
      go_wp2_with fail
      refine (block_a B b o c lim w2 K2.out hb ((hI.keep f1 (by simp [One]; omega)).keep f2 (by simp [One]; omega)) hlim hlim2).mono ?_
      rintro e w3 ⟨rfl, ⟨ov, fx, k3, o3⟩, f3⟩
      have K3 : Hid _ := k3; clear k3
      have p3 := posOf_rb (p := 3) K3.out
      have P3 : Hid _ := p3; clear p3
      go_wp2_with fail
      go_roundw
      case rel => exact Or.inr ⟨rfl, P3.out, ⟨ov, fx, K3.out, o3⟩, (One.up (f1.trans f2)).trans f3⟩
      case measure => rw [HPO.out, P3.out]; omega
    · have H2 : Hid _ := hh; clear hh
      clear hpos
      go_wp2_with fail
      go_end0
      exact ⟨rfl, ⟨ov, fx, H2.out, hw⟩, hfr⟩

end Go.Proofs.YtdpobjgfnhjagaaDoor

namespace Go.Proofs.YtdpobjgfnhjagaaDoor
open Go.RowKit

theorem stream_a (b o c : Nat) (lim : Int) (w : World) (hb : b < w.heap.size) (hI : Lies w b o I3) (hl0 : 1 ≤ lim) (hlim : lim ≤ 60000) :
    Calls Tryd.prog 12 #[.slice (some ⟨b, o, none⟩) 3 c, .int .i64 lim] w (Answer w [97] 3) := by
  obtain ⟨a0, a1, a2, a3, a4, a5⟩ := W0_heap w (.slice (some ⟨b, o, none⟩) 3 c) lim
  have hI0 : Lies (W0 w (.slice (some ⟨b, o, none⟩) 3 c) lim) b o I3 := hI.keep (Fr.of_below a5) (by omega)
  have hB := blocks_a (w.heap.size + 3) b o c lim (W0 w (.slice (some ⟨b, o, none⟩) 3 c) lim) a3 (by omega) hI0 hl0 hlim
  refine (stream_of (some ⟨b, o, none⟩) 3 c lim w (by omega) hlim _ hB ?_).mono ?_
  · rintro e w1 ⟨h1, ⟨ov, fx, h2, h3⟩, h4⟩
    obtain ⟨ao, cp, rfl⟩ := owns_slice h3
    exact ⟨h4, Or.inl ⟨h1, _, _, _, _, _, _, _, h2⟩⟩
  · rintro e w' ⟨e1, w1, ⟨h1, ⟨ov, fx, h2, h3⟩, h4⟩, hc⟩
    have hbel : Below w.heap.size w w1 := a5.trans (h4.below (by omega) (by intro k hk; omega))
    rcases hc with ⟨q, held, left, fx', oa, on, oc, _, f, hB2, rfl⟩ | ⟨x, h5, _, _⟩
    · have hbel' : Below w.heap.size w w' := hbel.trans (f.below hbel.size (by intro k hk; omega))
      rw [hB2] at h2
      obtain ⟨ao, cp, rfl⟩ := owns_slice h3
      simp at h2
      obtain ⟨rfl, rfl, rfl, ⟨rfl, rfl, rfl⟩, rfl⟩ := h2
      refine ⟨_, rfl, ?_, hbel'⟩
      have h6 := owns_keep (w' := w') h3 fun g hg hs => f.block g hs (by have := (owns_block h3 hg).1; omega)
      exact owns_base (base' := w.heap.size) h6 (by omega)
    · rw [h5] at h1
      cases h1

theorem conv_owned {w : World} {base : Nat} {ov : Value} {out : List UInt8} (h : w.ownsRow base 5 1 ov out.length (bv8 out)) :
    (convert 25 9 ov).run Tryd.prog w = .ok (.string ⟨out.toArray⟩) w := by
  rcases h.2 with ⟨h1, h2⟩ | ⟨g, cap, cur, h1, h2, h3, h4, h5, h6, h7⟩
  · have : out = [] := List.eq_nil_of_length_eq_zero h2
    subst this
    rw [h1, run_convert_bytes_nil w 25 5 Tryd.underlying25 Tryd.underlying5 0 0 9 Tryd.underlying9]
    rfl
  · rw [h1]
    refine run_convert_bytes_back w 25 9 5 ⟨g, 0, none⟩ cap out Tryd.underlying25 Tryd.underlying5 Tryd.underlying9 ?_
    intro j hj
    rw [show (⟨g, 0, none⟩ : Addr).add j = ⟨g, j, none⟩ by simp [Addr.add]; intro h; exact h.symm, cell_of_heap h3]
    have e : (cur.toList.take (out.length * 1))[j]? = (bv8 out)[j]? := by rw [h7]
    rw [List.getElem?_take, if_pos (by omega)] at e
    simp only [Array.getElem?_toList] at e
    rw [e]
    simp [bv8, hj]

set_option maxHeartbeats 400000 in
theorem inflates_true (w : World) : Calls Tryd.prog 6 #[] w fun e w' => e = .returned (.bool true) ∧ Below w.heap.size w w' := by
  go_enter Tryd.func6, Tryd.ntmps6
  go_wp2_with fail
  have hL : Lies (w.alloc (.cells #[.int .u8 75, .int .u8 4, .int .u8 0] 5)) w.heap.size 0 I3 := by
    intro i hi
    have hh := heap_alloc_new w (.cells #[.int .u8 75, .int .u8 4, .int .u8 0] 5)
    rw [cell_of_heap hh]
    match i, hi with
    | 0, _ => rfl
    | 1, _ => rfl
    | 2, _ => rfl
  refine (inflate_of _ 9 _ _ (stream_a w.heap.size 0 3 9 _ (by simp) hL (by omega) (by omega)) ?_).mono ?_
  · rintro e w' ⟨ov, rfl, _, _⟩
    exact ⟨_, _, _, rfl⟩
  rintro e w1 ⟨ov, rfl, hown, hbel⟩
  have hcv := conv_owned hown
  go_wp2_with fail
  go_ret
  exact ⟨rfl, ((Below.refl _ _).alloc (Nat.le_refl _) _).trans (hbel.mono (by simp))⟩

set_option maxHeartbeats 400000 in
theorem pick_any (c n : Int) (w : World) (hc : -9223372036854775808 ≤ c ∧ c ≤ 9223372036854775807) (hn : 0 < n) (hn2 : n ≤ 100000) :
    Calls Tryd.prog 7 #[.int .i64 c, .int .i64 n] w fun e w' => (∃ r : Int, e = .returned (.int .i64 r) ∧ 0 ≤ r ∧ r < n) ∧ w' = w := by
  by_cases h : c < 0
  · go_enter Tryd.func7, Tryd.ntmps7
    go_wp2_with fail
    go_ret
    refine ⟨⟨-((c + 1).tmod n), rfl, ?_⟩, rfl⟩
    have e : -((c + 1).tmod n) = (-(c + 1)) % n := by rw [← Int.neg_tmod, Int.tmod_eq_emod_of_nonneg (by omega)]
    rw [e]
    exact ⟨Int.emod_nonneg _ (by omega), Int.emod_lt_of_pos _ hn⟩
  · go_enter Tryd.func7, Tryd.ntmps7
    go_wp2_with fail
    go_ret
    exact ⟨⟨c % n, rfl, Int.emod_nonneg _ (by omega), Int.emod_lt_of_pos _ hn⟩, rfl⟩

end Go.Proofs.YtdpobjgfnhjagaaDoor

namespace Go.Proofs.YtdpobjgfnhjagaaDoor
open Go.RowKit

def c40 : Array Value := #[.int .u8 97, .int .u8 97, .int .u8 97, .int .u8 97, .int .u8 97, .int .u8 97, .int .u8 97, .int .u8 97, .int .u8 97, .int .u8 97, .int .u8 97, .int .u8 97, .int .u8 97, .int .u8 97, .int .u8 97, .int .u8 97, .int .u8 97, .int .u8 97, .int .u8 97, .int .u8 97, .int .u8 97, .int .u8 97, .int .u8 97, .int .u8 97, .int .u8 97, .int .u8 97, .int .u8 97, .int .u8 97, .int .u8 97, .int .u8 97, .int .u8 97, .int .u8 97, .int .u8 97, .int .u8 97, .int .u8 97, .int .u8 97, .int .u8 97, .int .u8 97, .int .u8 97, .int .u8 97]

set_option maxRecDepth 100000 in
set_option maxHeartbeats 4000000 in
theorem deflates_walk (w : World) (Q : World → Prop)
    (h : ∀ W, W = w.alloc (.cells c40 5 (40, 41)) → Calls Tryd.prog 11 #[.slice (some ⟨w.heap.size, 0, none⟩) 40 40, .int .i64 6] W fun e w' => ∃ ao m c, e = .returned (.tuple #[.slice ao m c, .int .i64 0]) ∧ 0 < m ∧ m ≤ 20 ∧ Q w') :
    Calls Tryd.prog 9 #[] w fun e w' => e = .returned (.bool true) ∧ Q w' := by
  have kc := fun (w : World) (C : Array Value) (n c : Nat) => Lib.run_convert_bytes_const (P := Tryd.prog) w 25 5 C n c Tryd.underlying25 Tryd.underlying5
  go_enter Tryd.func9, Tryd.ntmps9
  go_wp2_with fail
  refine (h _ rfl).mono ?_
  rintro e w1 ⟨ao, m, c, rfl, h1, h2, q⟩
  have h1i : (0 : Int) < (m : Int) := by omega
  have h2i : (m : Int) ≤ 20 := by omega
  go_wp2_with fail
  go_ret
  exact ⟨rfl, q⟩

theorem inflE_nil (lim : Int) (b : List UInt8) (n : Nat) : inflE [] lim ≠ .ok (b, n) := by
  intro h
  have e : blksGo [] lim (8 * ([] : List UInt8).length + 1) 0 [] = .error 2 := rfl
  unfold inflE at h
  rw [e] at h
  cases h

theorem StrOf.pos {b s : List UInt8} (h : StrOf b s) : 0 < s.length := by
  rcases Nat.eq_zero_or_pos s.length with c | c
  · exfalso
    have : s = [] := List.length_eq_zero_iff.1 c
    subst this
    have := h [] b.length (by omega)
    rw [if_pos (Int.le_refl _)] at this
    exact inflE_nil _ _ _ this
  · exact c

/-- Equal bytes make a short stream. -/
theorem str_equal {b s : List UInt8} {lev : Nat} (h : StrOk b lev s) (hl : 1 ≤ lev) (he : EqB b) : s.length ≤ 20 + b.length / 100 := by
  obtain ⟨ts, h1, h2⟩ := h.rep hl
  have h3 := h1.eq he
  have h4 : (fixedBits (ts.map toTok)).length = 3 + (toksBits lits dists (ts.map toTok)).length + 7 := by
    have e1 : (headBits 1).length = 3 := rfl
    have e2 : (codeBits lits 256).length = 7 := by unfold codeBits; rw [msb_length]; decide +kernel
    unfold fixedBits
    rw [List.length_append, List.length_append, e1, e2]; omega
  rw [pack_length] at h2
  unfold EB at h3
  omega

theorem rep_get (n : Nat) (c : UInt8) (i : Nat) (h : i < n) : (List.replicate n c).getD i 0 = c := by simp [List.getD, h]
theorem rep_getV (n : Nat) (c : Value) (i : Nat) (h : i < n) : (List.replicate n c).toArray[i]? = some c := by simp [h]
theorem rep_eq (n : Nat) (c : UInt8) : EqB (List.replicate n c) := fun i j hi hj => by
  rw [List.length_replicate] at hi hj
  rw [rep_get n c i hi, rep_get n c j hj]

theorem lies40 (w : World) : Lies (w.alloc (.cells c40 5 (40, 41))) w.heap.size 0 (List.replicate 40 97) := by
  intro i hi
  have hi' : i < 40 := by rw [List.length_replicate] at hi; exact hi
  have hh := heap_alloc_new w (.cells c40 5 (40, 41))
  rw [cell_of_heap hh, Nat.zero_add]
  rw [rep_get 40 97 i hi']
  have e : c40 = (List.replicate 40 (Value.int .u8 97)).toArray := rfl
  rw [e, rep_getV 40 _ i hi']
  rfl

theorem deflates_true (w : World) (hO : OrdAt w) (h0 : 0 < w.heap.size) : Calls Tryd.prog 9 #[] w fun e w' => e = .returned (.bool true) ∧ Below w.heap.size w w' := by
  refine deflates_walk w (fun w' => Below w.heap.size w w') ?_
  intro W hW
  have hbW : Below w.heap.size w W := by rw [hW]; exact (Fr.refl Non w).alloc _ |>.below (Nat.le_refl _) (fun k hk => hk.elim)
  have hL : Lies W w.heap.size 0 (List.replicate 40 97) := by rw [hW]; exact lies40 w
  have hlt : w.heap.size < W.heap.size := by rw [hW]; simp
  refine (deflate_any w.heap.size 0 40 6 (List.replicate 40 97) W hL hlt (by simp) (by omega) (hO.below hbW h0)).mono ?_
  rintro e w' ⟨v, rfl, s, hs, hown, hb⟩
  obtain ⟨ao, c, rfl⟩ := owns_slice hown
  have h1 := str_equal hs (by omega) (rep_eq 40 97)
  rw [List.length_replicate] at h1
  exact ⟨ao, _, c, rfl, hs.str.pos, by omega, hbW.trans (hb.mono (by omega))⟩
end Go.Proofs.YtdpobjgfnhjagaaDoor

namespace Go.Proofs.YtdpobjgfnhjagaaDoor
open Go.RowKit

set_option maxHeartbeats 400000 in
theorem pick_big (c n : Int) (w : World) (hc : -9223372036854775808 ≤ c ∧ c ≤ 9223372036854775807) (hn : 0 < n) (hn2 : n ≤ 2000000) :
    Calls Tryd.prog 7 #[.int .i64 c, .int .i64 n] w fun e w' => (∃ r : Int, e = .returned (.int .i64 r) ∧ 0 ≤ r ∧ r < n) ∧ w' = w := by
  by_cases h : c < 0
  · go_enter Tryd.func7, Tryd.ntmps7
    go_wp2_with fail
    go_ret
    refine ⟨⟨-((c + 1).tmod n), rfl, ?_⟩, rfl⟩
    have e : -((c + 1).tmod n) = (-(c + 1)) % n := by rw [← Int.neg_tmod, Int.tmod_eq_emod_of_nonneg (by omega)]
    rw [e]
    exact ⟨Int.emod_nonneg _ (by omega), Int.emod_lt_of_pos _ hn⟩
  · go_enter Tryd.func7, Tryd.ntmps7
    go_wp2_with fail
    go_ret
    exact ⟨⟨c % n, rfl, Int.emod_nonneg _ (by omega), Int.emod_lt_of_pos _ hn⟩, rfl⟩

theorem u8_some (z : Int) : ∃ u : UInt8, z % 256 = (u.toNat : Int) := by
  refine ⟨UInt8.ofNat (z % 256).toNat, ?_⟩
  rw [UInt8.toNat_ofNat']
  omega

/-- The bytes that are made so far. -/
structure MadeI (base : Nat) (w : World) (v : Value) (n : Nat) (bs : List UInt8) : Prop where
  own : w.ownsRow base 5 1 v n (bv8 bs)
  len : bs.length = n
  le : n ≤ 12000

theorem made_step {w wr w' : World} {g n c : Nat} {v' : Value} {bs : List UInt8} {z : Int} (o : Obj) (hM : MadeI w.heap.size wr (.slice (some ⟨g, 0, none⟩) n c) n bs) (hn : n < 12000) (hB : Below w.heap.size w wr)
    (hown : w'.ownsRow w.heap.size 5 1 v' (n + 1) (bv8 bs ++ [.int .u8 (z % 256)])) (hgrow : (wr.alloc o).grownBy w' (Value.slice (some ⟨g, 0, none⟩) n c).ownBlock) :
    ∃ g' c' bs', v' = .slice (some ⟨g', 0, none⟩) (n + 1) c' ∧ MadeI w.heap.size w' (.slice (some ⟨g', 0, none⟩) (n + 1) c') (n + 1) bs' ∧ Below w.heap.size w w' := by
  obtain ⟨u, hu⟩ := u8_some z
  rw [hu] at hown
  have e : bv8 bs ++ [Value.int .u8 (u.toNat : Int)] = bv8 (bs ++ [u]) := by simp [bv8]
  rw [e] at hown
  obtain ⟨g', c', rfl⟩ : ∃ g' c', v' = .slice (some ⟨g', 0, none⟩) (n + 1) c' := by
    rcases hown.2 with ⟨_, h⟩ | ⟨g', c', _, h, _⟩
    · omega
    · exact ⟨g', c', h⟩
  refine ⟨g', c', bs ++ [u], rfl, ⟨hown, by rw [List.length_append, hM.len]; rfl, by omega⟩, ?_⟩
  have hf : Below w.heap.size wr w' := ((Below.refl w.heap.size wr).alloc hB.size o).grown hgrow (by have := hB.size; simp; omega) (fun k hk => (owns_block hM.own hk).1)
  exact hB.trans hf

set_option maxRecDepth 100000 in
set_option maxHeartbeats 4000000 in
theorem made_none (ao : Option Addr) (cap : Nat) (w : World) :
    Calls Tryd.prog 10 #[.slice ao 0 cap] w fun e w' => e = .returned (.slice (some ⟨w.heap.size, 0, none⟩) 0 0) ∧ w' = w.alloc (.cells #[] 5) := by
  go_enter Tryd.func10, Tryd.ntmps10
  go_wp2_with fail
  go_loopw [3, 4] (fun ov i wr => ov = .slice (some ⟨w.heap.size, 0, none⟩) 0 0 ∧ i = .int .i64 0 ∧ wr = w.alloc (.cells #[] 5)) (fun _ _ _ => 0)
  case atStart => exact ⟨rfl, rfl, rfl⟩
  case round =>
    obtain ⟨rfl, rfl, rfl⟩ := hrel
    go_wp2_with fail
    go_ret
    exact ⟨rfl, rfl⟩

set_option maxRecDepth 100000 in
set_option maxHeartbeats 4000000 in
theorem made_some (b o len cap : Nat) (K N C : Nat → Int) (w : World) (hb : b < w.heap.size) (hlen : len ≤ maxLen)
    (hk : ∀ i, i < len → w.cell? ⟨b, o + i * 3, none⟩ = some (.int .i64 (K i)) ∧ -9223372036854775808 ≤ K i ∧ K i ≤ 9223372036854775807)
    (hn : ∀ i, i < len → w.cell? ⟨b, o + i * 3 + 1, none⟩ = some (.int .i64 (N i)) ∧ -9223372036854775808 ≤ N i ∧ N i ≤ 9223372036854775807)
    (hc : ∀ i, i < len → w.cell? ⟨b, o + i * 3 + 2, none⟩ = some (.int .i64 (C i)) ∧ -9223372036854775808 ≤ C i ∧ C i ≤ 9223372036854775807) :
    Calls Tryd.prog 10 #[.slice (some ⟨b, o, none⟩) len cap] w fun e w' => ∃ g n c bs, e = .returned (.slice (some ⟨g, 0, none⟩) n c) ∧ MadeI w.heap.size w' (.slice (some ⟨g, 0, none⟩) n c) n bs ∧ Below w.heap.size w w' := by
  obtain ⟨i0, hi, hz0, hz1, hz2⟩ := info_parts info5
  have HK : Hid _ := hk
  have HN : Hid _ := hn
  have HC : Hid _ := hc
  clear hk hn hc
  have hl2 : (len : Int) ≤ 9223372036854775807 := by unfold maxLen at hlen; omega
  go_enter Tryd.func10, Tryd.ntmps10
  go_wp2_with fail
  go_loopw [3, 4] (fun ov iv wr => ∃ (i g n c : Nat) (bs : List UInt8), i ≤ len ∧ iv = .int .i64 i ∧ ov = .slice (some ⟨g, 0, none⟩) n c ∧ MadeI w.heap.size wr (.slice (some ⟨g, 0, none⟩) n c) n bs ∧ Below w.heap.size w wr) (fun _ iv _ => len - (intOf iv).toNat)
  case atStart =>
    refine ⟨0, w.heap.size, 0, 0, [], by omega, rfl, rfl, ⟨⟨rfl, Or.inr ⟨w.heap.size, 0, #[], rfl, Nat.le_refl _, heap_alloc_new _ _, Nat.le_refl _, by unfold maxLen; omega, rfl, rfl⟩⟩, rfl, by omega⟩, ?_⟩
    exact (Fr.refl Non w).alloc _ |>.below (Nat.le_refl _) (fun k hk => hk.elim)
  case round =>
    obtain ⟨i, g, n, c, bs, hil, rfl, rfl, hM, hB⟩ := hrel
    by_cases hlt : i < len
    · have hli : (i : Int) < (len : Int) := by omega
      obtain ⟨c1, n1, n2⟩ := HN.out i hlt
      obtain ⟨c2, m1, m2⟩ := HC.out i hlt
      obtain ⟨c0, k1, k2⟩ := HK.out i hlt
      have d1 := (hB.cell (p := ⟨b, o + i * 3 + 1, none⟩) hb).trans c1
      have d2 := (hB.cell (p := ⟨b, o + i * 3 + 2, none⟩) hb).trans c2
      have hp1 := pick_big (N i) 3000 wr ⟨n1, n2⟩ (by omega) (by omega)
      have hp2 := pick_big (C i) 1048576 wr ⟨m1, m2⟩ (by omega) (by omega)
      generalize N i = Ni at d1 hp1
      generalize C i = Ci at d2 hp2
      have HP1 : Hid _ := hp1
      have HP2 : Hid _ := hp2
      clear c1 c2 n1 n2 m1 m2 hp1 hp2
      go_wp2_with fail
      refine Calls.mono HP1.out ?_
      rintro e w1 ⟨⟨q, rfl, hq0, hq1⟩, rfl⟩
      go_wp2_with fail
      refine Calls.mono HP2.out ?_
      rintro e w1 ⟨⟨x, rfl, hx0, hx1⟩, rfl⟩
      clear HP1 HP2
      go_wp2_with fail
      go_loopw [3, 7] (fun ov kv wr => ∃ (k g n c : Nat) (bs : List UInt8), (k : Int) ≤ q ∧ kv = .int .i64 k ∧ ov = .slice (some ⟨g, 0, none⟩) n c ∧ MadeI w.heap.size wr (.slice (some ⟨g, 0, none⟩) n c) n bs ∧ Below w.heap.size w wr) (fun _ kv _ => q.toNat - (intOf kv).toNat)
      case atStart => exact ⟨0, g, n, c, bs, by omega, rfl, rfl, hM, hB⟩
      case round =>
        obtain ⟨k, g, n, c, bs, hkq, rfl, rfl, hM, hB⟩ := hrel
        by_cases hg1 : (k : Int) < q ∧ n < 12000
        · obtain ⟨hkl, hnl⟩ := hg1
          have hnli : (n : Int) < 12000 := by omega
          have d0 := (hB.cell (p := ⟨b, o + i * 3, none⟩) hb).trans c0
          have hp3 := pick_big (K i) 5 wr ⟨k1, k2⟩ (by omega) (by omega)
          generalize K i = Ki at d0 hp3
          have HP3 : Hid _ := hp3
          clear hp3
          go_wp2_with fail
          refine Calls.mono HP3.out ?_
          rintro e w1 ⟨⟨r, rfl, hr0, hr1⟩, hw⟩
          have hw' := hw.symm
          clear hw
          subst hw'
          clear HP3
          have hown := hM.own
          have hbl := hM.len
          have hle := hM.le
          have hwr : w.heap.size ≤ wr.heap.size := hB.size
          have HO : Hid (wr.ownsRow w.heap.size 5 1 (.slice (some ⟨g, 0, none⟩) n c) n (bv8 bs)) := hown
          have HM : Hid _ := hM
          clear hown hM
          rcases (show r = 0 ∨ r = 1 ∨ r = 2 ∨ r = 3 ∨ r = 4 by omega) with rfl | rfl | rfl | rfl | rfl
          · go_wp2_with (at_builtin; refine wpList_append_own _ rfl (.tmp 86) (.tmp 89) 25 rfl w.heap.size 5 i0 (.int .u8 0) 1 1 underlying25 hi hz0 hz1 hz2 rfl (by decide) (.slice (some ⟨g, 0, none⟩) n c) n (bv8 bs) rfl ?own ⟨wr.heap.size, 0, none⟩ 1 1 [?vv0] rfl rfl ?c1 ?c2 ?b1 ?b2 ?b3 ?grow)
            case own => exact owns_keep HO.out (fun g _ hg => heap_alloc_old hg _)
            case c1 => exact one_new rfl _ _
            case c2 => intro u hu; simp at hu; subst hu; rfl
            case b1 => unfold maxLen; omega
            case b2 => omega
            case b3 => simp; omega
            case grow =>
              intro v' w' hown hgrow _
              obtain ⟨g', c', bs', rfl, hM', hB'⟩ := made_step _ HM.out hnl hB hown hgrow
              clear hown hgrow
              go_wp2_with fail
              go_roundw
              case rel => exact ⟨k + 1, g', n + 1, c', bs', by omega, by go_num, rfl, hM', hB'⟩
              case measure => simp [intOf]; omega
          · go_wp2_with (at_builtin; refine wpList_append_own _ rfl (.tmp 86) (.tmp 89) 25 rfl w.heap.size 5 i0 (.int .u8 0) 1 1 underlying25 hi hz0 hz1 hz2 rfl (by decide) (.slice (some ⟨g, 0, none⟩) n c) n (bv8 bs) rfl ?own ⟨wr.heap.size, 0, none⟩ 1 1 [?vv1] rfl rfl ?c1 ?c2 ?b1 ?b2 ?b3 ?grow)
            case own => exact owns_keep HO.out (fun g _ hg => heap_alloc_old hg _)
            case c1 => exact one_new rfl _ _
            case c2 => intro u hu; simp at hu; subst hu; rfl
            case b1 => unfold maxLen; omega
            case b2 => omega
            case b3 => simp; omega
            case grow =>
              intro v' w' hown hgrow _
              obtain ⟨g', c', bs', rfl, hM', hB'⟩ := made_step _ HM.out hnl hB hown hgrow
              clear hown hgrow
              go_wp2_with fail
              go_roundw
              case rel => exact ⟨k + 1, g', n + 1, c', bs', by omega, by go_num, rfl, hM', hB'⟩
              case measure => simp [intOf]; omega
          · go_wp2_with (at_builtin; refine wpList_append_own _ rfl (.tmp 86) (.tmp 89) 25 rfl w.heap.size 5 i0 (.int .u8 0) 1 1 underlying25 hi hz0 hz1 hz2 rfl (by decide) (.slice (some ⟨g, 0, none⟩) n c) n (bv8 bs) rfl ?own ⟨wr.heap.size, 0, none⟩ 1 1 [?vv2] rfl rfl ?c1 ?c2 ?b1 ?b2 ?b3 ?grow)
            case own => exact owns_keep HO.out (fun g _ hg => heap_alloc_old hg _)
            case c1 => exact one_new rfl _ _
            case c2 => intro u hu; simp at hu; subst hu; rfl
            case b1 => unfold maxLen; omega
            case b2 => omega
            case b3 => simp; omega
            case grow =>
              intro v' w' hown hgrow _
              obtain ⟨g', c', bs', rfl, hM', hB'⟩ := made_step _ HM.out hnl hB hown hgrow
              clear hown hgrow
              go_wp2_with fail
              go_roundw
              case rel => exact ⟨k + 1, g', n + 1, c', bs', by omega, by go_num, rfl, hM', hB'⟩
              case measure => simp [intOf]; omega
          · by_cases hn0 : n = 0
            · have hnz : ¬ ((0 : Int) < (n : Int)) := by omega
              clear hn0
              go_wp2_with (at_builtin; refine wpList_append_own _ rfl (.tmp 86) (.tmp 89) 25 rfl w.heap.size 5 i0 (.int .u8 0) 1 1 underlying25 hi hz0 hz1 hz2 rfl (by decide) (.slice (some ⟨g, 0, none⟩) n c) n (bv8 bs) rfl ?own ⟨wr.heap.size, 0, none⟩ 1 1 [?vv3] rfl rfl ?c1 ?c2 ?b1 ?b2 ?b3 ?grow)
              case own => exact owns_keep HO.out (fun g _ hg => heap_alloc_old hg _)
              case c1 => exact one_new rfl _ _
              case c2 => intro u hu; simp at hu; subst hu; rfl
              case b1 => unfold maxLen; omega
              case b2 => omega
              case b3 => simp; omega
              case grow =>
                intro v' w' hown hgrow _
                obtain ⟨g', c', bs', rfl, hM', hB'⟩ := made_step _ HM.out hnl hB hown hgrow
                clear hown hgrow
                go_wp2_with fail
                go_roundw
                case rel => exact ⟨k + 1, g', n + 1, c', bs', by omega, by go_num, rfl, hM', hB'⟩
                case measure => simp [intOf]; omega
            · have hnp : (0 : Int) < (n : Int) := by omega
              have hm0 := Int.emod_nonneg x (show (n : Int) ≠ 0 by omega)
              have hm1 := Int.emod_lt_of_pos x hnp
              obtain ⟨jj, hjj⟩ : ∃ jj : Nat, (n : Int) - 1 - x % (n : Int) = (jj : Int) := ⟨((n : Int) - 1 - x % (n : Int)).toNat, by omega⟩
              have hjn : (jj : Int) < (n : Int) := by omega
              have hcj : wr.cell? ⟨g, jj, none⟩ = some (.int .u8 ((bs.getD jj 0).toNat : Int)) := by
                rw [own_cell HO.out jj (by omega)]
                have : jj < bs.length := by omega
                simp [bv8, this]
              generalize ((bs.getD jj 0).toNat : Int) = cj at hcj
              go_wp2_with (at_builtin; refine wpList_append_own _ rfl (.tmp 86) (.tmp 89) 25 rfl w.heap.size 5 i0 (.int .u8 0) 1 1 underlying25 hi hz0 hz1 hz2 rfl (by decide) (.slice (some ⟨g, 0, none⟩) n c) n (bv8 bs) rfl ?own ⟨wr.heap.size, 0, none⟩ 1 1 [?vv4] rfl rfl ?c1 ?c2 ?b1 ?b2 ?b3 ?grow)
              case own => exact owns_keep HO.out (fun g _ hg => heap_alloc_old hg _)
              case c1 => exact one_new rfl _ _
              case c2 => intro u hu; simp at hu; subst hu; rfl
              case b1 => unfold maxLen; omega
              case b2 => omega
              case b3 => simp; omega
              case grow =>
                intro v' w' hown hgrow _
                obtain ⟨g', c', bs', rfl, hM', hB'⟩ := made_step _ HM.out hnl hB hown hgrow
                clear hown hgrow
                go_wp2_with fail
                go_roundw
                case rel => exact ⟨k + 1, g', n + 1, c', bs', by omega, by go_num, rfl, hM', hB'⟩
                case measure => simp [intOf]; omega
          · go_wp2_with (at_builtin; refine wpList_append_own _ rfl (.tmp 86) (.tmp 89) 25 rfl w.heap.size 5 i0 (.int .u8 0) 1 1 underlying25 hi hz0 hz1 hz2 rfl (by decide) (.slice (some ⟨g, 0, none⟩) n c) n (bv8 bs) rfl ?own ⟨wr.heap.size, 0, none⟩ 1 1 [?vv5] rfl rfl ?c1 ?c2 ?b1 ?b2 ?b3 ?grow)
            case own => exact owns_keep HO.out (fun g _ hg => heap_alloc_old hg _)
            case c1 => exact one_new rfl _ _
            case c2 => intro u hu; simp at hu; subst hu; rfl
            case b1 => unfold maxLen; omega
            case b2 => omega
            case b3 => simp; omega
            case grow =>
              intro v' w' hown hgrow _
              obtain ⟨g', c', bs', rfl, hM', hB'⟩ := made_step _ HM.out hnl hB hown hgrow
              clear hown hgrow
              go_wp2_with fail
              go_roundw
              case rel => exact ⟨k + 1, g', n + 1, c', bs', by omega, by go_num, rfl, hM', hB'⟩
              case measure => simp [intOf]; omega
        · by_cases hkl : (k : Int) < q
          · have hnl : ¬ ((n : Int) < 12000) := by omega
            go_wp2_with fail
            exact ⟨⟨i + 1, g, n, c, bs, by omega, by go_num, rfl, hM, hB⟩, by simp [intOf]; omega⟩
          · go_wp2_with fail
            exact ⟨⟨i + 1, g, n, c, bs, by omega, by go_num, rfl, hM, hB⟩, by simp [intOf]; omega⟩
    · obtain rfl : i = len := by omega
      go_wp2_with fail
      go_ret
      exact ⟨g, n, c, bs, rfl, hM, hB⟩
end Go.Proofs.YtdpobjgfnhjagaaDoor

namespace Go.Proofs.YtdpobjgfnhjagaaDoor
open Go.RowKit

/-- The blocks that Stored makes of its strings. -/
def blksOf (xs : List ByteArray) : List (List UInt8) := (xs.take 20).map fun x => x.data.toList.take 2000

set_option maxRecDepth 100000 in
set_option maxHeartbeats 1000000 in
theorem stored_nothing (ao : Option Addr) (cap : Nat) (limit cut : Int) (w : World) :
    Calls Tryd.prog 3 #[.slice ao 0 cap, .int .i64 limit, .int .i64 cut] w fun e w' => e = .returned (.bool true) ∧ Below w.heap.size w w' := by
  go_enter Tryd.func3, Tryd.ntmps3
  go_wp2_with fail
  refine (inflates_true _).mono ?_
  rintro e w1 ⟨rfl, b1⟩
  go_wp2_with fail
  go_loopw [11] (fun i wr => i = .int .i64 0 ∧ wr = w1) (fun _ _ => 0)
  case atStart => exact ⟨rfl, rfl⟩
  case round =>
    obtain ⟨rfl, rfl⟩ := hrel
    go_wp2_with fail
    go_ret
    exact ⟨rfl, b1⟩

theorem blks_length (xs : List ByteArray) : (blksOf xs).length = min xs.length 20 := by simp [blksOf]; omega
theorem blks_get (xs : List ByteArray) (k : Nat) (h : k < (blksOf xs).length) (hk : k < xs.length) : (blksOf xs)[k] = xs[k].data.toList.take 2000 := by
  simp [blksOf]

theorem next_S {xs : List ByteArray} {S W : List UInt8} {k N : Nat} (hN : (blksOf xs).length = N) (hk : k < N) {Y : ByteArray} (hY : Y.data.toList = (blksOf xs)[k])
    (hse : S ++ enc ((blksOf xs).drop k) = enc (blksOf xs)) (hwe : W ++ ((blksOf xs).drop k).flatten = (blksOf xs).flatten) :
    (S ++ (headOf (decide (k + 1 = N)) Y.size ++ Y.data.toList)) ++ enc ((blksOf xs).drop (k + 1)) = enc (blksOf xs) ∧ (W ++ Y.data.toList) ++ ((blksOf xs).drop (k + 1)).flatten = (blksOf xs).flatten := by
  have hd : (blksOf xs).drop k = (blksOf xs)[k] :: (blksOf xs).drop (k + 1) := List.drop_eq_getElem_cons (by omega)
  have hl : Y.size = (blksOf xs)[k].length := by rw [← hY, Array.length_toList]; rfl
  have hf : ((blksOf xs).drop (k + 1)).isEmpty = decide (k + 1 = N) := by
    rw [Bool.eq_iff_iff]
    simp
    omega
  rw [hd] at hse hwe
  constructor
  · rw [← hse]
    simp only [enc, hf]
    rw [hY, hl]
    simp only [List.append_assoc]
  · rw [← hwe, hY]
    simp only [List.flatten_cons, List.append_assoc]

theorem ofNat_nat (n : Nat) : UInt8.ofNat ((n : Int).toNat) = UInt8.ofNat n := by simp

theorem join_S (S : List UInt8) (flag : Bool) (Y : ByteArray) (hY : Y.size ≤ 2000) :
    (⟨S.toArray⟩ ++ strOfNums [if flag then 1 else 0, (Y.size : Int) % 256, (Y.size : Int) / 256, 255 - (Y.size : Int) % 256, 255 - (Y.size : Int) / 256] ++ Y : ByteArray) = ⟨(S ++ (headOf flag Y.size ++ Y.data.toList)).toArray⟩ := by
  have e1 : ((Y.size : Int) % 256).toNat = Y.size % 256 := by omega
  have e2 : ((Y.size : Int) / 256).toNat = Y.size / 256 := by omega
  have e3 : (255 - (Y.size : Int) % 256).toNat = 255 - Y.size % 256 := by omega
  have e4 : (255 - (Y.size : Int) / 256).toNat = 255 - Y.size / 256 := by omega
  apply ByteArray.ext
  simp only [ByteArray.data_append, strOfNums, headOf, List.map_cons, List.map_nil, e1, e2, e3, e4]
  cases flag <;> simp

theorem join_W (W : List UInt8) (Y : ByteArray) : (⟨W.toArray⟩ ++ Y : ByteArray) = ⟨(W ++ Y.data.toList).toArray⟩ := by
  apply ByteArray.ext
  simp [ByteArray.data_append]

/-- Five bytes made into a text. -/
theorem conv5 (a b c d e : Int) (w : World) :
    (convert 25 9 (.slice (some ⟨w.heap.size, 0, none⟩) 5 5)).run Tryd.prog (w.alloc (.cells #[.int .u8 a, .int .u8 b, .int .u8 c, .int .u8 d, .int .u8 e] 5)) =
      .ok (.string (strOfNums [a, b, c, d, e])) (w.alloc (.cells #[.int .u8 a, .int .u8 b, .int .u8 c, .int .u8 d, .int .u8 e] 5)) := by
  refine run_convert_bytes_arg _ 25 5 Tryd.underlying25 Tryd.underlying5 w.heap.size 0 5 5 [a, b, c, d, e] rfl ?_ 9 Tryd.underlying9
  intro i hi
  rw [cell_of_heap (heap_alloc_new w _)]
  match i, hi with
  | 0, _ => rfl
  | 1, _ => rfl
  | 2, _ => rfl
  | 3, _ => rfl
  | 4, _ => rfl

/-- spool.Inflate of stored blocks. -/
theorem inflate_told (b o n c : Nat) (lim : Int) (I : List UInt8) (blks : List (List UInt8)) (w : World) (hn : I.length = n)
    (hl : I.length ≤ maxLen) (hb : b < w.heap.size) (hI : Lies w b o I)
    (hne : blks ≠ []) (hr : Reads I 0 blks) (hx : ∀ x ∈ blks, x.length ≤ 2000) (hl0 : 0 ≤ lim) (hlim : lim ≤ 60000) :
    Calls Tryd.prog 8 #[.slice (some ⟨b, o, none⟩) n c, .int .i64 lim] w (Told w lim I blks) := by
  subst hn
  refine inflate_of _ lim w _ (stream_any b o c lim I blks w hl hb hI hne hr hx hl0 hlim) ?_
  intro e w' h
  rcases h with ⟨_, _, ov, h, _⟩ | ⟨_, h, _⟩ | ⟨_, h, _⟩
  · exact ⟨_, _, _, h⟩
  · exact ⟨_, _, _, h⟩
  · exact ⟨_, _, _, h⟩

theorem lies_row (w : World) (s : ByteArray) (cap : Nat) (fr : Nat × Nat) : Lies (w.alloc (.cells (bytesRow s cap) 5 fr)).drew w.heap.size 0 s.data.toList := by
  intro i hi
  have hh : (w.alloc (.cells (bytesRow s cap) 5 fr)).drew.heap[w.heap.size]? = some (.cells (bytesRow s cap) 5 fr) := heap_alloc_new w _
  rw [cell_of_heap hh, Nat.zero_add]
  have hi' : i < s.data.size := by simpa using hi
  simp only [bytesRow]
  rw [Array.getElem?_append_left (by simpa using hi'), Array.getElem?_map]
  simp only [List.getD, Array.getElem?_toList]
  rw [Array.getElem?_eq_getElem hi']
  rfl

theorem reads_app (blks : List (List UInt8)) (behind : List UInt8) : Reads (enc blks ++ behind) 0 blks := by
  intro i hi _
  rw [Nat.zero_add]
  exact getD_app_left _ _ _ hi

theorem reads_take (blks : List (List UInt8)) (n : Nat) : Reads ((enc blks).take n) 0 blks := by
  intro i hi h
  rw [Nat.zero_add] at h ⊢
  simp only [List.length_take] at h
  simp only [List.getD, List.getElem?_take]
  rw [if_pos (by omega)]

theorem blks_short (xs : List ByteArray) : ∀ x ∈ blksOf xs, x.length ≤ 2000 := by
  intro x hx
  simp only [blksOf, List.mem_map] at hx
  obtain ⟨y, _, rfl⟩ := hx
  exact List.length_take_le _ _

/-- A nil list is nil. -/
theorem eql_nil (w : World) : (binOp .eql 25 (.slice none 0 0) (.slice none 0 0)).run Tryd.prog w = .ok (.bool true) w := by
  have := Lib.run_eql_slice_nil (P := Tryd.prog) w 25 5 none 0 0 0 0 Tryd.underlying25
  simpa using this

theorem take_of_extract (X : ByteArray) : (X.extract 0 2000).data.toList = X.data.toList.take 2000 := by
  rw [ByteArray.data_extract, Array.toList_extract]
  simp only [List.extract_eq_take_drop, List.drop_zero, Nat.sub_zero]

set_option maxRecDepth 100000 in
set_option maxHeartbeats 2000000 in
theorem stored_some (b o len cap : Nat) (limit cut : Int) (xs : List ByteArray) (w : World) (hlen : xs.length = len) (hpos : 0 < len) (hmax : len ≤ maxLen) (hb : b < w.heap.size) (hlim : -9223372036854775808 ≤ limit ∧ limit ≤ 9223372036854775807) (hcut : -9223372036854775808 ≤ cut ∧ cut ≤ 9223372036854775807)
    (hc : ∀ i (hi : i < xs.length), w.cell? ⟨b, o + i, none⟩ = some (.string xs[i])) (hx : ∀ x ∈ xs, x.size ≤ maxLen) :
    Calls Tryd.prog 3 #[.slice (some ⟨b, o, none⟩) len cap, .int .i64 limit, .int .i64 cut] w fun e w' => e = .returned (.bool true) ∧ Below w.heap.size w w' := by
  unfold maxLen at hmax
  have HLEN : Hid (xs.length = len) := hlen; clear hlen
  obtain ⟨N, hN⟩ : ∃ N : Nat, N = min len 20 := ⟨_, rfl⟩
  have hN1 : N ≤ len := by omega
  have hN2 : N ≤ 20 := by omega
  have hN3 : 0 < N := by omega
  have hmin : (if (20 : Int) < (len : Int) then (20 : Int) else (len : Int)) = (N : Int) := by split <;> omega
  have HNN : Hid (N = min len 20) := hN; clear hN
  go_enter Tryd.func3, Tryd.ntmps3
  go_wp2_with fail
  refine (inflates_true _).mono ?_
  rintro e w1 ⟨rfl, b1⟩
  go_wp2_with fail
  go_loopw [8, 9, 11] (fun sv wv i wr => ∃ (k : Nat) (S W : List UInt8), k ≤ N ∧ i = .int .i64 k ∧ sv = .string ⟨S.toArray⟩ ∧ wv = .string ⟨W.toArray⟩ ∧ S.length ≤ k * 2005 ∧ W.length ≤ k * 2000 ∧ Hid (S ++ enc ((blksOf xs).drop k) = enc (blksOf xs)) ∧ Hid (W ++ ((blksOf xs).drop k).flatten = (blksOf xs).flatten) ∧ Below w.heap.size w wr) (fun _ _ i _ => N - (intOf i).toNat)
  case atStart => exact ⟨0, [], [], by omega, rfl, rfl, rfl, by simp, by simp, rfl, rfl, b1⟩
  case round =>
    obtain ⟨k, S, W, hk, rfl, rfl, rfl, hS, hW, hse, hwe, hbw⟩ := hrel
    by_cases hlt : k < N
    · have hkx : k < xs.length := by rw [HLEN.out]; omega
      have hcell := (hbw.cell (p := ⟨b, o + k, none⟩) hb).trans (hc k hkx)
      have hX := hx xs[k] (List.getElem_mem hkx)
      unfold maxLen at hX
      generalize hXX : xs[k] = X at hcell hX
      have HXX : Hid _ := hXX; clear hXX
      have hcv := conv5
      have hss := strOfNums_size
      have hS2 : S.length ≤ 40100 := by omega
      have hW2 : W.length ≤ 40000 := by omega
      have hNb : (blksOf xs).length = N := by rw [blks_length, HLEN.out, HNN.out]
      have hkb : k < (blksOf xs).length := by rw [hNb]; exact hlt
      have HNb : Hid ((blksOf xs).length = N) := hNb; clear hNb
      obtain ⟨Y, HY, hYn, hcase⟩ : ∃ Y : ByteArray, Hid (Y.data.toList = (blksOf xs)[k]) ∧ Y.size ≤ 2000 ∧ ((2000 < X.size ∧ X.extract 0 2000 = Y) ∨ (X.size ≤ 2000 ∧ X = Y)) := by
        have hg := blks_get xs k hkb hkx
        rw [HXX.out] at hg
        by_cases hbig : 2000 < X.size
        · exact ⟨X.extract 0 2000, by rw [hg]; exact take_of_extract X, by rw [ByteArray.size_extract]; omega, Or.inl ⟨hbig, rfl⟩⟩
        · refine ⟨X, ?_, by omega, Or.inr ⟨by omega, rfl⟩⟩
          rw [hg, List.take_of_length_le (by rw [Array.length_toList]; exact Nat.not_lt.1 hbig)]
          exact rfl
      obtain ⟨g1, g2⟩ := next_S HNb.out hlt HY.out hse.out hwe.out
      have G1 : Hid _ := g1; clear g1
      have G2 : Hid _ := g2; clear g2
      rcases hcase with ⟨hbig, hY⟩ | ⟨hbig, rfl⟩
      · clear HXX
        by_cases hlast : k + 1 = N
        · have hfl : ((k : Int) == (N : Int) - 1) = true := by simp; omega
          go_wp2_with fail
          go_roundw
          case rel =>
            refine ⟨k + 1, _, _, by omega, by go_num, congrArg Value.string (join_S S true Y hYn), congrArg Value.string (join_W W Y), ?_, ?_, ?_, G2.out, hbw.alloc (hbw.size) _⟩
            · simp [head_length]; omega
            · simp; omega
            · have := G1.out
              rw [decide_eq_true hlast] at this
              exact this
          case measure => simp [intOf]; omega
        · have hfl : ((k : Int) == (N : Int) - 1) = false := by simp; omega
          go_wp2_with fail
          go_roundw
          case rel =>
            refine ⟨k + 1, _, _, by omega, by go_num, congrArg Value.string (join_S S false Y hYn), congrArg Value.string (join_W W Y), ?_, ?_, ?_, G2.out, hbw.alloc (hbw.size) _⟩
            · simp [head_length]; omega
            · simp; omega
            · have := G1.out
              rw [decide_eq_false hlast] at this
              exact this
          case measure => simp [intOf]; omega
      · clear HXX
        by_cases hlast : k + 1 = N
        · have hfl : ((k : Int) == (N : Int) - 1) = true := by simp; omega
          go_wp2_with fail
          go_roundw
          case rel =>
            refine ⟨k + 1, _, _, by omega, by go_num, congrArg Value.string (join_S S true X hYn), congrArg Value.string (join_W W X), ?_, ?_, ?_, G2.out, hbw.alloc (hbw.size) _⟩
            · simp [head_length]; omega
            · simp; omega
            · have := G1.out
              rw [decide_eq_true hlast] at this
              exact this
          case measure => simp [intOf]; omega
        · have hfl : ((k : Int) == (N : Int) - 1) = false := by simp; omega
          go_wp2_with fail
          go_roundw
          case rel =>
            refine ⟨k + 1, _, _, by omega, by go_num, congrArg Value.string (join_S S false X hYn), congrArg Value.string (join_W W X), ?_, ?_, ?_, G2.out, hbw.alloc (hbw.size) _⟩
            · simp [head_length]; omega
            · simp; omega
            · have := G1.out
              rw [decide_eq_false hlast] at this
              exact this
          case measure => simp [intOf]; omega
    · have hkN : k = N := by omega
      have hd : (blksOf xs).drop k = [] := List.drop_of_length_le (by rw [blks_length, HLEN.out, ← HNN.out]; omega)
      have hS1 := hse.out
      have hW1 := hwe.out
      rw [hd] at hS1 hW1
      simp only [enc, List.flatten_nil, List.append_nil] at hS1 hW1
      subst hkN
      have HS1 : Hid _ := hS1; clear hS1
      have HW1 : Hid _ := hW1; clear hW1
      clear hd
      have hcs := fun (s : ByteArray) (w : World) => run_bytes_of_string w 9 25 5 s Tryd.underlying9 Tryd.underlying25 Tryd.underlying5
      have hS2 : S.length ≤ 40100 := by omega
      have hW2 : W.length ≤ 40000 := by omega
      go_wp2_with fail
      refine (pick_any limit 60001 _ hlim (by omega) (by omega)).mono ?_
      rintro e w2 ⟨⟨lm, rfl, l0, l1⟩, rfl⟩
      go_wp2_with fail
      have hbe : ({ data := S.toArray } ++ { data := #[98, 101, 104, 105, 110, 100] } : ByteArray).data.toList = S ++ [98, 101, 104, 105, 110, 100] := by
        rw [ByteArray.data_append]; simp
      have hne : blksOf xs ≠ [] := by
        intro h
        have := blks_length xs
        rw [h, HLEN.out] at this
        simp at this
        omega
      refine Calls.mono (inflate_told w2.heap.size 0 (S.length + 6) _ lm (S ++ [98, 101, 104, 105, 110, 100]) (blksOf xs) _ (by simp) (by simp [maxLen]; omega) (by simp) (hbe ▸ lies_row w2 _ _ _) hne (by rw [HS1.out]; exact reads_app _ _) (blks_short xs) l0 (by omega)) ?_
      have hb3 : Below w.heap.size w (w2.alloc (.cells (bytesRow ({ data := S.toArray } ++ { data := #[98, 101, 104, 105, 110, 100] }) (grownCap w2 (S.length + 6) 0 5)) 5 ((bytesRow ({ data := S.toArray } ++ { data := #[98, 101, 104, 105, 110, 100] }) (grownCap w2 (S.length + 6) 0 5)).size, (bytesRow ({ data := S.toArray } ++ { data := #[98, 101, 104, 105, 110, 100] }) (grownCap w2 (S.length + 6) 0 5)).size + 1))).drew := (hbw.alloc hbw.size _).drew
      generalize (w2.alloc (.cells (bytesRow ({ data := S.toArray } ++ { data := #[98, 101, 104, 105, 110, 100] }) (grownCap w2 (S.length + 6) 0 5)) 5 ((bytesRow ({ data := S.toArray } ++ { data := #[98, 101, 104, 105, 110, 100] }) (grownCap w2 (S.length + 6) 0 5)).size, (bytesRow ({ data := S.toArray } ++ { data := #[98, 101, 104, 105, 110, 100] }) (grownCap w2 (S.length + 6) 0 5)).size + 1))).drew = w3 at hb3 ⊢
      rintro e w4 hT
      rcases hT with ⟨h1, h2, ov, rfl, hown, hbel⟩ | ⟨h1, _⟩ | ⟨h1, rfl, hbel⟩
      · rw [← HS1.out]
        rw [← HW1.out] at h2
        have hcv2 := conv_owned hown
        rw [← HW1.out] at hcv2
        have hSp : 0 < S.length := by
          rw [HS1.out]
          cases hbb : blksOf xs with
          | nil => exact absurd hbb hne
          | cons x r => rw [enc_cons_length]; omega
        go_wp2_with fail
        refine (pick_any cut S.length _ hcut (by omega) (by omega)).mono ?_
        rintro e w5 ⟨⟨ct, rfl, t0, t1⟩, rfl⟩
        obtain ⟨cn, rfl⟩ := Int.eq_ofNat_of_zero_le t0
        have hcn : cn < S.length := by omega
        have hsx : ({ data := S.toArray } : ByteArray).extract 0 cn = ⟨(S.take cn).toArray⟩ := by
          apply ByteArray.ext
          rw [ByteArray.data_extract]
          simp
        clear hcv2
        go_wp2_with fail
        have hbw5 : Below w.heap.size w w5 := hb3.trans (hbel.mono hb3.size)
        refine Calls.mono (inflate_told w5.heap.size 0 (min cn S.length) _ lm (S.take cn) (blksOf xs) _ (by simp) (by simp [maxLen]; omega) (by simp) (lies_row w5 ⟨(S.take cn).toArray⟩ _ _) hne (by rw [HS1.out]; exact reads_take _ _) (blks_short xs) l0 (by omega)) ?_
        rintro e w6 hT
        rcases hT with ⟨h4, _⟩ | ⟨h4, rfl, hbel6⟩ | ⟨h4, _⟩
        · rw [← HS1.out] at h4
          simp at h4
          omega
        · have hnil := eql_nil
          have hb6 : Below w.heap.size w w6 := ((hbw5.alloc hbw5.size _).drew).trans (hbel6.mono (by have := hbw5.size; simp; omega))
          clear hbel6
          go_wp2_with fail
          go_ret
          exact ⟨rfl, hb6⟩
        · rw [← HW1.out] at h4
          omega
      · rw [← HS1.out] at h1
        simp at h1
        omega
      · rw [← HW1.out] at h1
        have hnil := eql_nil
        go_wp2_with fail
        go_ret
        exact ⟨rfl, hb3.trans (hbel.mono hb3.size)⟩

end Go.Proofs.YtdpobjgfnhjagaaDoor

namespace Go.Proofs.YtdpobjgfnhjagaaDoor
open Go.RowKit

theorem wpList_append_of {P : Program} {w : World} {ops : Array Oper} {rest : List Oper} {o : Oper} {a : Act} {Q : Exit → Act → World → Prop} (hgd : o.guard = none) (s x : Operand) (t : TypeId)
    (ho : o.op = .call { callee := .builtin .append, args := #[s, x], argTypes := #[t, t] }) (v1 v2 v' : Value) (w' : World) (hs : a.eval s = v1) (hx : a.eval x = v2)
    (hr : (Builtin.append_ #[t, t] o.type #[v1, v2]).run P w = .ok v' w') (h : wpList P ops Q rest (a.put o.dst v') w') : wpList P ops Q (o :: rest) a w :=
  wpList_plain hgd fun _ hK => by
    unfold Oper.wp execOp
    simp only [ho, resolve, invoke, builtin, Sem.run_bind, Sem.run_pure, Result.andThen_ok, List.map_toArray, List.map_cons, List.map_nil, hs, hx, hr]
    exact hK _ _ h

set_option maxRecDepth 100000 in
set_option maxHeartbeats 4000000 in
theorem backed_walk (l : Value) (lev : Int) (w : World)
    (R1 : World → Prop) (R2 : Nat → Nat → Nat → World → Prop) (R3 : Nat → Nat → Nat → Int → World → Prop) (R4 : Nat → Nat → Nat → Nat → Nat → Nat → World → Prop)
    (R5 : Nat → Nat → Nat → Nat → Nat → Nat → Option Addr → Nat → Nat → World → Prop) (R6 : Nat → Nat → Nat → Nat → Nat → Nat → World → Prop) (Q : World → Prop)
    (h9 : Calls Tryd.prog 9 #[] w fun e w1 => e = .returned (.bool true) ∧ R1 w1)
    (h10 : ∀ w1, R1 w1 → Calls Tryd.prog 10 #[l] w1 fun e w2 => ∃ g n c, e = .returned (.slice (some ⟨g, 0, none⟩) n c) ∧ n ≤ 12000 ∧ R2 g n c w2)
    (h7 : ∀ g n c w2, R2 g n c w2 → Calls Tryd.prog 7 #[.int .i64 lev, .int .i64 10] w2 fun e w3 => ∃ r, e = .returned (.int .i64 r) ∧ R3 g n c r w3)
    (h11 : ∀ g n c r w3, R3 g n c r w3 → Calls Tryd.prog 11 #[.slice (some ⟨g, 0, none⟩) n c, .int .i64 r] w3 fun e w4 => ∃ sg m sc, e = .returned (.tuple #[.slice (some ⟨sg, 0, none⟩) m sc, .int .i64 0]) ∧ m ≤ n + 5 ∧ R4 g n c sg m sc w4)
    (hap : ∀ g n c sg m sc w4, R4 g n c sg m sc w4 → ∃ ag al ac w5, (Builtin.append_ #[25, 25] 25 #[.slice (some ⟨sg, 0, none⟩) m sc, .slice (some ⟨w4.heap.size, 0, none⟩) 3 3]).run Tryd.prog (w4.alloc (.cells #[.int .u8 1, .int .u8 2, .int .u8 3] 5)) = .ok (.slice ag al ac) w5 ∧ R5 g n c sg m sc ag al ac w5)
    (h8 : ∀ g n c sg m sc ag al ac w5, R5 g n c sg m sc ag al ac w5 → Calls Tryd.prog 8 #[.slice ag al ac, .int .i64 (n : Int)] w5 fun e w6 => ∃ cv X, e = .returned (.tuple #[cv, .int .i64 (m : Int), .int .i64 0]) ∧ (convert 25 9 cv).run Tryd.prog w6 = .ok (.string X) w6 ∧ (convert 25 9 (.slice (some ⟨g, 0, none⟩) n c)).run Tryd.prog w6 = .ok (.string X) w6 ∧ R6 g n c sg m sc w6)
    (hq0 : ∀ g n c sg m sc w6, R6 g n c sg m sc w6 → Q w6)
    (h8b : ∀ g n c sg m sc w6, 0 < n → R6 g n c sg m sc w6 → Calls Tryd.prog 8 #[.slice (some ⟨sg, 0, none⟩) m sc, .int .i64 ((n : Int) - 1)] w6 fun e w7 => e = .returned (.tuple #[.slice none 0 0, .int .i64 0, .int .i64 4]) ∧ Q w7) :
    Calls Tryd.prog 4 #[l, .int .i64 lev] w fun e w' => e = .returned (.bool true) ∧ Q w' := by
  go_enter Tryd.func4, Tryd.ntmps4
  go_wp2_with fail
  refine h9.mono ?_
  rintro e w1 ⟨rfl, r1⟩
  go_wp2_with fail
  refine (h10 w1 r1).mono ?_
  rintro e w2 ⟨g, n, c, rfl, hn, r2⟩
  clear r1
  have hni : (n : Int) ≤ 12000 := by omega
  go_wp2_with fail
  refine (h7 g n c w2 r2).mono ?_
  rintro e w3 ⟨r, rfl, r3⟩
  clear r2
  go_wp2_with fail
  refine (h11 g n c r w3 r3).mono ?_
  rintro e w4 ⟨sg, m, sc, rfl, hm, r4⟩
  clear r3
  have hmi : ¬ ((n : Int) + 5 < (m : Int)) := by omega
  obtain ⟨ag, al, ac, w5, hrun, r5⟩ := hap g n c sg m sc w4 r4
  clear r4
  have HR : Hid _ := hrun
  clear hrun
  go_wp2_with (at_builtin; refine wpList_append_of rfl (.tmp 34) (.tmp 35) 25 rfl _ _ (.slice ag al ac) w5 rfl rfl HR.out ?go)
  refine (h8 g n c sg m sc ag al ac w5 r5).mono ?_
  rintro e w6 ⟨cv, X, rfl, hc1, hc2, r6⟩
  clear r5
  by_cases hz : n = 0
  · have hzi : (n : Int) = 0 := by omega
    have q := hq0 _ _ _ _ _ _ _ r6
    clear r6 hz
    go_wp2_with fail
    go_ret
    exact ⟨rfl, q⟩
  · have hzi : ¬ ((n : Int) = 0) := by omega
    have h8c := h8b g n c sg m sc w6 (by omega) r6
    clear r6
    have HC : Hid _ := h8c
    clear h8c
    have hw1 : IntKind.i64.wrap ((n : Int) - 1) = (n : Int) - 1 := by rw [IntKind.wrap_i64]; omega
    go_wp2_with fail
    refine Calls.mono HC.out ?_
    rintro e w7 ⟨rfl, q⟩
    have hnil : ∀ w : World, (binOp .eql 25 (.slice none 0 0) (.slice none 0 0)).run Tryd.prog w = .ok (.bool true) w := fun w => by
      have := Lib.run_eql_slice_nil (P := Tryd.prog) w 25 5 none 0 0 0 0 Tryd.underlying25
      simpa using this
    go_wp2_with fail
    go_ret
    exact ⟨rfl, q⟩
end Go.Proofs.YtdpobjgfnhjagaaDoor

namespace Go.Proofs.YtdpobjgfnhjagaaDoor
open Go.RowKit

theorem MadeI.below {base : Nat} {w w' : World} {v : Value} {n : Nat} {bs : List UInt8} (h : MadeI base w v n bs) (hb : Below w.heap.size w w') : MadeI base w' v n bs :=
  ⟨owns_keep h.own (fun g _ hg => hb.block g hg), h.len, h.le⟩

/-- Three bytes behind an own row: the row's bytes stay where they are, too. -/
theorem append_keeps {w : World} {base g m c : Nat} {s : List UInt8} (hown : w.ownsRow base 5 1 (.slice (some ⟨g, 0, none⟩) m c) m (bv8 s)) (hm : m ≤ 100000) (hb : base ≤ w.heap.size) :
    ∃ a ac w', (Builtin.append_ #[25, 25] 25 #[.slice (some ⟨g, 0, none⟩) m c, .slice (some ⟨w.heap.size, 0, none⟩) 3 3]).run Tryd.prog (w.alloc (.cells #[.int .u8 1, .int .u8 2, .int .u8 3] 5)) = .ok (.slice (some ⟨a, 0, none⟩) (m + 3) ac) w' ∧
      w'.ownsRow base 5 1 (.slice (some ⟨a, 0, none⟩) (m + 3) ac) (m + 3) (bv8 (s ++ [1, 2, 3])) ∧ Lies w' g 0 s ∧ Below base w w' := by
  obtain ⟨i0, hinf, hz0, hz1, hz2⟩ := info_parts info5
  have hsl : s.length = m := by have := hown.1; simp [bv8] at this; omega
  have hown1 : (w.alloc (.cells #[.int .u8 1, .int .u8 2, .int .u8 3] 5)).ownsRow base 5 1 (.slice (some ⟨g, 0, none⟩) m c) m (bv8 s) := owns_keep hown (fun g _ hg => heap_alloc_old hg _)
  have hnew := heap_alloc_new w (.cells #[.int .u8 1, .int .u8 2, .int .u8 3] 5)
  have hnews : ∀ j u, [Value.int .u8 1, .int .u8 2, .int .u8 3][j]? = some u → (w.alloc (.cells #[.int .u8 1, .int .u8 2, .int .u8 3] 5)).cell? ((⟨w.heap.size, 0, none⟩ : Addr).add j) = some u := by
    intro j u hj
    rw [show ((⟨w.heap.size, 0, none⟩ : Addr).add j) = ⟨w.heap.size, j, none⟩ by simp [Addr.add]; intro h; exact h.symm, cell_of_heap hnew]
    match j, hj with
    | 0, hj => exact hj
    | 1, hj => exact hj
    | 2, hj => exact hj
  obtain ⟨v', w', hrun, hown', hgrow, _⟩ := run_append_own (P := Tryd.prog) (w.alloc (.cells #[.int .u8 1, .int .u8 2, .int .u8 3] 5)) base 25 25 5 i0 (.int .u8 0) 1 1 underlying25 hinf hz0 hz1 hz2 rfl (by decide) _ m (bv8 s) hown1 ⟨w.heap.size, 0, none⟩ 3 3 [.int .u8 1, .int .u8 2, .int .u8 3] rfl hnews (by intro u hu; simp at hu; rcases hu with rfl | rfl | rfl <;> rfl) (by unfold maxLen; omega) (by omega) (by simp; omega)
  have e : bv8 s ++ [Value.int .u8 1, .int .u8 2, .int .u8 3] = bv8 (s ++ [1, 2, 3]) := by simp [bv8]
  rw [e] at hown'
  obtain ⟨a, ac, rfl⟩ : ∃ a ac, v' = .slice (some ⟨a, 0, none⟩) (m + 3) ac := by
    rcases hown'.2 with ⟨_, h⟩ | ⟨a, ac, _, h, _⟩
    · omega
    · exact ⟨a, ac, h⟩
  have hbel : Below base w w' := ((Below.refl base w).alloc hb _).grown hgrow (by simp; omega) (fun k hk => (owns_block hown hk).1)
  refine ⟨a, ac, w', hrun, hown', ?_, hbel⟩
  have hold : ∀ i, i < s.length → w.cell? ⟨g, i, none⟩ = some (.int .u8 ((s.getD i 0).toNat : Int)) := fun i hi => by
    rw [own_cell hown i (by omega)]; simp [bv8, hi]
  intro i hi
  rw [Nat.zero_add]
  rcases hown1.2 with ⟨h, _⟩ | ⟨g2, cap, cur, h, hbg, hg, hnc, hcm, hcs, htake⟩
  · cases h
  · simp at h
    obtain ⟨rfl, rfl⟩ := h
    by_cases hroom : m + 3 ≤ c
    · have hr := run_append_room (P := Tryd.prog) (w.alloc (.cells #[.int .u8 1, .int .u8 2, .int .u8 3] 5)) 25 25 5 i0 underlying25 hinf g m c cur hg ⟨w.heap.size, 0, none⟩ 3 3 [.int .u8 1, .int .u8 2, .int .u8 3] (by rw [hz1]; rfl) hnews (by intro u hu; simp at hu; rcases hu with rfl | rfl | rfl <;> rfl) hroom (by rw [hz1]; simp; omega)
      rw [hrun] at hr
      simp at hr
      obtain ⟨⟨rfl, rfl⟩, _⟩ := hr
      rw [own_cell hown' i (by omega)]
      have : i < (s ++ [1, 2, 3]).length := by simp; omega
      have e2 : bv8 (s ++ [1, 2, 3]) = bv8 s ++ bv8 [1, 2, 3] := by simp [bv8]
      have hb8 : (bv8 s).length = s.length := by simp [bv8]
      rw [e2, List.getElem?_append_left (by omega)]
      simp [bv8, hi]
    · have hne : w'.heap[g]? = (w.alloc (.cells #[.int .u8 1, .int .u8 2, .int .u8 3] 5)).heap[g]? := by
        have hr := run_append_grow (P := Tryd.prog) (w.alloc (.cells #[.int .u8 1, .int .u8 2, .int .u8 3] 5)) 25 25 5 i0 (.int .u8 0) underlying25 hinf hz0 ⟨g, 0, none⟩ m c (bv8 s) (by rw [hz1]; exact hown.1) (hown1.cells (g := g) rfl) ⟨w.heap.size, 0, none⟩ 3 3 [.int .u8 1, .int .u8 2, .int .u8 3] (by rw [hz1]; rfl) hnews (by omega) (by omega) (by rw [hz2]; exact growslice_fits (by omega) (by omega))
        rw [hrun] at hr
        simp only [Result.ok.injEq] at hr
        rw [hr.2]
        exact heap_alloc_old (by have := lt_of_heap hg; simpa using this) _
      have hgl : g < w.heap.size := (owns_block hown rfl).2
      rw [World.cell?_of_block (hne.trans (heap_alloc_old hgl _))]
      exact hold i hi
theorem Lies.of_own {w : World} {base g n c : Nat} {s : List UInt8} (h : w.ownsRow base 5 1 (.slice (some ⟨g, 0, none⟩) n c) n (bv8 s)) (hn : s.length = n) : Lies w g 0 s := by
  intro i hi
  rw [Nat.zero_add, own_cell h i (by omega)]
  simp [bv8, hi]
theorem Lies.below {w w' : World} {B g o : Nat} {s : List UInt8} (h : Lies w g o s) (hb : Below B w w') (hg : g < B) : Lies w' g o s :=
  fun i hi => (hb.cell (p := ⟨g, o + i, none⟩) hg).trans (h i hi)

/-- What made() answers. -/
def Made10 (l : Value) (w0 : World) : Prop :=
  ∀ w1, Below w0.heap.size w0 w1 → Calls Tryd.prog 10 #[l] w1 fun e w2 => ∃ g n c bs, e = .returned (.slice (some ⟨g, 0, none⟩) n c) ∧ MadeI w1.heap.size w2 (.slice (some ⟨g, 0, none⟩) n c) n bs ∧ Below w1.heap.size w1 w2

/-- The stream, and what it is of. -/
structure BkI (w0 : World) (g n c sg m sc : Nat) (w : World) (bs s : List UInt8) : Prop where
  made : MadeI w0.heap.size w (.slice (some ⟨g, 0, none⟩) n c) n bs
  b : Below w0.heap.size w0 w
  lies : Lies w sg 0 s
  sg : sg < w.heap.size
  len : s.length = m
  le : m ≤ n + 5
  str : StrOf bs s
theorem BkI.below {w0 : World} {g n c sg m sc : Nat} {w w' : World} {bs s : List UInt8} (h : BkI w0 g n c sg m sc w bs s) (hb : Below w.heap.size w w') : BkI w0 g n c sg m sc w' bs s :=
  ⟨h.made.below hb, h.b.trans (hb.mono h.b.size), h.lies.below hb h.sg, Nat.lt_of_lt_of_le h.sg hb.size, h.len, h.le, h.str⟩

theorem backed_any (l : Value) (lev : Int) (w : World) (hlev : -9223372036854775808 ≤ lev ∧ lev ≤ 9223372036854775807) (hO : OrdAt w) (h0 : 0 < w.heap.size) (hl : Made10 l w) :
    Calls Tryd.prog 4 #[l, .int .i64 lev] w fun e w' => e = .returned (.bool true) ∧ Below w.heap.size w w' := by
  refine backed_walk l lev w
    (fun w1 => Below w.heap.size w w1)
    (fun g n c w2 => ∃ bs, MadeI w.heap.size w2 (.slice (some ⟨g, 0, none⟩) n c) n bs ∧ Below w.heap.size w w2)
    (fun g n c r w3 => ∃ bs, (∃ k : Nat, r = (k : Int) ∧ k ≤ 9) ∧ MadeI w.heap.size w3 (.slice (some ⟨g, 0, none⟩) n c) n bs ∧ Below w.heap.size w w3)
    (fun g n c sg m sc w4 => ∃ bs s base, BkI w g n c sg m sc w4 bs s ∧ g < base ∧ w.heap.size ≤ base ∧ base ≤ w4.heap.size ∧ w4.ownsRow base 5 1 (.slice (some ⟨sg, 0, none⟩) m sc) m (bv8 s))
    (fun g n c sg m sc ag al ac w5 => ∃ bs s a, BkI w g n c sg m sc w5 bs s ∧ ag = some ⟨a, 0, none⟩ ∧ al = (s ++ [1, 2, 3]).length ∧ Lies w5 a 0 (s ++ [1, 2, 3]) ∧ a < w5.heap.size)
    (fun g n c sg m sc w6 => ∃ bs s, BkI w g n c sg m sc w6 bs s)
    (fun w' => Below w.heap.size w w') ?_ ?_ ?_ ?_ ?_ ?_ ?_ ?_
  · exact deflates_true w hO h0
  · intro w1 hb1
    refine (hl w1 hb1).mono ?_
    rintro e w2 ⟨g, n, c, bs, rfl, hM, hb2⟩
    have := hb1.size
    exact ⟨g, n, c, rfl, hM.le, bs, ⟨owns_low hM.own (by omega), hM.len, hM.le⟩, hb1.trans (hb2.mono hb1.size)⟩
  · rintro g n c w2 ⟨bs, hM, hb2⟩
    refine (pick_big lev 10 w2 hlev (by omega) (by omega)).mono ?_
    rintro e w3 ⟨⟨r, rfl, hr0, hr1⟩, rfl⟩
    exact ⟨r, rfl, bs, ⟨r.toNat, by omega, by omega⟩, hM, hb2⟩
  · rintro g n c r w3 ⟨bs, ⟨k, rfl, hk⟩, hM, hb3⟩
    have hbl := hM.len
    have hle := hM.le
    have hg : g < w3.heap.size := (owns_block hM.own rfl).2
    have hD := deflate_any g 0 c k bs w3 (Lies.of_own hM.own hbl) hg (by omega) hk (hO.below hb3 h0)
    rw [hbl] at hD
    refine hD.mono ?_
    rintro e w4 ⟨v, rfl, s, hs, hown, hb4⟩
    have hp := hs.str.pos
    obtain ⟨sg, sc, rfl⟩ : ∃ sg sc, v = .slice (some ⟨sg, 0, none⟩) s.length sc := by
      rcases hown.2 with ⟨_, h⟩ | ⟨sg, sc, _, h, _⟩
      · omega
      · exact ⟨sg, sc, h⟩
    have hl2 := hs.le
    exact ⟨sg, s.length, sc, rfl, by omega, bs, s, w3.heap.size, ⟨hM.below hb4, hb3.trans (hb4.mono hb3.size), Lies.of_own hown rfl, (owns_block hown rfl).2, rfl, by omega, hs.str⟩, hg, hb3.size, hb4.size, hown⟩
  · rintro g n c sg m sc w4 ⟨bs, s, base, hI, hgb, hwb, hb4, hown⟩
    have hle := hI.made.le
    have hle2 := hI.le
    obtain ⟨a, ac, w5, hrun, hown5, hL5, hb5⟩ := append_keeps hown (by omega) hb4
    have hm3 : (s ++ [1, 2, 3]).length = m + 3 := by rw [List.length_append, hI.len]; rfl
    refine ⟨some ⟨a, 0, none⟩, m + 3, ac, w5, hrun, bs, s, a, ⟨⟨?_, hI.made.len, hle⟩, hI.b.trans (hb5.mono hwb), hL5, Nat.lt_of_lt_of_le hI.sg hb5.size, hI.len, hle2, hI.str⟩, rfl, hm3.symm, Lies.of_own hown5 hm3, (owns_block hown5 rfl).2⟩
    exact owns_keep hI.made.own (fun q hq _ => by
      simp [Value.ownBlock] at hq
      exact hb5.block q (by omega))
  · rintro g n c sg m sc ag al ac w5 ⟨bs, s, a, hI, rfl, rfl, hL, ha⟩
    have hle := hI.made.le
    have hle2 := hI.le
    have hln := hI.made.len
    have hsl := hI.len
    refine (inflate_says a 0 _ ac (n : Int) (s ++ [1, 2, 3]) w5 rfl (by unfold maxLen; rw [List.length_append]; simp; omega) ha hL (hO.below hI.b h0) (by omega) (by omega)).mono ?_
    rw [hI.str [1, 2, 3] (n : Int) (by omega), if_pos (by omega)]
    rintro e w6 ⟨(⟨out, k, ov, h, rfl, ho⟩ | ⟨x, h, _⟩), hb6⟩
    · simp only [Except.ok.injEq, Prod.mk.injEq] at h
      obtain ⟨rfl, rfl⟩ := h
      have hI6 := hI.below hb6
      have hc2 := hI6.made.own
      rw [← hln] at hc2
      have hc3 := conv_owned hc2
      rw [hln] at hc3
      exact ⟨ov, _, by rw [hsl], conv_owned ho, hc3, bs, s, hI6⟩
    · cases h
  · rintro g n c sg m sc w6 ⟨bs, s, hI⟩
    exact hI.b
  · rintro g n c sg m sc w6 hn ⟨bs, s, hI⟩
    have hle := hI.made.le
    have hle2 := hI.le
    have hln := hI.made.len
    have hsl := hI.len
    have hs := hI.str [] ((n : Int) - 1) (by omega)
    rw [List.append_nil, if_neg (by omega)] at hs
    refine (inflate_says sg 0 m sc ((n : Int) - 1) s w6 hsl (by unfold maxLen; omega) hI.sg hI.lies (hO.below hI.b h0) (by omega) (by omega)).mono ?_
    rw [hs]
    rintro e w7 ⟨(⟨out, k, ov, h, _, _⟩ | ⟨x, h, rfl⟩), hb7⟩
    · cases h
    · simp only [Except.error.injEq] at h
      subst h
      exact ⟨rfl, hI.b.trans (hb7.mono hI.b.size)⟩
end Go.Proofs.YtdpobjgfnhjagaaDoor

