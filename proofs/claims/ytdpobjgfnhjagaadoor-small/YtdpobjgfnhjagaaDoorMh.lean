import Derived.Test.YtdpobjgfnhjagaaDoorMg
import Derived.Lib.SlBytesConst
namespace Go.Proofs.YtdpobjgfnhjagaaDoor
open Go.RowKit

/-- Tokens as a value: none, or a row of them. -/
def TokV (w : World) (T : Value) (ts : List GT) : Prop := (T = .slice none 0 0 ∧ ts = []) ∨ ∃ g cap, T = .slice (some ⟨g, 0, none⟩) ts.length cap ∧ TkAt w g ts
theorem TokV.below {w w' : World} {T : Value} {ts : List GT} (h : TokV w T ts) (hb : Below w.heap.size w w') : TokV w' T ts := by
  rcases h with h | ⟨g, cap, e, h⟩
  · exact Or.inl h
  · exact Or.inr ⟨g, cap, e, h.below hb h.lt⟩
theorem TokV.of_owns {w : World} {base n : Nat} {v : Value} {ts : List GT} (h : w.ownsRow base 64 3 v n (tkC ts)) (hn : ts.length = n) : TokV w v ts := by
  rcases h.2 with ⟨h1, h2⟩ | ⟨g, cap, cur, hv, _⟩
  · exact Or.inl ⟨h1, List.length_eq_zero_iff.1 (by omega)⟩
  · subst hv
    exact Or.inr ⟨g, cap, by rw [hn], (TkAt.of_owns h).1⟩
theorem TokV.slice {w : World} {T : Value} {ts : List GT} (h : TokV w T ts) : ∃ ta tn tc, T = .slice ta tn tc := by
  rcases h with ⟨h, _⟩ | ⟨g, cap, e, _⟩
  · exact ⟨_, _, _, h⟩
  · exact ⟨_, _, _, e⟩
theorem TokV.cnt {w : World} {T : Value} {ts : List GT} (h : TokV w T ts) (hn : ts.length ≤ 30000) (hok : ∀ t ∈ ts, gtOk t) : CntOf T ts w := by
  rcases h with ⟨rfl, rfl⟩ | ⟨g, cap, rfl, h⟩
  · exact counts_nil w
  · exact counts_any g ts.length cap ts w h rfl hn hok
theorem TokV.put {w : World} {T : Value} {ts : List GT} (h : TokV w T ts) (hn : ts.length ≤ 30000) : PutOf T ts w := by
  rcases h with ⟨rfl, rfl⟩ | ⟨g, cap, rfl, h⟩
  · intro B gl gw cl cw dl dw ecl ecw L D bs w' _ _ ho EL ED _ h256 he hl
    exact tokens_nil B gl 0 gw cl cw dl 0 dw ecl ecw L D bs w' ho EL ED h256 he hl
  · intro B gl gw cl cw dl dw ecl ecw L D bs w' hb hB ho EL ED hok h256 he hl
    have := h.lt
    exact tokens_put B gl 0 gw cl cw dl 0 dw ecl ecw g ts.length cap L D bs ts w' ho EL ED (h.below hb h.lt) (by omega) rfl hn hok h256 he hl
theorem TokV.fixed {w : World} {T : Value} {ts : List GT} (h : TokV w T ts) (hn : ts.length ≤ 30000) (hok : ∀ t ∈ ts, gtOk t) :
    Calls Tryd.prog 20 #[T] w fun e w' => ∃ ov, e = .returned ov ∧ w'.ownsRow (w.heap.size + 1) 5 1 ov (pack (fixedBits (ts.map toTok))).length (bv8 (pack (fixedBits (ts.map toTok)))) ∧ Below w.heap.size w w' := by
  rcases h with ⟨rfl, rfl⟩ | ⟨g, cap, rfl, h⟩
  · exact fixed_nil w
  · exact fixed_any g ts.length cap ts w h rfl hn hok
theorem TokV.dynamic {w : World} {T : Value} {ts : List GT} (h : TokV w T ts) (hn : ts.length ≤ 30000) (hok : ∀ t ∈ ts, gtOk t) (hO : OrdAt w) (h0 : 0 < w.heap.size) :
    Calls Tryd.prog 21 #[T] w fun e w' => ∃ v, e = .returned v ∧ ∃ bits, DynW ts bits ∧ (∀ x ∈ bits, x < 2) ∧ w'.ownsRow (w.heap.size + 1) 5 1 v (pack bits).length (bv8 (pack bits)) ∧ Below w.heap.size w w' :=
  dynamic_of T ts w (h.cnt hn hok) (h.put hn) hn hok hO h0

/-- A stream of b. -/
def StrOf (b s : List UInt8) : Prop := ∀ (rest : List UInt8) (lim : Int), 0 ≤ lim → inflE (s ++ rest) lim = if (b.length : Int) ≤ lim then .ok (b, s.length) else .error 4

/-- Tokens of which b comes out. -/
structure TsR (b : List UInt8) (ts : List GT) : Prop where
  ok : ∀ t ∈ ts, gtOk t
  dist : distsOk (ts.map toTok) []
  ex : toksEx (ts.map toTok) [] = b
  cnt : ts.length ≤ b.length
theorem TsI.r {b : List UInt8} {ts : List GT} (h : TsI b b.length ts) : TsR b ts := ⟨h.ok, h.dist, by rw [h.ex, List.take_length], h.cnt⟩

theorem toks_says {b : List UInt8} {ts : List GT} (h : TsR b ts) (lim : Int) (h0 : 0 ≤ lim) : toksOut lim (ts.map toTok) [] = if (b.length : Int) ≤ lim then .ok b else .error 4 := by
  have e : toksEx (ts.map toTok) [] = b := h.ex
  by_cases c : (b.length : Int) ≤ lim
  · rw [if_pos c, toksOut_ok lim _ _ h.dist (by rw [e]; exact c), e]
  · rw [if_neg c, toksOut_full lim _ _ h.dist (by simpa using h0) (by rw [e]; omega)]
theorem lsb_two (n : Nat) : ∀ (v x : Nat), x ∈ lsb n v → x < 2 := by
  induction n with
  | zero => intro v x h; simp [lsb] at h
  | succ n ih =>
    intro v x h
    simp only [lsb, List.mem_cons] at h
    rcases h with rfl | h
    · omega
    · exact ih _ _ h
theorem msb_two (n : Nat) : ∀ (v x : Nat), x ∈ msb n v → x < 2 := by
  induction n with
  | zero => intro v x h; simp [msb] at h
  | succ n ih =>
    intro v x h
    simp only [msb, List.mem_cons] at h
    rcases h with rfl | h
    · omega
    · exact ih _ _ h
theorem toks_two (L D : List Nat) (ts : List Tok) : ∀ x ∈ toksBits L D ts, x < 2 := by
  induction ts with
  | nil => intro x h; simp [toksBits] at h
  | cons t r ih =>
    intro x h
    simp only [toksBits, tokBits, List.mem_append] at h
    rcases h with (h | h) | h
    · exact msb_two _ _ _ h
    · by_cases c : t.s < 256
      · rw [if_pos c] at h; simp at h
      · rw [if_neg c] at h
        simp only [List.mem_append] at h
        rcases h with h | h | h
        · exact lsb_two _ _ _ h
        · exact msb_two _ _ _ h
        · exact lsb_two _ _ _ h
    · exact ih x h
theorem fixed_two (ts : List Tok) : ∀ x ∈ fixedBits ts, x < 2 := by
  intro x h
  simp only [fixedBits, headBits, List.mem_append, List.mem_cons] at h
  rcases h with (rfl | h) | h | h
  · omega
  · exact lsb_two _ _ _ h
  · exact toks_two _ _ _ _ h
  · exact msb_two _ _ _ h

theorem str_fixed {b : List UInt8} {ts : List GT} (h : TsR b ts) : StrOf b (pack (fixedBits (ts.map toTok))) := by
  intro rest lim h0
  rw [infl_fixed (toks := ts.map toTok) (fun t ht => by
    obtain ⟨u, hu, rfl⟩ := List.mem_map.1 ht
    exact fixed_ok u (h.ok u hu)) (pack_bits _ (fixed_two _) rest), toks_says h lim h0, pack_length]
  by_cases c : (b.length : Int) ≤ lim
  · rw [if_pos c, if_pos c]
  · rw [if_neg c, if_neg c]
theorem str_dyn {b : List UInt8} {ts : List GT} {bits : List Nat} (h : TsR b ts) (hd : DynW ts bits) (h2 : ∀ x ∈ bits, x < 2) : StrOf b (pack bits) := by
  intro rest lim h0
  rw [hd.reads h.ok _ lim (pack_bits _ h2 rest), toks_says h lim h0, pack_length]
  by_cases c : (b.length : Int) ≤ lim
  · rw [if_pos c, if_pos c]
  · rw [if_neg c, if_neg c]
theorem str_stored (b : List UInt8) (hb : b.length ≤ 30000) : StrOf b (headOf true b.length ++ b) := by
  intro rest lim h0
  rw [List.append_assoc, infl_stored b rest lim (by omega) h0, List.length_append, head_length]
  by_cases c : (b.length : Int) ≤ lim
  · rw [if_pos c, if_pos c, Nat.add_comm]
  · rw [if_neg c, if_neg c]
/-- The bytes one by one, as tokens. -/
theorem sgl_str (b : List UInt8) : TsR b (sgl b b.length) := by
  have h := sgl_tsi b b.length (Nat.le_refl _)
  rw [List.take_of_length_le (by rw [sgl_length]; omega), List.take_length] at h
  refine ⟨fun t ht => ?_, h.2, h.1, by rw [sgl_length]; omega⟩
  simp only [sgl, List.mem_map, List.mem_range] at ht
  obtain ⟨i, hi, rfl⟩ := ht
  rw [if_pos hi]
  exact Or.inl rfl

/-- What Stream writes. -/
structure StrOk (b : List UInt8) (lev : Nat) (s : List UInt8) : Prop where
  le : s.length ≤ b.length + 5
  str : StrOf b s
  rep : 1 ≤ lev → ∃ ts, TsI b b.length ts ∧ s.length ≤ (pack (fixedBits (ts.map toTok))).length
  sing : 1 ≤ lev → ∃ bits, DynW (sgl b b.length) bits ∧ s.length ≤ (pack bits).length

/-- The best so far. -/
structure BstAt (b : List UInt8) (w0 : World) (ao : Option Addr) (m c : Nat) (w : World) (s : List UInt8) : Prop where
  own : w.ownsRow w0.heap.size 5 1 (.slice ao m c) s.length (bv8 s)
  len : m = s.length
  str : StrOf b s
  le : s.length ≤ b.length + 5
theorem BstAt.below {b : List UInt8} {w0 : World} {ao : Option Addr} {m c : Nat} {w w' : World} {s : List UInt8} (h : BstAt b w0 ao m c w s) (hb : Below w.heap.size w w') : BstAt b w0 ao m c w' s :=
  ⟨owns_keep h.own (fun g _ hg => hb.block g hg), h.len, h.str, h.le⟩

structure StrS (b : List UInt8) (w0 : World) (p : Nat) (T1 T2 : Value) (ts : List GT) (w : World) : Prop where
  box : w.heap[p]? = some (.cells #[T1, T2] 49 (0, 0))
  t1 : TokV w T1 (sgl b b.length)
  t2 : TokV w T2 ts
  tsi : TsI b b.length ts
  b : Below w0.heap.size w0 w
theorem StrS.below {b : List UInt8} {w0 : World} {p : Nat} {T1 T2 : Value} {ts : List GT} {w w' : World} (h : StrS b w0 p T1 T2 ts w) (hb : Below w.heap.size w w') : StrS b w0 p T1 T2 ts w' :=
  ⟨(hb.block p (lt_of_heap h.box)).trans h.box, h.t1.below hb, h.t2.below hb, h.tsi, h.b.trans (hb.mono h.b.size)⟩

/-- What is known ahead of round k, and behind its first half (h = 1). -/
structure StrI (b : List UInt8) (w0 : World) (p k h : Nat) (ao : Option Addr) (m c : Nat) (w : World) (T1 T2 : Value) (ts : List GT) (s : List UInt8) : Prop where
  st : StrS b w0 p T1 T2 ts w
  best : BstAt b w0 ao m c w s
  fx : 3 ≤ 2 * k + h → s.length ≤ (pack (fixedBits (ts.map toTok))).length
  dy : 1 ≤ k → ∃ bits, DynW (sgl b b.length) bits ∧ s.length ≤ (pack bits).length
theorem StrI.below {b : List UInt8} {w0 : World} {p k h : Nat} {ao : Option Addr} {m c : Nat} {w w' : World} {T1 T2 : Value} {ts : List GT} {s : List UInt8} (hI : StrI b w0 p k h ao m c w T1 T2 ts s) (hb : Below w.heap.size w w') : StrI b w0 p k h ao m c w' T1 T2 ts s :=
  ⟨hI.st.below hb, hI.best.below hb, hI.fx, hI.dy⟩

/-- Which tokens round k takes. -/
def Sel (k : Nat) (T T1 T2 : Value) : Prop := (k = 0 ∧ T = T1) ∨ (k = 1 ∧ T = T2)
theorem StrI.tok {b : List UInt8} {w0 : World} {p k h : Nat} {ao : Option Addr} {m c : Nat} {w : World} {T T1 T2 : Value} {ts : List GT} {s : List UInt8} (hI : StrI b w0 p k h ao m c w T1 T2 ts s) (hs : Sel k T T1 T2) :
    ∃ us, TokV w T us ∧ TsR b us ∧ ((k = 0 ∧ us = sgl b b.length) ∨ (k = 1 ∧ us = ts)) := by
  rcases hs with ⟨h1, h2⟩ | ⟨h1, h2⟩
  · exact ⟨_, by rw [h2]; exact hI.st.t1, sgl_str b, Or.inl ⟨h1, rfl⟩⟩
  · exact ⟨_, by rw [h2]; exact hI.st.t2, hI.st.tsi.r, Or.inr ⟨h1, rfl⟩⟩

theorem pick_best {b : List UInt8} {w0 w : World} {ao fo : Option Addr} {m c fm fc : Nat} {s f : List UInt8} (h : BstAt b w0 ao m c w s) (hf : w.ownsRow w0.heap.size 5 1 (.slice fo fm fc) f.length (bv8 f)) (hl : fm = f.length) (hs : StrOf b f) :
    ∃ ro rm rc r, (if fm < m then Value.slice fo fm fc else .slice ao m c) = .slice ro rm rc ∧ BstAt b w0 ro rm rc w r ∧ r.length ≤ s.length ∧ r.length ≤ f.length := by
  have h1 := h.len
  have h2 := h.le
  by_cases q : fm < m
  · exact ⟨fo, fm, fc, f, if_pos q, ⟨hf, hl, hs, by omega⟩, by omega, Nat.le_refl _⟩
  · exact ⟨ao, m, c, s, if_neg q, h, Nat.le_refl _, by omega⟩

theorem dstream_any (g o bc lev : Nat) (b : List UInt8) (w : World) (hL : Lies w g o b) (hg : g < w.heap.size) (hb : b.length ≤ 30000) (hlev : lev ≤ 9) (hO : OrdAt w) :
    Calls Tryd.prog 13 #[.slice (some ⟨g, o, none⟩) b.length bc, .int .i64 (lev : Int)] w fun e w' => ∃ v, e = .returned (.tuple #[v, .int .i64 0]) ∧ ∃ s, StrOk b lev s ∧ w'.ownsRow w.heap.size 5 1 v s.length (bv8 s) ∧ Below w.heap.size w w' := by
  have h0 : 0 < w.heap.size := by omega
  refine stream_walk _ _ _ _ w hb hlev
    (fun ao m c w1 => ∃ s, BstAt b w ao m c w1 s ∧ Below w.heap.size w w1)
    (fun ao m c t1 n1 c1 w2 => ∃ s, BstAt b w ao m c w2 s ∧ Below w.heap.size w w2 ∧ TokV w2 (.slice t1 n1 c1) (sgl b b.length))
    (fun ao m c t1 n1 c1 t2 n2 c2 w3 => ∃ s ts, BstAt b w ao m c w3 s ∧ Below w.heap.size w w3 ∧ TokV w3 (.slice t1 n1 c1) (sgl b b.length) ∧ TokV w3 (.slice t2 n2 c2) ts ∧ TsI b b.length ts)
    (fun p k ao m c w4 => ∃ T1 T2 ts s, StrI b w p k 0 ao m c w4 T1 T2 ts s)
    (fun p k ao m c ta tn tc w4 => ∃ T1 T2 ts s, StrI b w p k 0 ao m c w4 T1 T2 ts s ∧ Sel k (.slice ta tn tc) T1 T2)
    (fun p k ao m c ta tn tc w4 => ∃ T1 T2 ts s, StrI b w p k 1 ao m c w4 T1 T2 ts s ∧ Sel k (.slice ta tn tc) T1 T2)
    (fun p k ao m c ta tn tc fo fm fc w5 => ∃ T1 T2 ts s f, StrI b w p k 0 ao m c w5 T1 T2 ts s ∧ Sel k (.slice ta tn tc) T1 T2 ∧ w5.ownsRow w.heap.size 5 1 (.slice fo fm fc) f.length (bv8 f) ∧ fm = f.length ∧ StrOf b f ∧ (k = 1 → f = pack (fixedBits (ts.map toTok))))
    (fun p k ao m c ta tn tc fo fm fc w5 => ∃ T1 T2 ts s f, StrI b w p k 1 ao m c w5 T1 T2 ts s ∧ Sel k (.slice ta tn tc) T1 T2 ∧ w5.ownsRow w.heap.size 5 1 (.slice fo fm fc) f.length (bv8 f) ∧ fm = f.length ∧ StrOf b f ∧ (k = 0 → ∃ bits, DynW (sgl b b.length) bits ∧ f = pack bits))
    (fun v w' => ∃ s, StrOk b lev s ∧ w'.ownsRow w.heap.size 5 1 v s.length (bv8 s) ∧ Below w.heap.size w w')
    ?_ ?_ ?_ ?_ ?_ ?_ ?_ ?_ ?_ ?_ ?_
  · refine (stored_put g o bc b w hL hg hb).mono ?_
    rintro e w1 ⟨ov, rfl, ho, hb1⟩
    obtain ⟨ao, c, rfl⟩ := owns_slice ho
    have hl : (headOf true b.length ++ b).length = b.length + 5 := by rw [List.length_append, head_length]; omega
    exact ⟨ao, _, c, rfl, _, ⟨by rw [hl]; exact owns_low ho (by omega), hl.symm, str_stored b hb, by omega⟩, hb1⟩
  · rintro ao m c w1 ⟨s, hs, hb1⟩ hz
    exact ⟨s, ⟨hs.le, hs.str, by omega, by omega⟩, hs.own, hb1⟩
  · rintro ao m c w1 hp ⟨s, hs, hb1⟩
    refine (singles_any g o bc b w1 (fun i hi => (hb1.cell (p := ⟨g, o + i, none⟩) hg).trans (hL i hi)) (Nat.lt_of_lt_of_le hg hb1.size) hb).mono ?_
    rintro e w2 ⟨v, rfl, ho, hb2⟩
    have hv := TokV.of_owns ho (sgl_length _ _)
    obtain ⟨ta, tn, tc, rfl⟩ := hv.slice
    exact ⟨ta, tn, tc, rfl, s, hs.below hb2, hb1.trans (hb2.mono hb1.size), hv⟩
  · rintro ao m c t1 n1 c1 w2 hp ⟨s, hs, hb2, hv1⟩
    refine (repeats_any g o bc lev b w2 (fun i hi => (hb2.cell (p := ⟨g, o + i, none⟩) hg).trans (hL i hi)) (Nat.lt_of_lt_of_le hg hb2.size) hb hlev).mono ?_
    rintro e w3 ⟨v, ts, rfl, ho, hts, hb3⟩
    have hv := TokV.of_owns ho rfl
    obtain ⟨ta, tn, tc, rfl⟩ := hv.slice
    exact ⟨ta, tn, tc, rfl, s, ts, hs.below hb3, hb2.trans (hb3.mono hb2.size), hv1.below hb3, hv, hts⟩
  · rintro ao m c t1 n1 c1 t2 n2 c2 w3 W ⟨s, ts, hs, hb3, hv1, hv2, hts⟩ hW
    have hbW : Below w3.heap.size w3 W := by rw [hW]; exact (Fr.refl Non w3).alloc _ |>.below (Nat.le_refl _) (fun k hk => hk.elim)
    exact ⟨_, _, ts, s, ⟨by rw [hW]; exact heap_alloc_new _ _, hv1.below hbW, hv2.below hbW, hts, hb3.trans (hbW.mono hb3.size)⟩, hs.below hbW, by omega, by omega⟩
  · rintro p k ao m c w4 hk ⟨T1, T2, ts, s, hI⟩
    rcases (show k = 0 ∨ k = 1 by omega) with rfl | rfl
    · obtain ⟨ta, tn, tc, e⟩ := hI.st.t1.slice
      exact ⟨ta, tn, tc, by rw [← e]; exact cell_of_heap hI.st.box 0, T1, T2, ts, s, hI, Or.inl ⟨rfl, e.symm⟩⟩
    · obtain ⟨ta, tn, tc, e⟩ := hI.st.t2.slice
      exact ⟨ta, tn, tc, by rw [← e]; exact cell_of_heap hI.st.box 1, T1, T2, ts, s, hI, Or.inr ⟨rfl, e.symm⟩⟩
  · rintro p k ao m c ta tn tc w4 hk ⟨T1, T2, ts, s, hI, hsel⟩
    obtain ⟨us, hv, hr, hu⟩ := hI.tok hsel
    have hc := hr.cnt
    refine (hv.fixed (by omega) hr.ok).mono ?_
    rintro e w5 ⟨ov, rfl, ho, hb5⟩
    obtain ⟨fo, fc, rfl⟩ := owns_slice ho
    refine ⟨fo, _, fc, rfl, T1, T2, ts, s, _, hI.below hb5, hsel, owns_low ho (by have := hI.st.b.size; omega), rfl, str_fixed hr, fun h1 => ?_⟩
    rcases hu with ⟨h2, _⟩ | ⟨_, h2⟩
    · omega
    · rw [h2]
  · rintro p k ao m c ta tn tc fo fm fc w5 hk ⟨T1, T2, ts, s, f, hI, hsel, ho, hl, hst, hf⟩
    refine (shorter_any _ _ ao fo m fm c fc rfl rfl w5).mono ?_
    rintro e w6 ⟨rfl, rfl⟩
    obtain ⟨ro, rm, rc, r, e, hb', l1, l2⟩ := pick_best hI.best ho hl hst
    rw [e]
    refine ⟨ro, rm, rc, rfl, T1, T2, ts, r, ⟨hI.st, hb', fun h1 => ?_, fun h1 => ?_⟩, hsel⟩
    · have : k = 1 := by omega
      rw [← hf this]; exact l2
    · obtain ⟨bits, q1, q2⟩ := hI.dy h1
      exact ⟨bits, q1, by omega⟩
  · rintro p k ao m c ta tn tc w4 hk ⟨T1, T2, ts, s, hI, hsel⟩
    obtain ⟨us, hv, hr, hu⟩ := hI.tok hsel
    have hc := hr.cnt
    refine (hv.dynamic (by omega) hr.ok (hO.below hI.st.b h0) (by have := hI.st.b.size; omega)).mono ?_
    rintro e w5 ⟨ov, rfl, bits, hW, h2, ho, hb5⟩
    obtain ⟨fo, fc, rfl⟩ := owns_slice ho
    refine ⟨fo, _, fc, rfl, T1, T2, ts, s, _, hI.below hb5, hsel, owns_low ho (by have := hI.st.b.size; omega), rfl, str_dyn hr hW h2, fun h1 => ?_⟩
    rcases hu with ⟨_, h3⟩ | ⟨h3, _⟩
    · rw [h3] at hW; exact ⟨bits, hW, rfl⟩
    · omega
  · rintro p k ao m c ta tn tc fo fm fc w5 hk ⟨T1, T2, ts, s, f, hI, hsel, ho, hl, hst, hf⟩
    refine (shorter_any _ _ ao fo m fm c fc rfl rfl w5).mono ?_
    rintro e w6 ⟨rfl, rfl⟩
    obtain ⟨ro, rm, rc, r, e, hb', l1, l2⟩ := pick_best hI.best ho hl hst
    rw [e]
    refine ⟨ro, rm, rc, rfl, T1, T2, ts, r, ⟨hI.st, hb', fun h1 => ?_, fun h1 => ?_⟩⟩
    · have := hI.fx (by omega)
      omega
    · rcases Nat.eq_zero_or_pos k with h3 | h3
      · obtain ⟨bits, q1, q2⟩ := hf h3
        exact ⟨bits, q1, by rw [← q2]; exact l2⟩
      · obtain ⟨bits, q1, q2⟩ := hI.dy h3
        exact ⟨bits, q1, by omega⟩
  · rintro p ao m c w4 hp ⟨T1, T2, ts, s, hI⟩
    exact ⟨s, ⟨hI.best.le, hI.best.str, fun _ => ⟨ts, hI.st.tsi, hI.fx (by omega)⟩, fun _ => hI.dy (by omega)⟩, hI.best.own, hI.st.b⟩

/-- spool.Deflate. -/
theorem deflate_any (g o bc lev : Nat) (b : List UInt8) (w : World) (hL : Lies w g o b) (hg : g < w.heap.size) (hb : b.length ≤ 30000) (hlev : lev ≤ 9) (hO : OrdAt w) :
    Calls Tryd.prog 11 #[.slice (some ⟨g, o, none⟩) b.length bc, .int .i64 (lev : Int)] w fun e w' => ∃ v, e = .returned (.tuple #[v, .int .i64 0]) ∧ ∃ s, StrOk b lev s ∧ w'.ownsRow w.heap.size 5 1 v s.length (bv8 s) ∧ Below w.heap.size w w' :=
  deflate_walk _ _ w _ (dstream_any g o bc lev b w hL hg hb hlev hO)
end Go.Proofs.YtdpobjgfnhjagaaDoor

namespace Go.Proofs.YtdpobjgfnhjagaaDoor
open Go.RowKit

/-- A reader's place: how many bytes it has taken, what it holds of the last one, how many bits of that are left. -/
structure Spot where
  p : Nat
  held : Int
  left : Nat

/-- The next bit, and the place behind it. -/
def bitOf (I : List UInt8) (s : Spot) : Option (Int × Spot) :=
  match s.left with
  | 0 => if s.p < I.length then some (((I.getD s.p 0).toNat : Int) % 2, ⟨s.p + 1, ((I.getD s.p 0).toNat : Int) / 2, 7⟩) else none
  | k + 1 => if 0 ≤ s.held ∧ s.held < 256 ∧ k < 8 then some (s.held % 2, ⟨s.p, s.held / 2, k⟩) else none

theorem bitOf_01 {I : List UInt8} {s s' : Spot} {v : Int} (h : bitOf I s = some (v, s')) : v = 0 ∨ v = 1 := by
  unfold bitOf at h
  split at h
  · split at h
    · simp at h; omega
    · cases h
  · split at h
    · simp at h; omega
    · cases h

theorem bit_step (B b o c : Nat) (I : List UInt8) (s s' : Spot) (v lim : Int) (ov fx : Value) (w : World)
    (h : w.heap[B]? = some (RB (.slice (some ⟨b, o, none⟩) I.length c) s.p s.held s.left ov lim fx)) (hl : I.length ≤ maxLen) (hb : b ≠ B) (hI : Lies w b o I) (hs : bitOf I s = some (v, s')) :
    Calls Tryd.prog 22 #[.pointer (some ⟨B, 0, none⟩)] w fun r w' => r = .returned (.int .i64 v) ∧
      w'.heap[B]? = some (RB (.slice (some ⟨b, o, none⟩) I.length c) s'.p s'.held s'.left ov lim fx) ∧ Fr (One B) w w' := by
  obtain ⟨p, held, left⟩ := s
  cases left with
  | zero =>
    simp only [bitOf] at hs
    split at hs
    · rename_i hp
      simp only [Option.some.injEq, Prod.mk.injEq] at hs
      obtain ⟨rfl, rfl⟩ := hs
      exact bit_fresh B b o I.length c p held lim _ ov fx w h hp hl hb (hI p hp) (u8_lt _).1 (u8_lt _).2
    · cases hs
  | succ k =>
    simp only [bitOf] at hs
    split at hs
    · rename_i hp
      simp only [Option.some.injEq, Prod.mk.injEq] at hs
      obtain ⟨rfl, rfl⟩ := hs
      exact bit_more B k p held lim _ ov fx w h hp.1 hp.2.1 hp.2.2
    · cases hs

/-- Reading a symbol: its place among the sorted ones. -/
def rdS (I : List UInt8) (cs : List Int) (lg : Int) (t : Nat) : Nat → Nat → Int → Int → Int → Spot → Option (Nat × Spot)
  | 0, _, _, _, _, _ => none
  | fuel + 1, n, word, first, ahead, s =>
    match bitOf I s with
    | none => none
    | some (v, s') =>
      if n < 16 ∧ 0 ≤ word ∧ word ≤ 65536 ∧ 0 ≤ first ∧ first ≤ 65536 ∧ 0 ≤ ahead ∧ ahead ≤ 1000 ∧ 0 ≤ cs.getD n 0 ∧ cs.getD n 0 ≤ 1000 then
        if 2 * word + v < first + cs.getD n 0 then
          if 0 ≤ ahead + (2 * word + v) - first ∧ ahead + (2 * word + v) - first < t then some ((ahead + (2 * word + v) - first).toNat, s') else none
        else if lg ≤ n then none
        else rdS I cs lg t fuel (n + 1) (2 * word + v) (2 * (first + cs.getD n 0)) (ahead + cs.getD n 0) s'
      else none

set_option maxHeartbeats 2000000 in
theorem read_any (B b o c cl g t : Nat) (I : List UInt8) (cs S : List Int) (lg lim : Int) (fuel i : Nat) (s s' : Spot) (ov fx : Value) (w : World)
    (h : w.heap[B]? = some (RB (.slice (some ⟨b, o, none⟩) I.length c) s.p s.held s.left ov lim fx)) (hl : I.length ≤ maxLen) (hb : b ≠ B) (hI : Lies w b o I)
    (hc : w.heap[cl]? = some (CB cs (.slice (some ⟨g, 0, none⟩) t t) lg)) (h16 : cs.length = 16) (hS : w.heap[g]? = some (.cells (ints S) 3 (0, 0))) (ht : S.length = t) (ht2 : t ≤ 288) (hcB : cl ≠ B) (hgB : g ≠ B)
    (hr : rdS I cs lg t fuel 1 0 0 0 s = some (i, s')) :
    Calls Tryd.prog 83 #[.pointer (some ⟨cl, 0, none⟩), .func (Fn.func 22) #[.pointer (some ⟨B, 0, none⟩)] #[]] w fun r w' => r = .returned (.tuple #[.int .i64 (S.getD i 0), .bool true]) ∧
      w'.heap[B]? = some (RB (.slice (some ⟨b, o, none⟩) I.length c) s'.p s'.held s'.left ov lim fx) ∧ Fr (One B) w w' := by
  have H : Hid _ := h; clear h
  have HC : Hid (w.heap[cl]? = some (CB cs (.slice (some ⟨g, 0, none⟩) t t) lg)) := hc; clear hc
  have HS : Hid (w.heap[g]? = some (.cells (ints S) 3 (0, 0))) := hS; clear hS
  have HT : Hid (S.length = t) := ht; clear ht
  have H16 : Hid (cs.length = 16) := h16; clear h16
  have HR : Hid (rdS I cs lg t fuel 1 0 0 0 s = some (i, s')) := hr; clear hr
  go_enter Tryd.func83, Tryd.ntmps83
  go_wp2_with fail
  go_loopw [6, 7, 8, 9] (fun wd fi ah nn wr => ∃ (fu n : Nat) (word first ahead : Int) (q : Spot), wd = .int .i64 word ∧ fi = .int .i64 first ∧ ah = .int .i64 ahead ∧ nn = .int .i64 n ∧ n ≤ 16 ∧ Hid (rdS I cs lg t fu n word first ahead q = some (i, s')) ∧ wr.heap[B]? = some (RB (.slice (some ⟨b, o, none⟩) I.length c) q.p q.held q.left ov lim fx) ∧ Fr (One B) w wr) (fun _ _ _ nn _ => 17 - (intOf nn).toNat)
  case atStart => exact ⟨fuel, 1, 0, 0, 0, s, rfl, rfl, rfl, rfl, by omega, HR.out, H.out, Fr.refl _ _⟩
  case round =>
    obtain ⟨fu, n, word, first, ahead, q, rfl, rfl, rfl, rfl, hn, hr, hh, hfr⟩ := hrel
    have hr1 := hr.out
    cases fu with
    | zero => simp [rdS] at hr1
    | succ fu =>
      simp only [rdS] at hr1
      cases hbit : bitOf I q with
      | none => simp [hbit] at hr1
      | some vs =>
        obtain ⟨v, q'⟩ := vs
        simp only [hbit] at hr1
        have hv := bitOf_01 hbit
        have HBIT : Hid (bitOf I q = some (v, q')) := hbit; clear hbit
        split at hr1
        · rename_i hbd
          obtain ⟨n16, w0, w1, f0, f1, a0, a1, cn0, cn1⟩ := hbd
          have hIr : Lies wr b o I := hI.keep hfr hb
          have HH : Hid _ := hh; clear hh
          obtain ⟨cv, hcv⟩ : ∃ cv, Hid (cs.getD n 0 = cv) := ⟨_, rfl⟩
          rw [hcv.out] at hr1 cn0 cn1
          have HR1 : Hid _ := hr1; clear hr1
          go_wp2_with fail
          refine (bit_step B b o c I q q' v lim ov fx wr HH.out hl hb hIr HBIT.out).mono ?_
          rintro e w1 ⟨rfl, k1, f1'⟩
          have hf2 := hfr.trans f1'
          have hc1 : w1.heap[cl]? = some (CB cs (.slice (some ⟨g, 0, none⟩) t t) lg) := (hf2.block cl (lt_of_heap HC.out) hcB).trans HC.out
          have hS1 : w1.heap[g]? = some (.cells (ints S) 3 (0, 0)) := (hf2.block g (lt_of_heap HS.out) hgB).trans HS.out
          obtain ⟨e1, e2, e3, e4⟩ := code_cell hc1 H16.out
          have hcn := e1 n n16
          rw [hcv.out] at hcn
          have K1 : Hid _ := k1; clear k1 e1 hc1
          have hr2 := HR1.out
          split at hr2
          · rename_i hlt
            split at hr2
            · rename_i hidx
              simp only [Option.some.injEq, Prod.mk.injEq] at hr2
              obtain ⟨hi, hs'⟩ := hr2
              obtain ⟨ix, hix⟩ := Int.eq_ofNat_of_zero_le hidx.1
              have hit : ix < t := by omega
              have hsc := cell_ints hS1 ix (by rw [HT.out]; exact hit)
              have HS1 : Hid _ := hS1; clear hS1
              have HIX : Hid (ahead + (2 * word + v) - first = (ix : Int)) := hix
              go_wp2_with fail
              go_ret2
              have hii : i = ix := by have := HIX.out; omega
              subst hii
              subst hs'
              exact ⟨rfl, K1.out, hf2⟩
            · cases hr2
          · rename_i hlt
            split at hr2
            · cases hr2
            · rename_i hlg
              have HR2 : Hid _ := hr2; clear hr2
              clear hS1
              go_wp2_with fail
              go_roundw
              case rel => exact ⟨fu, n + 1, 2 * word + v, 2 * (first + cv), ahead + cv, q', rfl, rfl, rfl, by go_num, by omega, HR2.out, K1.out, hf2⟩
              case measure => simp [intOf]; omega
        · cases hr1

set_option maxHeartbeats 1000000 in
theorem symbol_any (B b o c cl g t : Nat) (I : List UInt8) (cs S : List Int) (lg lim : Int) (fuel i : Nat) (s s' : Spot) (ov fx : Value) (w : World)
    (h : w.heap[B]? = some (RB (.slice (some ⟨b, o, none⟩) I.length c) s.p s.held s.left ov lim fx)) (hl : I.length ≤ maxLen) (hb : b ≠ B) (hI : Lies w b o I)
    (hc : w.heap[cl]? = some (CB cs (.slice (some ⟨g, 0, none⟩) t t) lg)) (h16 : cs.length = 16) (hS : w.heap[g]? = some (.cells (ints S) 3 (0, 0))) (ht : S.length = t) (ht2 : t ≤ 288) (hcB : cl ≠ B) (hgB : g ≠ B)
    (hr : rdS I cs lg t fuel 1 0 0 0 s = some (i, s')) :
    Calls Tryd.prog 72 #[.pointer (some ⟨B, 0, none⟩), .pointer (some ⟨cl, 0, none⟩)] w fun r w' => r = .returned (.int .i64 (S.getD i 0)) ∧
      w'.heap[B]? = some (RB (.slice (some ⟨b, o, none⟩) I.length c) s'.p s'.held s'.left ov lim fx) ∧ Fr (One B) w w' := by
  have hmf : ∀ (fn : Fn) (first cap : Array Value) (w : World), (Instr.makeFunc fn first cap).run Tryd.prog w = .ok (.func fn first cap) w := fun _ _ _ _ => rfl
  have HR := read_any B b o c cl g t I cs S lg lim fuel i s s' ov fx w h hl hb hI hc h16 hS ht ht2 hcB hgB hr
  generalize S.getD i 0 = sym at HR ⊢
  have HH : Hid _ := HR; clear HR h hc h16 hS ht hr
  go_enter Tryd.func72, Tryd.ntmps72
  go_wp2_with fail
  refine Calls.mono HH.out ?_
  rintro e w1 ⟨rfl, k1, f1⟩
  have K1 : Hid _ := k1; clear k1
  go_wp2_with fail
  go_ret
  exact ⟨rfl, K1.out, f1⟩

end Go.Proofs.YtdpobjgfnhjagaaDoor

namespace Go.Proofs.YtdpobjgfnhjagaaDoor
open Go.RowKit

/-- The fixed literal codes. -/
def litC : List Int := [0, 0, 0, 0, 0, 0, 0, 24, 152, 112, 0, 0, 0, 0, 0, 0]
def litN : List Int := [0, 0, 0, 0, 0, 0, 0, 0, 24, 176, 288, 288, 288, 288, 288, 288]
def litS : List Int := (run2 lits 0 (litN, List.replicate 288 0)).2
theorem lit_run1 : run1 lits (List.replicate 16 0, 0) = (litC, 9) := by decide +kernel
theorem lit_ok1 : ok1 lits (List.replicate 16 0, 0) = true := by decide +kernel
theorem lit_run0 : run0 litC 0 (List.replicate 16 0, 0) = (litN, ((288 : Nat) : Int)) := by decide +kernel
theorem lit_ok0 : ok0 litC 0 = true := by decide +kernel
theorem lit_ok2 : ok2 lits 0 288 (litN, List.replicate 288 0) = true := by decide +kernel
theorem litS_length : litS.length = 288 := by decide +kernel
theorem litS_121 : litS.getD 121 0 = 97 := by decide +kernel
theorem litS_0 : litS.getD 0 0 = 256 := by decide +kernel

def distC : List Int := [0, 0, 0, 0, 0, 32, 0, 0, 0, 0, 0, 0, 0, 0, 0, 0]
def distN : List Int := [0, 0, 0, 0, 0, 0, 32, 32, 32, 32, 32, 32, 32, 32, 32, 32]
theorem dist_run1 : run1 dists (List.replicate 16 0, 0) = (distC, 5) := by decide +kernel
theorem dist_ok1 : ok1 dists (List.replicate 16 0, 0) = true := by decide +kernel
theorem dist_run0 : run0 distC 0 (List.replicate 16 0, 0) = (distN, ((32 : Nat) : Int)) := by decide +kernel
theorem dist_ok0 : ok0 distC 0 = true := by decide +kernel
theorem dist_ok2 : ok2 dists 0 32 (distN, List.replicate 32 0) = true := by decide +kernel

def I3 : List UInt8 := [75, 4, 0]
theorem read1 : (rdS I3 litC 9 288 20 1 0 0 0 ⟨1, 9, 5⟩).map (fun x => (x.1, x.2.p, x.2.held, x.2.left)) = some (121, 2, 0, 5) := by decide +kernel
theorem read2 : (rdS I3 litC 9 288 20 1 0 0 0 ⟨2, 0, 5⟩).map (fun x => (x.1, x.2.p, x.2.held, x.2.left)) = some (0, 3, 0, 6) := by decide +kernel

theorem read1' : rdS I3 litC 9 288 20 1 0 0 0 ⟨1, 9, 5⟩ = some (121, ⟨2, 0, 5⟩) := by
  have := read1
  cases h : rdS I3 litC 9 288 20 1 0 0 0 ⟨1, 9, 5⟩ with
  | none => rw [h] at this; cases this
  | some x =>
    rw [h] at this
    obtain ⟨i, p, hd, l⟩ := x
    simp at this
    obtain ⟨rfl, rfl, rfl, rfl⟩ := this
    rfl
theorem read2' : rdS I3 litC 9 288 20 1 0 0 0 ⟨2, 0, 5⟩ = some (0, ⟨3, 0, 6⟩) := by
  have := read2
  cases h : rdS I3 litC 9 288 20 1 0 0 0 ⟨2, 0, 5⟩ with
  | none => rw [h] at this; cases this
  | some x =>
    rw [h] at this
    obtain ⟨i, p, hd, l⟩ := x
    simp at this
    obtain ⟨rfl, rfl, rfl, rfl⟩ := this
    rfl

/-- The fixed codes lie in memory. -/
def Coded (w : World) (cl : Nat) : Prop := w.heap[cl]? = some (CB litC (.slice (some ⟨cl + 3, 0, none⟩) 288 288) 9) ∧ w.heap[cl + 3]? = some (.cells (ints litS) 3 (0, 0))

theorem Coded.keep {w w' : World} {cl : Nat} {S : Nat → Prop} (h : Coded w cl) (f : Fr S w w') (h1 : ¬ S cl) (h2 : ¬ S (cl + 3)) : Coded w' cl :=
  ⟨(f.block cl (lt_of_heap h.1) h1).trans h.1, (f.block (cl + 3) (lt_of_heap h.2) h2).trans h.2⟩

theorem pairs_cells {w : World} {pb : Nat} {u v : Value} (h : w.heap[pb]? = some (.cells #[u, v] 106 (0, 0))) : w.cell? ⟨pb, 0, none⟩ = some u ∧ w.cell? ⟨pb, 1, none⟩ = some v :=
  ⟨cell_of_heap h 0, cell_of_heap h 1⟩

set_option maxHeartbeats 1000000 in
theorem symbols_a (B b o c cl cd pb : Nat) (lim : Int) (fx : Value) (w : World)
    (h : w.heap[B]? = some (RB (.slice (some ⟨b, o, none⟩) 3 c) 1 9 5 (.slice none 0 0) lim fx)) (hb : b < B) (hI : Lies w b o I3)
    (hp : w.heap[pb]? = some (.cells #[.pointer (some ⟨cl, 0, none⟩), .pointer (some ⟨cd, 0, none⟩)] 106 (0, 0))) (hC : Coded w cl) (hcl : B < cl) (hpb : B < pb) (hlim : 1 ≤ lim) (hlim2 : lim ≤ 60000) :
    Calls Tryd.prog 44 #[.pointer (some ⟨B, 0, none⟩), .pointer (some ⟨pb, 0, none⟩)] w fun r w' => r = .returned (.tuple #[]) ∧
      (∃ ov, w'.heap[B]? = some (RB (.slice (some ⟨b, o, none⟩) 3 c) 3 0 6 ov lim fx) ∧ w'.ownsRow (B + 1) 5 1 ov 1 (bv8 [97])) ∧ Fr (fun k => B ≤ k) w w' := by
  have HH : Hid _ := h; clear h
  have HP : Hid _ := hp; clear hp
  go_enter Tryd.func44, Tryd.ntmps44
  go_wp2_with fail
  go_loopw [4] (fun _ wr => Lies wr b o I3 ∧ Coded wr cl ∧ wr.heap[pb]? = some (.cells #[.pointer (some ⟨cl, 0, none⟩), .pointer (some ⟨cd, 0, none⟩)] 106 (0, 0)) ∧ Fr (fun k => B ≤ k) w wr ∧
    ((wr.heap[B]? = some (RB (.slice (some ⟨b, o, none⟩) 3 c) 1 9 5 (.slice none 0 0) lim fx)) ∨ (∃ ov, wr.heap[B]? = some (RB (.slice (some ⟨b, o, none⟩) 3 c) 2 0 5 ov lim fx) ∧ wr.ownsRow (B + 1) 5 1 ov 1 (bv8 [97])))) (fun _ wr => 3 - posOf B wr)
  case atStart => exact ⟨hI, hC, HP.out, Fr.refl _ _, Or.inl HH.out⟩
  case round =>
    obtain ⟨hIr, hCr, hpr, hfr, hcase⟩ := hrel
    obtain ⟨p0, p1⟩ := pairs_cells hpr
    have HPR : Hid _ := hpr; clear hpr
    rcases hcase with hh | ⟨ov, hh, hw⟩
    · have HR : Hid _ := hh; clear hh
      have hpos : posOf B wr = 1 := posOf_rb (p := 1) HR.out
      have HPO : Hid (posOf B wr = 1) := hpos; clear hpos
      go_wp2_with fail
      refine (symbol_any B b o c cl (cl + 3) 288 I3 litC litS 9 lim 20 121 ⟨1, 9, 5⟩ ⟨2, 0, 5⟩ (.slice none 0 0) fx wr HR.out (by decide) (by omega) hIr hCr.1 rfl hCr.2 litS_length (by omega) (by omega) (by omega) read1').mono ?_
      rintro e w1 ⟨rfl, k1, f1⟩
      rw [litS_121]
      have K1 : Hid _ := k1; clear k1
      go_wp2_with fail
      refine (put_ok B _ _ _ lim 97 0 _ (.slice none 0 0) fx [] w1 K1.out ⟨rfl, Or.inl ⟨rfl, rfl⟩⟩ (by omega) hlim2).mono ?_
      rintro e w2 ⟨rfl, ov, k2, o2, f2⟩
      have f2' : Fr (One B) w1 w2 := f2.mono fun k _ hk => by
        rcases hk with hk | hk
        · exact hk
        · cases hk
      have K2 : Hid _ := k2; clear k2
      go_wp2_with fail
      go_roundw
      case rel =>
        have ff := f1.trans f2'
        refine ⟨hIr.keep ff (by simp [One]; omega), hCr.keep ff (by simp [One]; omega) (by simp [One]; omega), ?_, hfr.trans (One.up ff), Or.inr ⟨ov, K2.out, by simpa [bv8] using o2⟩⟩
        exact (ff.block pb (lt_of_heap HPR.out) (by simp [One]; omega)).trans HPR.out
      case measure =>
        have := posOf_rb (p := 2) K2.out
        rw [HPO.out, this]
        omega
    · have HR : Hid _ := hh; clear hh
      go_wp2_with fail
      refine (symbol_any B b o c cl (cl + 3) 288 I3 litC litS 9 lim 20 0 ⟨2, 0, 5⟩ ⟨3, 0, 6⟩ ov fx wr HR.out (by decide) (by omega) hIr hCr.1 rfl hCr.2 litS_length (by omega) (by omega) (by omega) read2').mono ?_
      rintro e w1 ⟨rfl, k1, f1⟩
      rw [litS_0]
      have K1 : Hid _ := k1; clear k1
      go_wp2_with fail
      refine bodyPost_ret (results_none rfl _ _ _) rfl ?_
      exact ⟨rfl, ⟨ov, K1.out, own_one hw f1⟩, hfr.trans (One.up f1)⟩

set_option maxHeartbeats 1000000 in
theorem fixedPair_new (B : Nat) (bv ov : Value) (p held left lim : Int) (w : World)
    (h : w.heap[B]? = some (RB bv p held left ov lim (.pointer none))) :
    Calls Tryd.prog 42 #[.pointer (some ⟨B, 0, none⟩)] w fun r w' => ∃ cl cd pb, r = .returned (.pointer (some ⟨pb, 0, none⟩)) ∧ Coded w' cl ∧ w.heap.size ≤ cl ∧ w.heap.size ≤ pb ∧
      w'.heap[pb]? = some (.cells #[.pointer (some ⟨cl, 0, none⟩), .pointer (some ⟨cd, 0, none⟩)] 106 (0, 0)) ∧ w'.heap[B]? = some (RB bv p held left ov lim (.pointer (some ⟨pb, 0, none⟩))) ∧ Fr (One B) w w' := by
  obtain ⟨c0, c1, c2, c3, c4, c5, c6, hf⟩ := rb_cells h
  have hB := lt_of_heap h
  have HH : Hid _ := h; clear h
  go_enter Tryd.func42, Tryd.ntmps42
  go_wp2_with fail
  refine (fixedLiterals_any w).mono ?_
  rintro e w1 ⟨rfl, k1, b1⟩
  have s1 := lt_of_heap k1
  have K1 : Hid _ := k1; clear k1
  go_wp2_with fail
  refine (make_any w.heap.size 0 288 288 288 lits 0 0 0 0 0 0 0 24 152 112 0 0 0 0 0 0 9 litC litN litS w1 rfl lits_length (by omega) (IntsAt.of_heap K1.out) lit_run1 lit_ok1 lit_run0 lit_ok0 (by omega) rfl lit_ok2).mono ?_
  rintro e w2 ⟨rfl, k2, k2', b2⟩
  have s2 := lt_of_heap k2'
  have K2 : Coded w2 w1.heap.size := ⟨k2, k2'⟩
  clear k2 k2'
  go_wp2_with fail
  refine (fixedDistances_any w2).mono ?_
  rintro e w3 ⟨rfl, k3, b3⟩
  have s3 := lt_of_heap k3
  have K3 : Hid _ := k3; clear k3
  go_wp2_with fail
  refine (make_any w2.heap.size 0 32 32 32 dists 0 0 0 0 0 32 0 0 0 0 0 0 0 0 0 0 5 distC distN _ w3 rfl dists_length (by omega) (IntsAt.of_heap K3.out) dist_run1 dist_ok1 dist_run0 dist_ok0 (by omega) rfl dist_ok2).mono ?_
  rintro e w4 ⟨rfl, k4, k4', b4⟩
  clear k4 k4'
  have f4 : Below w.heap.size w w4 := ((b1.trans (b2.mono (by omega))).trans (b3.mono (by omega))).trans (b4.mono (by omega))
  have h4 : w4.heap[B]? = some (RB bv p held left ov lim (.pointer none)) := (f4.block B hB).trans HH.out
  obtain ⟨d0, d1, d2, d3, d4, d5, d6, df⟩ := rb_cells h4
  have H4 : Hid _ := h4; clear h4
  have s4 := f4.size
  have hB4 : B < w4.heap.size := by omega
  have s34 := b4.size
  go_wp2_with fail
  go_ret
  have fc : Fr (fun k => w2.heap.size ≤ k) w2 w4 := Fr.of_below (b3.trans (b4.mono (by omega)))
  have hC : Coded w4 w1.heap.size := K2.keep fc (by omega) (by omega)
  refine ⟨w1.heap.size, w3.heap.size, w4.heap.size, rfl, ?_, by omega, by omega, ?_, ?_, ?_⟩
  · exact hC.keep (((Fr.refl (One B) w4).setCell (p := ⟨B, 6, none⟩) rfl _).alloc _) (by simp [One]; omega) (by simp [One]; omega)
  · have e : (w4.setCell ⟨B, 6, none⟩ (.pointer (some ⟨w4.heap.size, 0, none⟩))).heap.size = w4.heap.size := by simp [World.setCell]
    have := heap_alloc_new (w4.setCell ⟨B, 6, none⟩ (.pointer (some ⟨w4.heap.size, 0, none⟩))) (.cells #[.pointer (some ⟨w1.heap.size, 0, none⟩), .pointer (some ⟨w3.heap.size, 0, none⟩)] 106)
    rw [e] at this
    exact this
  · have := heap_set H4.out 6 (.pointer (some ⟨w4.heap.size, 0, none⟩))
    exact (heap_alloc_old (by simpa [World.setCell] using hB4) _).trans (by simpa using this)
  · have : Fr (One B) w w4 := ⟨f4.os, f4.tape, f4.output, f4.size, fun k hk _ => f4.block k hk⟩
    exact (this.setCell (p := ⟨B, 6, none⟩) rfl _).alloc _

set_option maxHeartbeats 1000000 in
theorem block_a (B b o c : Nat) (lim : Int) (w : World)
    (h : w.heap[B]? = some (RB (.slice (some ⟨b, o, none⟩) 3 c) 1 9 5 (.slice none 0 0) lim (.pointer none))) (hb : b < B) (hI : Lies w b o I3) (hlim : 1 ≤ lim) (hlim2 : lim ≤ 60000) :
    Calls Tryd.prog 23 #[.pointer (some ⟨B, 0, none⟩), .int .i64 1] w fun r w' => r = .returned (.tuple #[]) ∧
      (∃ ov fx, w'.heap[B]? = some (RB (.slice (some ⟨b, o, none⟩) 3 c) 3 0 6 ov lim fx) ∧ w'.ownsRow (B + 1) 5 1 ov 1 (bv8 [97])) ∧ Fr (fun k => B ≤ k) w w' := by
  have hB := lt_of_heap h
  have HH : Hid _ := h; clear h
  go_enter Tryd.func23, Tryd.ntmps23
  go_wp2_with fail
  refine (fixedPair_new B _ _ _ _ _ _ w HH.out).mono ?_
  rintro e w1 ⟨cl, cd, pb, rfl, hC, h1, h2, h3, h4, h5⟩
  have H3 : Hid _ := h3; clear h3
  have H4 : Hid _ := h4; clear h4
  go_wp2_with fail
  refine (symbols_a B b o c cl cd pb lim _ w1 H4.out hb (hI.keep h5 (by simp [One]; omega)) H3.out hC (by omega) (by omega) hlim hlim2).mono ?_
  rintro e w2 ⟨rfl, ⟨ov, h6, h7⟩, h8⟩
  have H6 : Hid _ := h6; clear h6
  go_wp2_with fail
  go_end0
  exact ⟨rfl, ⟨ov, _, H6.out, h7⟩, (One.up h5).trans h8⟩

set_option maxHeartbeats 1000000 in
theorem blocks_a (B b o c : Nat) (lim : Int) (w : World)
    (h : w.heap[B]? = some (RB (.slice (some ⟨b, o, none⟩) 3 c) 0 0 0 (.slice none 0 0) lim (.pointer none))) (hb : b < B) (hI : Lies w b o I3) (hlim : 1 ≤ lim) (hlim2 : lim ≤ 60000) :
    Calls Tryd.prog 15 #[.pointer (some ⟨B, 0, none⟩)] w fun r w' => r = .returned (.tuple #[]) ∧
      (∃ ov fx, w'.heap[B]? = some (RB (.slice (some ⟨b, o, none⟩) 3 c) 3 0 6 ov lim fx) ∧ w'.ownsRow (B + 1) 5 1 ov 1 (bv8 [97])) ∧ Fr (fun k => B ≤ k) w w' := by
  have hB := lt_of_heap h
  have HH : Hid _ := h; clear h
  go_enter Tryd.func15, Tryd.ntmps15
  go_wp2_with fail
  go_loopw [2] (fun t wr => (t = .bool false ∧ wr = w) ∨ (t = .bool true ∧ posOf B wr = 3 ∧ (∃ ov fx, wr.heap[B]? = some (RB (.slice (some ⟨b, o, none⟩) 3 c) 3 0 6 ov lim fx) ∧ wr.ownsRow (B + 1) 5 1 ov 1 (bv8 [97])) ∧ Fr (fun k => B ≤ k) w wr)) (fun _ wr => 3 - posOf B wr)
  case atStart => exact Or.inl ⟨rfl, rfl⟩
  case round =>
    rcases hrel with ⟨rfl, rfl⟩ | ⟨rfl, hpos, ⟨ov, fx, hh, hw⟩, hfr⟩
    · have HPO : Hid (posOf B wr = 0) := posOf_rb (p := 0) HH.out
      go_wp2_with fail
      refine (bit_fresh B b o 3 c 0 0 lim 75 _ _ wr HH.out (by omega) (by decide) (by omega) (hI 0 (by decide)) (by omega) (by omega)).mono ?_
      rintro e w1 ⟨rfl, k1, f1⟩
      have K1 : Hid _ := k1; clear k1
      go_wp2_with fail
      refine (number_two B 5 1 37 lim _ _ _ w1 K1.out (by omega) (by omega) (by omega)).mono ?_
      rintro e w2 ⟨rfl, k2, f2⟩
      have K2 : Hid _ := k2; clear k2
      go_wp2_with fail
      refine (block_a B b o c lim w2 K2.out hb ((hI.keep f1 (by simp [One]; omega)).keep f2 (by simp [One]; omega)) hlim hlim2).mono ?_
      rintro e w3 ⟨rfl, ⟨ov, fx, k3, o3⟩, f3⟩
      have K3 : Hid _ := k3; clear k3
      have p3 := posOf_rb (p := 3) K3.out
      have P3 : Hid _ := p3; clear p3
      go_wp2_with fail
      go_roundw
      case rel => exact Or.inr ⟨rfl, P3.out, ⟨ov, fx, K3.out, o3⟩, (One.up (f1.trans f2)).trans f3⟩
      case measure => rw [HPO.out, P3.out]; omega
    · have H2 : Hid _ := hh; clear hh
      clear hpos
      go_wp2_with fail
      go_end0
      exact ⟨rfl, ⟨ov, fx, H2.out, hw⟩, hfr⟩

end Go.Proofs.YtdpobjgfnhjagaaDoor

namespace Go.Proofs.YtdpobjgfnhjagaaDoor
open Go.RowKit

theorem stream_a (b o c : Nat) (lim : Int) (w : World) (hb : b < w.heap.size) (hI : Lies w b o I3) (hl0 : 1 ≤ lim) (hlim : lim ≤ 60000) :
    Calls Tryd.prog 12 #[.slice (some ⟨b, o, none⟩) 3 c, .int .i64 lim] w (Answer w [97] 3) := by
  obtain ⟨a0, a1, a2, a3, a4, a5⟩ := W0_heap w (.slice (some ⟨b, o, none⟩) 3 c) lim
  have hI0 : Lies (W0 w (.slice (some ⟨b, o, none⟩) 3 c) lim) b o I3 := hI.keep (Fr.of_below a5) (by omega)
  have hB := blocks_a (w.heap.size + 3) b o c lim (W0 w (.slice (some ⟨b, o, none⟩) 3 c) lim) a3 (by omega) hI0 hl0 hlim
  refine (stream_of (some ⟨b, o, none⟩) 3 c lim w (by omega) hlim _ hB ?_).mono ?_
  · rintro e w1 ⟨h1, ⟨ov, fx, h2, h3⟩, h4⟩
    obtain ⟨ao, cp, rfl⟩ := owns_slice h3
    exact ⟨h4, Or.inl ⟨h1, _, _, _, _, _, _, _, h2⟩⟩
  · rintro e w' ⟨e1, w1, ⟨h1, ⟨ov, fx, h2, h3⟩, h4⟩, hc⟩
    have hbel : Below w.heap.size w w1 := a5.trans (h4.below (by omega) (by intro k hk; omega))
    rcases hc with ⟨q, held, left, fx', oa, on, oc, _, f, hB2, rfl⟩ | ⟨x, h5, _, _⟩
    · have hbel' : Below w.heap.size w w' := hbel.trans (f.below hbel.size (by intro k hk; omega))
      rw [hB2] at h2
      obtain ⟨ao, cp, rfl⟩ := owns_slice h3
      simp at h2
      obtain ⟨rfl, rfl, rfl, ⟨rfl, rfl, rfl⟩, rfl⟩ := h2
      refine ⟨_, rfl, ?_, hbel'⟩
      have h6 := owns_keep (w' := w') h3 fun g hg hs => f.block g hs (by have := (owns_block h3 hg).1; omega)
      exact owns_base (base' := w.heap.size) h6 (by omega)
    · rw [h5] at h1
      cases h1

theorem conv_owned {w : World} {base : Nat} {ov : Value} {out : List UInt8} (h : w.ownsRow base 5 1 ov out.length (bv8 out)) :
    (convert 25 9 ov).run Tryd.prog w = .ok (.string ⟨out.toArray⟩) w := by
  rcases h.2 with ⟨h1, h2⟩ | ⟨g, cap, cur, h1, h2, h3, h4, h5, h6, h7⟩
  · have : out = [] := List.eq_nil_of_length_eq_zero h2
    subst this
    rw [h1, run_convert_bytes_nil w 25 5 Tryd.underlying25 Tryd.underlying5 0 0 9 Tryd.underlying9]
    rfl
  · rw [h1]
    refine run_convert_bytes_back w 25 9 5 ⟨g, 0, none⟩ cap out Tryd.underlying25 Tryd.underlying5 Tryd.underlying9 ?_
    intro j hj
    rw [show (⟨g, 0, none⟩ : Addr).add j = ⟨g, j, none⟩ by simp [Addr.add]; intro h; exact h.symm, cell_of_heap h3]
    have e : (cur.toList.take (out.length * 1))[j]? = (bv8 out)[j]? := by rw [h7]
    rw [List.getElem?_take, if_pos (by omega)] at e
    simp only [Array.getElem?_toList] at e
    rw [e]
    simp [bv8, hj]

set_option maxHeartbeats 400000 in
theorem inflates_true (w : World) : Calls Tryd.prog 6 #[] w fun e w' => e = .returned (.bool true) ∧ Below w.heap.size w w' := by
  go_enter Tryd.func6, Tryd.ntmps6
  go_wp2_with fail
  have hL : Lies (w.alloc (.cells #[.int .u8 75, .int .u8 4, .int .u8 0] 5)) w.heap.size 0 I3 := by
    intro i hi
    have hh := heap_alloc_new w (.cells #[.int .u8 75, .int .u8 4, .int .u8 0] 5)
    rw [cell_of_heap hh]
    match i, hi with
    | 0, _ => rfl
    | 1, _ => rfl
    | 2, _ => rfl
  refine (inflate_of _ 9 _ _ (stream_a w.heap.size 0 3 9 _ (by simp) hL (by omega) (by omega)) ?_).mono ?_
  · rintro e w' ⟨ov, rfl, _, _⟩
    exact ⟨_, _, _, rfl⟩
  rintro e w1 ⟨ov, rfl, hown, hbel⟩
  have hcv := conv_owned hown
  go_wp2_with fail
  go_ret
  exact ⟨rfl, ((Below.refl _ _).alloc (Nat.le_refl _) _).trans (hbel.mono (by simp))⟩

set_option maxHeartbeats 400000 in
theorem pick_any (c n : Int) (w : World) (hc : -9223372036854775808 ≤ c ∧ c ≤ 9223372036854775807) (hn : 0 < n) (hn2 : n ≤ 100000) :
    Calls Tryd.prog 7 #[.int .i64 c, .int .i64 n] w fun e w' => (∃ r : Int, e = .returned (.int .i64 r) ∧ 0 ≤ r ∧ r < n) ∧ w' = w := by
  by_cases h : c < 0
  · go_enter Tryd.func7, Tryd.ntmps7
    go_wp2_with fail
    go_ret
    refine ⟨⟨-((c + 1).tmod n), rfl, ?_⟩, rfl⟩
    have e : -((c + 1).tmod n) = (-(c + 1)) % n := by rw [← Int.neg_tmod, Int.tmod_eq_emod_of_nonneg (by omega)]
    rw [e]
    exact ⟨Int.emod_nonneg _ (by omega), Int.emod_lt_of_pos _ hn⟩
  · go_enter Tryd.func7, Tryd.ntmps7
    go_wp2_with fail
    go_ret
    exact ⟨⟨c % n, rfl, Int.emod_nonneg _ (by omega), Int.emod_lt_of_pos _ hn⟩, rfl⟩

end Go.Proofs.YtdpobjgfnhjagaaDoor

namespace Go.Proofs.YtdpobjgfnhjagaaDoor
open Go.RowKit

def c40 : Array Value := #[.int .u8 97, .int .u8 97, .int .u8 97, .int .u8 97, .int .u8 97, .int .u8 97, .int .u8 97, .int .u8 97, .int .u8 97, .int .u8 97, .int .u8 97, .int .u8 97, .int .u8 97, .int .u8 97, .int .u8 97, .int .u8 97, .int .u8 97, .int .u8 97, .int .u8 97, .int .u8 97, .int .u8 97, .int .u8 97, .int .u8 97, .int .u8 97, .int .u8 97, .int .u8 97, .int .u8 97, .int .u8 97, .int .u8 97, .int .u8 97, .int .u8 97, .int .u8 97, .int .u8 97, .int .u8 97, .int .u8 97, .int .u8 97, .int .u8 97, .int .u8 97, .int .u8 97, .int .u8 97]

set_option maxRecDepth 100000 in
set_option maxHeartbeats 4000000 in
theorem deflates_walk (w : World) (Q : World → Prop)
    (h : ∀ W, W = w.alloc (.cells c40 5 (40, 41)) → Calls Tryd.prog 11 #[.slice (some ⟨w.heap.size, 0, none⟩) 40 40, .int .i64 6] W fun e w' => ∃ ao m c, e = .returned (.tuple #[.slice ao m c, .int .i64 0]) ∧ 0 < m ∧ m ≤ 20 ∧ Q w') :
    Calls Tryd.prog 9 #[] w fun e w' => e = .returned (.bool true) ∧ Q w' := by
  have kc := fun (w : World) (C : Array Value) (n c : Nat) => Lib.run_convert_bytes_const (P := Tryd.prog) w 25 5 C n c Tryd.underlying25 Tryd.underlying5
  go_enter Tryd.func9, Tryd.ntmps9
  go_wp2_with fail
  refine (h _ rfl).mono ?_
  rintro e w1 ⟨ao, m, c, rfl, h1, h2, q⟩
  have h1i : (0 : Int) < (m : Int) := by omega
  have h2i : (m : Int) ≤ 20 := by omega
  go_wp2_with fail
  go_ret
  exact ⟨rfl, q⟩

theorem inflE_nil (lim : Int) (b : List UInt8) (n : Nat) : inflE [] lim ≠ .ok (b, n) := by
  intro h
  have e : blksGo [] lim (8 * ([] : List UInt8).length + 1) 0 [] = .error 2 := rfl
  unfold inflE at h
  rw [e] at h
  cases h

theorem StrOf.pos {b s : List UInt8} (h : StrOf b s) : 0 < s.length := by
  rcases Nat.eq_zero_or_pos s.length with c | c
  · exfalso
    have : s = [] := List.length_eq_zero_iff.1 c
    subst this
    have := h [] b.length (by omega)
    rw [if_pos (Int.le_refl _)] at this
    exact inflE_nil _ _ _ this
  · exact c

/-- Equal bytes make a short stream. -/
theorem str_equal {b s : List UInt8} {lev : Nat} (h : StrOk b lev s) (hl : 1 ≤ lev) (he : EqB b) : s.length ≤ 20 + b.length / 100 := by
  obtain ⟨ts, h1, h2⟩ := h.rep hl
  have h3 := h1.eq he
  have h4 : (fixedBits (ts.map toTok)).length = 3 + (toksBits lits dists (ts.map toTok)).length + 7 := by
    have e1 : (headBits 1).length = 3 := rfl
    have e2 : (codeBits lits 256).length = 7 := by unfold codeBits; rw [msb_length]; decide +kernel
    unfold fixedBits
    rw [List.length_append, List.length_append, e1, e2]; omega
  rw [pack_length] at h2
  unfold EB at h3
  omega

theorem rep_get (n : Nat) (c : UInt8) (i : Nat) (h : i < n) : (List.replicate n c).getD i 0 = c := by simp [List.getD, h]
theorem rep_getV (n : Nat) (c : Value) (i : Nat) (h : i < n) : (List.replicate n c).toArray[i]? = some c := by simp [h]
theorem rep_eq (n : Nat) (c : UInt8) : EqB (List.replicate n c) := fun i j hi hj => by
  rw [List.length_replicate] at hi hj
  rw [rep_get n c i hi, rep_get n c j hj]

theorem lies40 (w : World) : Lies (w.alloc (.cells c40 5 (40, 41))) w.heap.size 0 (List.replicate 40 97) := by
  intro i hi
  have hi' : i < 40 := by rw [List.length_replicate] at hi; exact hi
  have hh := heap_alloc_new w (.cells c40 5 (40, 41))
  rw [cell_of_heap hh, Nat.zero_add]
  rw [rep_get 40 97 i hi']
  have e : c40 = (List.replicate 40 (Value.int .u8 97)).toArray := rfl
  rw [e, rep_getV 40 _ i hi']
  rfl

theorem deflates_true (w : World) (hO : OrdAt w) (h0 : 0 < w.heap.size) : Calls Tryd.prog 9 #[] w fun e w' => e = .returned (.bool true) ∧ Below w.heap.size w w' := by
  refine deflates_walk w (fun w' => Below w.heap.size w w') ?_
  intro W hW
  have hbW : Below w.heap.size w W := by rw [hW]; exact (Fr.refl Non w).alloc _ |>.below (Nat.le_refl _) (fun k hk => hk.elim)
  have hL : Lies W w.heap.size 0 (List.replicate 40 97) := by rw [hW]; exact lies40 w
  have hlt : w.heap.size < W.heap.size := by rw [hW]; simp
  refine (deflate_any w.heap.size 0 40 6 (List.replicate 40 97) W hL hlt (by simp) (by omega) (hO.below hbW h0)).mono ?_
  rintro e w' ⟨v, rfl, s, hs, hown, hb⟩
  obtain ⟨ao, c, rfl⟩ := owns_slice hown
  have h1 := str_equal hs (by omega) (rep_eq 40 97)
  rw [List.length_replicate] at h1
  exact ⟨ao, _, c, rfl, hs.str.pos, by omega, hbW.trans (hb.mono (by omega))⟩
end Go.Proofs.YtdpobjgfnhjagaaDoor

namespace Go.Proofs.YtdpobjgfnhjagaaDoor
open Go.RowKit

/-- At most three places are not 0. -/
theorem three_sum (f : Nat → Nat) (a b c n : Nat) (h : ∀ i, i < n → f i ≠ 0 → i = a ∨ i = b ∨ i = c) : sumTo (fun i => if f i = 0 then 0 else 1) n ≤ 3 := by
  have h1 := sumTo_le (fun i => if f i = 0 then 0 else 1) (fun i => (if i = a then 1 else 0) + ((if i = b then 1 else 0) + (if i = c then 1 else 0))) n (fun i hi => by
    by_cases e : f i = 0
    · simp only [e, if_true]; omega
    · simp only [e, if_false]
      rcases h i hi e with q | q | q
      · rw [if_pos q]; omega
      · rw [if_pos q]; omega
      · rw [if_pos q]; omega)
  rw [sumTo_add, sumTo_add, sumTo_one, sumTo_one, sumTo_one] at h1
  have h2 : ∀ p : Nat, (if p < n then 1 else 0) ≤ 1 := fun p => by by_cases q : p < n <;> simp [q]
  have := h2 a; have := h2 b; have := h2 c
  omega

theorem sgl_mem (b : List UInt8) (t : GT) (h : t ∈ sgl b b.length) : ∃ i, i < b.length ∧ t = ⟨b.getD i 0, 0, 0⟩ := by
  simp only [sgl, List.mem_map, List.mem_range] at h
  obtain ⟨i, hi, rfl⟩ := h
  exact ⟨i, hi, by rw [if_pos hi]⟩

theorem toks_two_bits (L D : List Nat) (ts : List Tok) (h : ∀ t ∈ ts, (tokBits L D t).length ≤ 2) : (toksBits L D ts).length ≤ 2 * ts.length := by
  induction ts with
  | nil => simp [toksBits]
  | cons t r ih =>
    have h1 := h t (by simp)
    have h2 := ih (fun t ht => h t (by simp [ht]))
    simp only [toksBits, List.length_append, List.length_cons]
    omega

/-- Bytes of two kinds make a short stream. -/
theorem kinds_short {b : List UInt8} {c d : UInt8} (h2 : ∀ i, i < b.length → b.getD i 0 = c ∨ b.getD i 0 = d) {bits : List Nat} (hW : DynW (sgl b b.length) bits) : (pack bits).length ≤ 60 + b.length / 4 := by
  obtain ⟨lo, dO, ln, dn, gk, gk2, A, D, cl, ops, told, hA, hD, hR, rfl⟩ := hW
  have hAl : A.length = 286 := by rw [hA.ok.len, tab_length]
  have hDl : D.length = 30 := by rw [hD.ok.len, tab_length]
  -- which symbols come
  have hsy : ∀ s, s < 286 → cntE (sgl b b.length) s ≠ 0 → s = c.toNat ∨ s = d.toNat ∨ s = 256 := by
    intro s _ hs
    unfold cntE at hs
    by_cases e : s = 256
    · exact Or.inr (Or.inr e)
    · rw [if_neg e] at hs
      unfold cntS at hs
      obtain ⟨t, ht, hts⟩ := List.countP_pos_iff.1 (Nat.pos_of_ne_zero hs)
      obtain ⟨i, hi, rfl⟩ := sgl_mem b t ht
      have htk : toTok ⟨b.getD i 0, 0, 0⟩ = ⟨(b.getD i 0).toNat, 0, 0, 0⟩ := if_pos rfl
      rw [htk] at hts
      simp only [decide_eq_true_eq] at hts
      rcases h2 i hi with q | q
      · rw [q] at hts; exact Or.inl hts.symm
      · rw [q] at hts; exact Or.inr (Or.inl hts.symm)
  have hA0 : ∀ i, gd A i ≠ 0 → i = c.toNat ∨ i = d.toNat ∨ i = 256 := by
    intro i hi
    rcases Nat.lt_or_ge i 286 with q | q
    · refine hsy i q (fun h0 => hi ((hA.ok.pos i (by rw [tab_length]; exact q)).2 ?_))
      rw [gd_tab _ _ _ q]; exact h0
    · exact absurd (gd_big A i (by omega)) hi
  have hD0 : ∀ i, gd D i = 0 := by
    intro i
    rcases Nat.lt_or_ge i 30 with q | q
    · refine (hD.ok.pos i (by rw [tab_length]; exact q)).2 ?_
      rw [gd_tab _ _ _ q]
      unfold cntD
      refine List.countP_eq_zero.2 (fun t ht => ?_)
      obtain ⟨j, _, rfl⟩ := sgl_mem b t ht
      simp
    · exact gd_big D i (by omega)
  have hpN : posN (tab (cntE (sgl b b.length)) 286) ≤ 3 := by
    unfold posN
    rw [tab_length]
    refine three_sum _ c.toNat d.toNat 256 286 (fun i hi h => hsy i hi ?_)
    rw [gd_tab _ _ _ hi] at h
    exact h
  have hpE := cntE_end (sgl b b.length)
  have hA2 : ∀ i, gd A i ≤ 2 := by
    intro i
    rcases Nat.lt_or_ge i 286 with q | q
    · rcases Nat.lt_or_ge (posN (tab (cntE (sgl b b.length)) 286)) 2 with e | e
      · have := hA.ok.one (by omega) i (by rw [tab_length]; exact q); omega
      · have := hA.ok.few e i (by rw [tab_length]; exact q); omega
    · rw [gd_big A i (by omega)]; omega
  have hL : (A.take ln ++ D.take dn).length = ln + dn := by rw [List.length_append, hA.len, hD.len]
  have hgL : ∀ i, gd (A.take ln ++ D.take dn) i ≠ 0 → gd A i ≠ 0 := by
    intro i hi h0
    apply hi
    unfold gd
    rcases Nat.lt_or_ge i ln with q | q
    · have e := hA.front.eq i
      rw [h0] at e
      rw [List.getD_eq_getElem?_getD, List.getElem?_append_left (by rw [hA.len]; exact q), ← List.getD_eq_getElem?_getD]
      exact e
    · have e := hD.front.eq (i - ln)
      rw [hD0] at e
      rw [List.getD_eq_getElem?_getD, List.getElem?_append_right (by rw [hA.len]; exact q), hA.len, ← List.getD_eq_getElem?_getD]
      exact e
  have hnz : nzT (A.take ln ++ D.take dn) (ln + dn) ≤ 3 := three_sum _ c.toNat d.toNat 256 _ (fun i _ h => hA0 i (hgL i h))
  have hops : ops.length ≤ 13 := by
    obtain ⟨t, ht, hm, _⟩ := hR.rn.few
    rw [hL] at hm
    have h3 := hA.l2
    have h4 := hD.l2
    have : (ln + dn) / 138 ≤ 2 := by omega
    omega
  have hcl19 : cl.length = 19 := by rw [hR.ok.len, tab_length]
  have hcl : ∀ x ∈ cl, x ≤ 7 := Front.lt (⟨by omega, fun _ => rfl⟩ : Front cl cl) hR.ok
  have hrb := ropsBits_le cl (fun x hx => by have := hcl x hx; omega) ops
  have hout : ropsOut ops [] = A.take ln ++ D.take dn := by rw [hR.rn.out, List.take_length]
  have ht : (ropsOut ops []).take ln = A.take ln := by rw [hout, List.take_append_of_le_length (by rw [hA.len]; omega), List.take_of_length_le (by rw [hA.len]; omega)]
  have hcb : ∀ s, (codeBits (A.take ln) s).length ≤ 2 := by
    intro s
    unfold codeBits
    rw [msb_length]
    have e := hA.front.eq s
    unfold gd at e
    rw [e]; exact hA2 s
  have htb : (toksBits ((ropsOut ops []).take ln) ((ropsOut ops []).drop ln) ((sgl b b.length).map toTok)).length ≤ 2 * b.length := by
    have := toks_two_bits ((ropsOut ops []).take ln) ((ropsOut ops []).drop ln) ((sgl b b.length).map toTok) (fun t h => by
      obtain ⟨u, hu, rfl⟩ := List.mem_map.1 h
      obtain ⟨i, hi, rfl⟩ := sgl_mem b u hu
      have htk : toTok ⟨b.getD i 0, 0, 0⟩ = ⟨(b.getD i 0).toNat, 0, 0, 0⟩ := if_pos rfl
      rw [htk, ht]
      unfold tokBits
      have h256 : (b.getD i 0).toNat < 256 := (b.getD i 0).toNat_lt
      simp only [h256, if_true, List.append_nil]
      exact hcb _)
    rw [List.length_map, sgl_length] at this
    exact this
  have hc6 := hcb 256
  have hcb2 := clBits_length cl told 0
  have ht19 := hR.t19
  have hhd : (headBits 2).length = 3 := rfl
  rw [pack_length]
  unfold dynamicBits dynBits
  rw [ht] at htb ⊢
  simp only [List.length_append, lsb_length, hhd]
  omega
end Go.Proofs.YtdpobjgfnhjagaaDoor

namespace Go.Proofs.YtdpobjgfnhjagaaDoor
open Go.RowKit

set_option maxRecDepth 100000 in
set_option maxHeartbeats 4000000 in
theorem small_walk (n0 cI dI lev : Int) (ra : Option Addr) (rn rc : Nat) (rb roff : Nat) (w : World) (hra : 0 < rn → ra = some ⟨rb, roff, none⟩)
    (R1 : World → Prop) (R2 : Nat → World → Prop) (R3 : Nat → Nat → World → Prop) (J K : Nat → Nat → Nat → Nat → World → Prop) (Q : World → Prop)
    (h9 : Calls Tryd.prog 9 #[] w fun e w1 => e = .returned (.bool true) ∧ R1 w1)
    (h7 : ∀ w1, R1 w1 → Calls Tryd.prog 7 #[.int .i64 n0, .int .i64 30001] w1 fun e w2 => ∃ N : Nat, e = .returned (.int .i64 (N : Int)) ∧ N ≤ 30000 ∧ R2 N w2)
    (h7b : ∀ N w2, R2 N w2 → Calls Tryd.prog 7 #[.int .i64 lev, .int .i64 9] w2 fun e w3 => ∃ l : Nat, e = .returned (.int .i64 (l : Int)) ∧ l ≤ 8 ∧ R3 N l w3)
    (hJ0 : ∀ N l w3 w4, R3 N l w3 → w4.ownsRow w3.heap.size 5 1 (.slice (some ⟨w3.heap.size, 0, none⟩) N N) N (madeCells (Value.int .u8 0).cells N).toList → w3.grownBy w4 none → J w3.heap.size N l 0 w4)
    (hJ : ∀ B N l i w4, i < N → J B N l i w4 → (∃ z, w4.cell? ⟨B, i, none⟩ = some (.int .u8 z)) ∧ (∀ k, w4.frozen? ⟨B, k, none⟩ = false) ∧ J B N l (i + 1) (w4.setCell ⟨B, i, none⟩ (.int .u8 cI)))
    (h11 : ∀ B N l w4, J B N l N w4 → Calls Tryd.prog 11 #[.slice (some ⟨B, 0, none⟩) N N, .int .i64 (1 + (l : Int))] w4 fun e w5 => ∃ ao m c, e = .returned (.tuple #[.slice ao m c, .int .i64 0]) ∧ m ≤ 20 + N / 100 ∧ K B N l 0 w5)
    (hK : ∀ B N l i w4, i < N → K B N l i w4 → K B N l (i + 1) w4 ∧ (∃ z, w4.cell? ⟨B, i, none⟩ = some (.int .u8 z)) ∧ (∀ k, w4.frozen? ⟨B, k, none⟩ = false) ∧ K B N l (i + 1) (w4.setCell ⟨B, i, none⟩ (.int .u8 dI)))
    (hraw : ∀ B N l i w4 j, K B N l i w4 → j < rn → ∃ z, w4.cell? ⟨rb, roff + j, none⟩ = some (.int .i64 z))
    (h11b : ∀ B N l w4, K B N l N w4 → Calls Tryd.prog 11 #[.slice (some ⟨B, 0, none⟩) N N, .int .i64 (1 + (l : Int))] w4 fun e w5 => ∃ ao m c, e = .returned (.tuple #[.slice ao m c, .int .i64 0]) ∧ m ≤ 60 + N / 4 ∧ Q w5) :
    Calls Tryd.prog 5 #[.int .i64 n0, .int .u8 cI, .int .u8 dI, .slice ra rn rc, .int .i64 lev] w fun e w' => e = .returned (.bool true) ∧ Q w' := by
  obtain ⟨i0, hi, hz0, hz1, hz2⟩ := info_parts info5
  have HRA : Hid _ := hra
  clear hra
  go_enter Tryd.func5, Tryd.ntmps5
  go_wp2_with fail
  refine h9.mono ?_
  rintro e w1 ⟨rfl, r1⟩
  go_wp2_with fail
  refine (h7 w1 r1).mono ?_
  rintro e w2 ⟨N, rfl, hN, r2⟩
  clear r1
  go_wp2_with fail
  refine (h7b N w2 r2).mono ?_
  rintro e w3 ⟨l, rfl, hl, r3⟩
  clear r2
  have hNi : (N : Int) ≤ 30000 := by omega
  have hli : (l : Int) ≤ 8 := by omega
  go_wp2_with (at_make; refine wpList_make_full _ rfl _ _ 25 rfl w3.heap.size 5 i0 (.int .u8 0) 1 underlying25 hi hz0 hz1 .i64 .i64 N N N rfl rfl rfl rfl ?b1 ?b2 ?b3 ?go)
  case b1 => rw [hz2]; omega
  case b2 => unfold maxLen; omega
  case b3 => simp
  case go =>
    intro w4 hown hg4
    have j0 := hJ0 N l w3 w4 r3 hown hg4
    clear hown hg4 r3
    generalize w3.heap.size = B at j0
    go_wp2_with fail
    go_loopw [13] (fun iv wr => ∃ i : Nat, i ≤ N ∧ iv = .int .i64 i ∧ J B N l i wr) (fun iv _ => N - (intOf iv).toNat)
    case atStart => exact ⟨0, by omega, rfl, j0⟩
    case round =>
      obtain ⟨i, hiN, rfl, j⟩ := hrel
      by_cases hlt : i < N
      · have hlti : (i : Int) < (N : Int) := by omega
        obtain ⟨⟨z, hz⟩, hfz, j2⟩ := hJ B N l i wr hlt j
        clear j
        go_wp2_with fail
        go_roundw
        case rel => exact ⟨i + 1, by omega, by go_num, j2⟩
        case measure => simp [intOf]; omega
      · obtain rfl : i = N := by omega
        clear j0
        go_wp2_with fail
        refine (h11 B i l wr j).mono ?_
        rintro e w5 ⟨ao, m, c, rfl, hm, k0⟩
        clear j
        have hmi : ¬ (20 + (i : Int) / 100 < (m : Int)) := by omega
        go_wp2_with fail
        go_loopw [16, 17] (fun xv iv wr => ∃ (k : Nat) (x : Int), k ≤ i ∧ iv = .int .i64 k ∧ xv = .int .i64 x ∧ K B i l k wr) (fun _ iv _ => i - (intOf iv).toNat)
        case atStart => exact ⟨0, 1, by omega, rfl, rfl, k0⟩
        case round =>
          obtain ⟨k, x, hkN, rfl, rfl, hk⟩ := hrel
          by_cases hlt2 : k < i
          · have hlti : (k : Int) < (i : Int) := by omega
            obtain ⟨hk1, ⟨z, hz⟩, hfz, hk2⟩ := hK B i l k wr hlt2 hk
            by_cases hr0 : 0 < rn
            · obtain rfl := HRA.out hr0
              have hr0i : (0 : Int) < (rn : Int) := by omega
              obtain ⟨q, hq⟩ : ∃ q : Nat, (k : Int) % (rn : Int) = (q : Int) := ⟨k % rn, by omega⟩
              have hqr : q < rn := by have := Int.emod_lt_of_pos (k : Int) hr0i; omega
              have hqri : (q : Int) < (rn : Int) := by omega
              obtain ⟨y, hy⟩ := hraw B i l k wr q hk hqr
              clear hk
              go_wp2_with fail
              · exact ⟨⟨k + 1, _, by omega, by go_num, rfl, hk2⟩, by simp [intOf]; omega⟩
              · exact ⟨⟨k + 1, _, by omega, by go_num, rfl, hk1⟩, by simp [intOf]; omega⟩
            · have hr0i : ¬ ((0 : Int) < (rn : Int)) := by omega
              clear hr0 hk
              go_wp2_with fail
              · exact ⟨⟨k + 1, _, by omega, by go_num, rfl, hk2⟩, by simp [intOf]; omega⟩
              · exact ⟨⟨k + 1, _, by omega, by go_num, rfl, hk1⟩, by simp [intOf]; omega⟩
          · obtain rfl : k = i := by omega
            clear k0
            go_wp2_with fail
            refine (h11b B k l wr hk).mono ?_
            rintro e w6 ⟨ao2, m2, c2, rfl, hm2, q⟩
            have hmi2 : (m2 : Int) ≤ 60 + (k : Int) / 4 := by omega
            go_wp2_with fail
            go_ret
            exact ⟨rfl, q⟩
end Go.Proofs.YtdpobjgfnhjagaaDoor

namespace Go.Proofs.YtdpobjgfnhjagaaDoor
open Go.RowKit

set_option maxHeartbeats 400000 in
theorem pick_big (c n : Int) (w : World) (hc : -9223372036854775808 ≤ c ∧ c ≤ 9223372036854775807) (hn : 0 < n) (hn2 : n ≤ 2000000) :
    Calls Tryd.prog 7 #[.int .i64 c, .int .i64 n] w fun e w' => (∃ r : Int, e = .returned (.int .i64 r) ∧ 0 ≤ r ∧ r < n) ∧ w' = w := by
  by_cases h : c < 0
  · go_enter Tryd.func7, Tryd.ntmps7
    go_wp2_with fail
    go_ret
    refine ⟨⟨-((c + 1).tmod n), rfl, ?_⟩, rfl⟩
    have e : -((c + 1).tmod n) = (-(c + 1)) % n := by rw [← Int.neg_tmod, Int.tmod_eq_emod_of_nonneg (by omega)]
    rw [e]
    exact ⟨Int.emod_nonneg _ (by omega), Int.emod_lt_of_pos _ hn⟩
  · go_enter Tryd.func7, Tryd.ntmps7
    go_wp2_with fail
    go_ret
    exact ⟨⟨c % n, rfl, Int.emod_nonneg _ (by omega), Int.emod_lt_of_pos _ hn⟩, rfl⟩

theorem u8_some (z : Int) : ∃ u : UInt8, z % 256 = (u.toNat : Int) := by
  refine ⟨UInt8.ofNat (z % 256).toNat, ?_⟩
  rw [UInt8.toNat_ofNat']
  omega

/-- The bytes that are made so far. -/
structure MadeI (base : Nat) (w : World) (v : Value) (n : Nat) (bs : List UInt8) : Prop where
  own : w.ownsRow base 5 1 v n (bv8 bs)
  len : bs.length = n
  le : n ≤ 12000

theorem made_step {w wr w' : World} {g n c : Nat} {v' : Value} {bs : List UInt8} {z : Int} (o : Obj) (hM : MadeI w.heap.size wr (.slice (some ⟨g, 0, none⟩) n c) n bs) (hn : n < 12000) (hB : Below w.heap.size w wr)
    (hown : w'.ownsRow w.heap.size 5 1 v' (n + 1) (bv8 bs ++ [.int .u8 (z % 256)])) (hgrow : (wr.alloc o).grownBy w' (Value.slice (some ⟨g, 0, none⟩) n c).ownBlock) :
    ∃ g' c' bs', v' = .slice (some ⟨g', 0, none⟩) (n + 1) c' ∧ MadeI w.heap.size w' (.slice (some ⟨g', 0, none⟩) (n + 1) c') (n + 1) bs' ∧ Below w.heap.size w w' := by
  obtain ⟨u, hu⟩ := u8_some z
  rw [hu] at hown
  have e : bv8 bs ++ [Value.int .u8 (u.toNat : Int)] = bv8 (bs ++ [u]) := by simp [bv8]
  rw [e] at hown
  obtain ⟨g', c', rfl⟩ : ∃ g' c', v' = .slice (some ⟨g', 0, none⟩) (n + 1) c' := by
    rcases hown.2 with ⟨_, h⟩ | ⟨g', c', _, h, _⟩
    · omega
    · exact ⟨g', c', h⟩
  refine ⟨g', c', bs ++ [u], rfl, ⟨hown, by rw [List.length_append, hM.len]; rfl, by omega⟩, ?_⟩
  have hf : Below w.heap.size wr w' := ((Below.refl w.heap.size wr).alloc hB.size o).grown hgrow (by have := hB.size; simp; omega) (fun k hk => (owns_block hM.own hk).1)
  exact hB.trans hf

set_option maxRecDepth 100000 in
set_option maxHeartbeats 4000000 in
theorem made_none (ao : Option Addr) (cap : Nat) (w : World) :
    Calls Tryd.prog 10 #[.slice ao 0 cap] w fun e w' => e = .returned (.slice (some ⟨w.heap.size, 0, none⟩) 0 0) ∧ w' = w.alloc (.cells #[] 5) := by
  go_enter Tryd.func10, Tryd.ntmps10
  go_wp2_with fail
  go_loopw [3, 4] (fun ov i wr => ov = .slice (some ⟨w.heap.size, 0, none⟩) 0 0 ∧ i = .int .i64 0 ∧ wr = w.alloc (.cells #[] 5)) (fun _ _ _ => 0)
  case atStart => exact ⟨rfl, rfl, rfl⟩
  case round =>
    obtain ⟨rfl, rfl, rfl⟩ := hrel
    go_wp2_with fail
    go_ret
    exact ⟨rfl, rfl⟩

set_option maxRecDepth 100000 in
set_option maxHeartbeats 4000000 in
theorem made_some (b o len cap : Nat) (K N C : Nat → Int) (w : World) (hb : b < w.heap.size) (hlen : len ≤ maxLen)
    (hk : ∀ i, i < len → w.cell? ⟨b, o + i * 3, none⟩ = some (.int .i64 (K i)) ∧ -9223372036854775808 ≤ K i ∧ K i ≤ 9223372036854775807)
    (hn : ∀ i, i < len → w.cell? ⟨b, o + i * 3 + 1, none⟩ = some (.int .i64 (N i)) ∧ -9223372036854775808 ≤ N i ∧ N i ≤ 9223372036854775807)
    (hc : ∀ i, i < len → w.cell? ⟨b, o + i * 3 + 2, none⟩ = some (.int .i64 (C i)) ∧ -9223372036854775808 ≤ C i ∧ C i ≤ 9223372036854775807) :
    Calls Tryd.prog 10 #[.slice (some ⟨b, o, none⟩) len cap] w fun e w' => ∃ g n c bs, e = .returned (.slice (some ⟨g, 0, none⟩) n c) ∧ MadeI w.heap.size w' (.slice (some ⟨g, 0, none⟩) n c) n bs ∧ Below w.heap.size w w' := by
  obtain ⟨i0, hi, hz0, hz1, hz2⟩ := info_parts info5
  have HK : Hid _ := hk
  have HN : Hid _ := hn
  have HC : Hid _ := hc
  clear hk hn hc
  have hl2 : (len : Int) ≤ 9223372036854775807 := by unfold maxLen at hlen; omega
  go_enter Tryd.func10, Tryd.ntmps10
  go_wp2_with fail
  go_loopw [3, 4] (fun ov iv wr => ∃ (i g n c : Nat) (bs : List UInt8), i ≤ len ∧ iv = .int .i64 i ∧ ov = .slice (some ⟨g, 0, none⟩) n c ∧ MadeI w.heap.size wr (.slice (some ⟨g, 0, none⟩) n c) n bs ∧ Below w.heap.size w wr) (fun _ iv _ => len - (intOf iv).toNat)
  case atStart =>
    refine ⟨0, w.heap.size, 0, 0, [], by omega, rfl, rfl, ⟨⟨rfl, Or.inr ⟨w.heap.size, 0, #[], rfl, Nat.le_refl _, heap_alloc_new _ _, Nat.le_refl _, by unfold maxLen; omega, rfl, rfl⟩⟩, rfl, by omega⟩, ?_⟩
    exact (Fr.refl Non w).alloc _ |>.below (Nat.le_refl _) (fun k hk => hk.elim)
  case round =>
    obtain ⟨i, g, n, c, bs, hil, rfl, rfl, hM, hB⟩ := hrel
    by_cases hlt : i < len
    · have hli : (i : Int) < (len : Int) := by omega
      obtain ⟨c1, n1, n2⟩ := HN.out i hlt
      obtain ⟨c2, m1, m2⟩ := HC.out i hlt
      obtain ⟨c0, k1, k2⟩ := HK.out i hlt
      have d1 := (hB.cell (p := ⟨b, o + i * 3 + 1, none⟩) hb).trans c1
      have d2 := (hB.cell (p := ⟨b, o + i * 3 + 2, none⟩) hb).trans c2
      have hp1 := pick_big (N i) 3000 wr ⟨n1, n2⟩ (by omega) (by omega)
      have hp2 := pick_big (C i) 1048576 wr ⟨m1, m2⟩ (by omega) (by omega)
      generalize N i = Ni at d1 hp1
      generalize C i = Ci at d2 hp2
      have HP1 : Hid _ := hp1
      have HP2 : Hid _ := hp2
      clear c1 c2 n1 n2 m1 m2 hp1 hp2
      go_wp2_with fail
      refine Calls.mono HP1.out ?_
      rintro e w1 ⟨⟨q, rfl, hq0, hq1⟩, rfl⟩
      go_wp2_with fail
      refine Calls.mono HP2.out ?_
      rintro e w1 ⟨⟨x, rfl, hx0, hx1⟩, rfl⟩
      clear HP1 HP2
      go_wp2_with fail
      go_loopw [3, 7] (fun ov kv wr => ∃ (k g n c : Nat) (bs : List UInt8), (k : Int) ≤ q ∧ kv = .int .i64 k ∧ ov = .slice (some ⟨g, 0, none⟩) n c ∧ MadeI w.heap.size wr (.slice (some ⟨g, 0, none⟩) n c) n bs ∧ Below w.heap.size w wr) (fun _ kv _ => q.toNat - (intOf kv).toNat)
      case atStart => exact ⟨0, g, n, c, bs, by omega, rfl, rfl, hM, hB⟩
      case round =>
        obtain ⟨k, g, n, c, bs, hkq, rfl, rfl, hM, hB⟩ := hrel
        by_cases hg1 : (k : Int) < q ∧ n < 12000
        · obtain ⟨hkl, hnl⟩ := hg1
          have hnli : (n : Int) < 12000 := by omega
          have d0 := (hB.cell (p := ⟨b, o + i * 3, none⟩) hb).trans c0
          have hp3 := pick_big (K i) 5 wr ⟨k1, k2⟩ (by omega) (by omega)
          generalize K i = Ki at d0 hp3
          have HP3 : Hid _ := hp3
          clear hp3
          go_wp2_with fail
          refine Calls.mono HP3.out ?_
          rintro e w1 ⟨⟨r, rfl, hr0, hr1⟩, hw⟩
          have hw' := hw.symm
          clear hw
          subst hw'
          clear HP3
          have hown := hM.own
          have hbl := hM.len
          have hle := hM.le
          have hwr : w.heap.size ≤ wr.heap.size := hB.size
          have HO : Hid (wr.ownsRow w.heap.size 5 1 (.slice (some ⟨g, 0, none⟩) n c) n (bv8 bs)) := hown
          have HM : Hid _ := hM
          clear hown hM
          rcases (show r = 0 ∨ r = 1 ∨ r = 2 ∨ r = 3 ∨ r = 4 by omega) with rfl | rfl | rfl | rfl | rfl
          · go_wp2_with (at_builtin; refine wpList_append_own _ rfl (.tmp 86) (.tmp 89) 25 rfl w.heap.size 5 i0 (.int .u8 0) 1 1 underlying25 hi hz0 hz1 hz2 rfl (by decide) (.slice (some ⟨g, 0, none⟩) n c) n (bv8 bs) rfl ?own ⟨wr.heap.size, 0, none⟩ 1 1 [?vv0] rfl rfl ?c1 ?c2 ?b1 ?b2 ?b3 ?grow)
            case own => exact owns_keep HO.out (fun g _ hg => heap_alloc_old hg _)
            case c1 => exact one_new rfl _ _
            case c2 => intro u hu; simp at hu; subst hu; rfl
            case b1 => unfold maxLen; omega
            case b2 => omega
            case b3 => simp; omega
            case grow =>
              intro v' w' hown hgrow _
              obtain ⟨g', c', bs', rfl, hM', hB'⟩ := made_step _ HM.out hnl hB hown hgrow
              clear hown hgrow
              go_wp2_with fail
              go_roundw
              case rel => exact ⟨k + 1, g', n + 1, c', bs', by omega, by go_num, rfl, hM', hB'⟩
              case measure => simp [intOf]; omega
          · go_wp2_with (at_builtin; refine wpList_append_own _ rfl (.tmp 86) (.tmp 89) 25 rfl w.heap.size 5 i0 (.int .u8 0) 1 1 underlying25 hi hz0 hz1 hz2 rfl (by decide) (.slice (some ⟨g, 0, none⟩) n c) n (bv8 bs) rfl ?own ⟨wr.heap.size, 0, none⟩ 1 1 [?vv1] rfl rfl ?c1 ?c2 ?b1 ?b2 ?b3 ?grow)
            case own => exact owns_keep HO.out (fun g _ hg => heap_alloc_old hg _)
            case c1 => exact one_new rfl _ _
            case c2 => intro u hu; simp at hu; subst hu; rfl
            case b1 => unfold maxLen; omega
            case b2 => omega
            case b3 => simp; omega
            case grow =>
              intro v' w' hown hgrow _
              obtain ⟨g', c', bs', rfl, hM', hB'⟩ := made_step _ HM.out hnl hB hown hgrow
              clear hown hgrow
              go_wp2_with fail
              go_roundw
              case rel => exact ⟨k + 1, g', n + 1, c', bs', by omega, by go_num, rfl, hM', hB'⟩
              case measure => simp [intOf]; omega
          · go_wp2_with (at_builtin; refine wpList_append_own _ rfl (.tmp 86) (.tmp 89) 25 rfl w.heap.size 5 i0 (.int .u8 0) 1 1 underlying25 hi hz0 hz1 hz2 rfl (by decide) (.slice (some ⟨g, 0, none⟩) n c) n (bv8 bs) rfl ?own ⟨wr.heap.size, 0, none⟩ 1 1 [?vv2] rfl rfl ?c1 ?c2 ?b1 ?b2 ?b3 ?grow)
            case own => exact owns_keep HO.out (fun g _ hg => heap_alloc_old hg _)
            case c1 => exact one_new rfl _ _
            case c2 => intro u hu; simp at hu; subst hu; rfl
            case b1 => unfold maxLen; omega
            case b2 => omega
            case b3 => simp; omega
            case grow =>
              intro v' w' hown hgrow _
              obtain ⟨g', c', bs', rfl, hM', hB'⟩ := made_step _ HM.out hnl hB hown hgrow
              clear hown hgrow
              go_wp2_with fail
              go_roundw
              case rel => exact ⟨k + 1, g', n + 1, c', bs', by omega, by go_num, rfl, hM', hB'⟩
              case measure => simp [intOf]; omega
          · by_cases hn0 : n = 0
            · have hnz : ¬ ((0 : Int) < (n : Int)) := by omega
              clear hn0
              go_wp2_with (at_builtin; refine wpList_append_own _ rfl (.tmp 86) (.tmp 89) 25 rfl w.heap.size 5 i0 (.int .u8 0) 1 1 underlying25 hi hz0 hz1 hz2 rfl (by decide) (.slice (some ⟨g, 0, none⟩) n c) n (bv8 bs) rfl ?own ⟨wr.heap.size, 0, none⟩ 1 1 [?vv3] rfl rfl ?c1 ?c2 ?b1 ?b2 ?b3 ?grow)
              case own => exact owns_keep HO.out (fun g _ hg => heap_alloc_old hg _)
              case c1 => exact one_new rfl _ _
              case c2 => intro u hu; simp at hu; subst hu; rfl
              case b1 => unfold maxLen; omega
              case b2 => omega
              case b3 => simp; omega
              case grow =>
                intro v' w' hown hgrow _
                obtain ⟨g', c', bs', rfl, hM', hB'⟩ := made_step _ HM.out hnl hB hown hgrow
                clear hown hgrow
                go_wp2_with fail
                go_roundw
                case rel => exact ⟨k + 1, g', n + 1, c', bs', by omega, by go_num, rfl, hM', hB'⟩
                case measure => simp [intOf]; omega
            · have hnp : (0 : Int) < (n : Int) := by omega
              have hm0 := Int.emod_nonneg x (show (n : Int) ≠ 0 by omega)
              have hm1 := Int.emod_lt_of_pos x hnp
              obtain ⟨jj, hjj⟩ : ∃ jj : Nat, (n : Int) - 1 - x % (n : Int) = (jj : Int) := ⟨((n : Int) - 1 - x % (n : Int)).toNat, by omega⟩
              have hjn : (jj : Int) < (n : Int) := by omega
              have hcj : wr.cell? ⟨g, jj, none⟩ = some (.int .u8 ((bs.getD jj 0).toNat : Int)) := by
                rw [own_cell HO.out jj (by omega)]
                have : jj < bs.length := by omega
                simp [bv8, this]
              generalize ((bs.getD jj 0).toNat : Int) = cj at hcj
              go_wp2_with (at_builtin; refine wpList_append_own _ rfl (.tmp 86) (.tmp 89) 25 rfl w.heap.size 5 i0 (.int .u8 0) 1 1 underlying25 hi hz0 hz1 hz2 rfl (by decide) (.slice (some ⟨g, 0, none⟩) n c) n (bv8 bs) rfl ?own ⟨wr.heap.size, 0, none⟩ 1 1 [?vv4] rfl rfl ?c1 ?c2 ?b1 ?b2 ?b3 ?grow)
              case own => exact owns_keep HO.out (fun g _ hg => heap_alloc_old hg _)
              case c1 => exact one_new rfl _ _
              case c2 => intro u hu; simp at hu; subst hu; rfl
              case b1 => unfold maxLen; omega
              case b2 => omega
              case b3 => simp; omega
              case grow =>
                intro v' w' hown hgrow _
                obtain ⟨g', c', bs', rfl, hM', hB'⟩ := made_step _ HM.out hnl hB hown hgrow
                clear hown hgrow
                go_wp2_with fail
                go_roundw
                case rel => exact ⟨k + 1, g', n + 1, c', bs', by omega, by go_num, rfl, hM', hB'⟩
                case measure => simp [intOf]; omega
          · go_wp2_with (at_builtin; refine wpList_append_own _ rfl (.tmp 86) (.tmp 89) 25 rfl w.heap.size 5 i0 (.int .u8 0) 1 1 underlying25 hi hz0 hz1 hz2 rfl (by decide) (.slice (some ⟨g, 0, none⟩) n c) n (bv8 bs) rfl ?own ⟨wr.heap.size, 0, none⟩ 1 1 [?vv5] rfl rfl ?c1 ?c2 ?b1 ?b2 ?b3 ?grow)
            case own => exact owns_keep HO.out (fun g _ hg => heap_alloc_old hg _)
            case c1 => exact one_new rfl _ _
            case c2 => intro u hu; simp at hu; subst hu; rfl
            case b1 => unfold maxLen; omega
            case b2 => omega
            case b3 => simp; omega
            case grow =>
              intro v' w' hown hgrow _
              obtain ⟨g', c', bs', rfl, hM', hB'⟩ := made_step _ HM.out hnl hB hown hgrow
              clear hown hgrow
              go_wp2_with fail
              go_roundw
              case rel => exact ⟨k + 1, g', n + 1, c', bs', by omega, by go_num, rfl, hM', hB'⟩
              case measure => simp [intOf]; omega
        · by_cases hkl : (k : Int) < q
          · have hnl : ¬ ((n : Int) < 12000) := by omega
            go_wp2_with fail
            exact ⟨⟨i + 1, g, n, c, bs, by omega, by go_num, rfl, hM, hB⟩, by simp [intOf]; omega⟩
          · go_wp2_with fail
            exact ⟨⟨i + 1, g, n, c, bs, by omega, by go_num, rfl, hM, hB⟩, by simp [intOf]; omega⟩
    · obtain rfl : i = len := by omega
      go_wp2_with fail
      go_ret
      exact ⟨g, n, c, bs, rfl, hM, hB⟩
end Go.Proofs.YtdpobjgfnhjagaaDoor

namespace Go.Proofs.YtdpobjgfnhjagaaDoor
open Go.RowKit

theorem madeBytes (n : Nat) : (madeCells (Value.int .u8 0).cells n).toList = bv8 (List.replicate n 0) := by
  apply List.ext_getElem
  · simp [madeCells, bv8, Value.cells]
  · intro i h1 h2
    simp [madeCells, bv8, Value.cells, Nat.mod_one]

/-- The bytes lie in block B. -/
structure SmI (w0 : World) (B N l : Nat) (w : World) (bs : List UInt8) : Prop where
  len : bs.length = N
  row : w.heap[B]? = some (.cells (bv8 bs).toArray 5 (0, 0))
  hB : w0.heap.size ≤ B
  b : Below w0.heap.size w0 w
  hN : N ≤ 30000
  hl : l ≤ 8
theorem SmI.cell {w0 : World} {B N l : Nat} {w : World} {bs : List UInt8} (h : SmI w0 B N l w bs) (i : Nat) (hi : i < N) : w.cell? ⟨B, i, none⟩ = some (.int .u8 ((bs.getD i 0).toNat : Int)) := by
  have : i < bs.length := by rw [h.len]; exact hi
  rw [cell_of_heap h.row]
  simp [bv8, this]
theorem SmI.set {w0 : World} {B N l : Nat} {w : World} {bs : List UInt8} (h : SmI w0 B N l w bs) (i : Nat) (c : UInt8) : SmI w0 B N l (w.setCell ⟨B, i, none⟩ (.int .u8 (c.toNat : Int))) (bs.set i c) := by
  refine ⟨by rw [List.length_set]; exact h.len, ?_, h.hB, h.b.setCell (p := ⟨B, i, none⟩) h.hB _, h.hN, h.hl⟩
  rw [heap_set h.row]
  congr 2
  apply Array.ext'
  simp [bv8, List.map_set]
theorem SmI.lies {w0 : World} {B N l : Nat} {w : World} {bs : List UInt8} (h : SmI w0 B N l w bs) : Lies w B 0 bs := by
  intro i hi
  rw [Nat.zero_add]
  exact h.cell i (by rw [← h.len]; exact hi)
theorem SmI.below {w0 : World} {B N l : Nat} {w w' : World} {bs : List UInt8} (h : SmI w0 B N l w bs) (hb : Below w.heap.size w w') : SmI w0 B N l w' bs :=
  ⟨h.len, (hb.block B (lt_of_heap h.row)).trans h.row, h.hB, h.b.trans (hb.mono h.b.size), h.hN, h.hl⟩
theorem set_get (bs : List UInt8) (i j : Nat) (c : UInt8) (hi : i < bs.length) : (bs.set i c).getD j 0 = if j = i then c else bs.getD j 0 := by
  by_cases e : j = i
  · subst e; simp [List.getD, hi]
  · rw [if_neg e]
    simp [List.getD, List.getElem?_set_ne (Ne.symm e)]

theorem small_any (n0 lev : Int) (c d : UInt8) (ra : Option Addr) (rn rc rb roff : Nat) (w : World) (hn : -9223372036854775808 ≤ n0 ∧ n0 ≤ 9223372036854775807) (hlev : -9223372036854775808 ≤ lev ∧ lev ≤ 9223372036854775807)
    (hra : 0 < rn → ra = some ⟨rb, roff, none⟩ ∧ rb < w.heap.size) (hraw : ∀ j, j < rn → ∃ z, w.cell? ⟨rb, roff + j, none⟩ = some (.int .i64 z)) (hO : OrdAt w) (h0 : 0 < w.heap.size) :
    Calls Tryd.prog 5 #[.int .i64 n0, .int .u8 (c.toNat : Int), .int .u8 (d.toNat : Int), .slice ra rn rc, .int .i64 lev] w fun e w' => e = .returned (.bool true) ∧ Below w.heap.size w w' := by
  refine small_walk n0 (c.toNat : Int) (d.toNat : Int) lev ra rn rc rb roff w (fun h => (hra h).1)
    (fun w1 => Below w.heap.size w w1) (fun N w2 => N ≤ 30000 ∧ Below w.heap.size w w2) (fun N l w3 => N ≤ 30000 ∧ l ≤ 8 ∧ Below w.heap.size w w3)
    (fun B N l i w4 => ∃ bs, SmI w B N l w4 bs ∧ ∀ j, j < i → bs.getD j 0 = c)
    (fun B N l i w4 => ∃ bs, SmI w B N l w4 bs ∧ ∀ j, j < N → bs.getD j 0 = c ∨ bs.getD j 0 = d)
    (fun w' => Below w.heap.size w w') ?_ ?_ ?_ ?_ ?_ ?_ ?_ ?_ ?_
  · exact deflates_true w hO h0
  · intro w1 hb1
    refine (pick_big n0 30001 w1 hn (by omega) (by omega)).mono ?_
    rintro e w2 ⟨⟨r, rfl, hr0, hr1⟩, rfl⟩
    exact ⟨r.toNat, by rw [Int.toNat_of_nonneg hr0], by omega, by omega, hb1⟩
  · rintro N w2 ⟨hN, hb2⟩
    refine (pick_big lev 9 w2 hlev (by omega) (by omega)).mono ?_
    rintro e w3 ⟨⟨r, rfl, hr0, hr1⟩, rfl⟩
    exact ⟨r.toNat, by rw [Int.toNat_of_nonneg hr0], by omega, hN, by omega, hb2⟩
  · rintro N l w3 w4 ⟨hN, hl, hb3⟩ hown hg
    rw [madeBytes] at hown
    exact ⟨_, ⟨by rw [List.length_replicate], owns_full hown, hb3.size, hb3.grown hg hb3.size (fun k hk => by cases hk), hN, hl⟩, fun j hj => by omega⟩
  · rintro B N l i w4 hi ⟨bs, hI, hc⟩
    refine ⟨⟨_, hI.cell i hi⟩, free_of_heap hI.row, _, hI.set i c, fun j hj => ?_⟩
    rw [set_get _ _ _ _ (by rw [hI.len]; exact hi)]
    by_cases e : j = i
    · rw [if_pos e]
    · rw [if_neg e]; exact hc j (by omega)
  · rintro B N l w4 ⟨bs, hI, hc⟩
    have hl := hI.hl
    have hN := hI.hN
    have hlen := hI.len
    have hD := deflate_any B 0 N (1 + l) bs w4 hI.lies (lt_of_heap hI.row) (by omega) (by omega) (hO.below hI.b h0)
    rw [hlen, show ((1 + l : Nat) : Int) = 1 + (l : Int) by omega] at hD
    refine hD.mono ?_
    rintro e w5 ⟨v, rfl, s, hs, hown, hb5⟩
    obtain ⟨ao, cp, rfl⟩ := owns_slice hown
    have h1 := str_equal hs (by omega) (fun i j hi hj => by rw [hc i (by omega), hc j (by omega)])
    rw [hlen] at h1
    exact ⟨ao, _, cp, rfl, h1, bs, hI.below hb5, fun j hj => Or.inl (hc j hj)⟩
  · rintro B N l i w4 hi ⟨bs, hI, hc⟩
    refine ⟨⟨bs, hI, hc⟩, ⟨_, hI.cell i hi⟩, free_of_heap hI.row, _, hI.set i d, fun j hj => ?_⟩
    rw [set_get _ _ _ _ (by rw [hI.len]; exact hi)]
    by_cases e : j = i
    · rw [if_pos e]; exact Or.inr rfl
    · rw [if_neg e]; exact hc j hj
  · rintro B N l i w4 j ⟨bs, hI, hc⟩ hj
    obtain ⟨z, hz⟩ := hraw j hj
    exact ⟨z, (hI.b.cell (p := ⟨rb, roff + j, none⟩) (hra (by omega)).2).trans hz⟩
  · rintro B N l w4 ⟨bs, hI, hc⟩
    have hl := hI.hl
    have hN := hI.hN
    have hlen := hI.len
    have hD := deflate_any B 0 N (1 + l) bs w4 hI.lies (lt_of_heap hI.row) (by omega) (by omega) (hO.below hI.b h0)
    rw [hlen, show ((1 + l : Nat) : Int) = 1 + (l : Int) by omega] at hD
    refine hD.mono ?_
    rintro e w5 ⟨v, rfl, s, hs, hown, hb5⟩
    obtain ⟨ao, cp, rfl⟩ := owns_slice hown
    obtain ⟨bits, hW, hle⟩ := hs.sing (by omega)
    have h1 := kinds_short (c := c) (d := d) (fun i hi => hc i (by omega)) hW
    rw [hlen] at h1
    exact ⟨ao, _, cp, rfl, by omega, hI.b.trans (hb5.mono hI.b.size)⟩
end Go.Proofs.YtdpobjgfnhjagaaDoor

