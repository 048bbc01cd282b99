import Derived.Test.YtdpobjgfnhjagaaDoorMf
namespace Go.Proofs.YtdpobjgfnhjagaaDoor
open Go.RowKit

theorem info100 : (Tryd.prog.info? 100).map (fun i => (i.zero, i.size, i.bytes)) = some (some (.agg #[.int .i64 0, .int .i64 0, .int .i64 0]), 3, 24) := by kernel_rfl
theorem underlying97 : Tryd.prog.underlying 97 = some (.slice 100) := by kernel_rfl

/-- Runs' cells. -/
def rnC (ops : List Rop) : List Value := ops.flatMap fun o => [.int .i64 ((o.s : Nat) : Int), .int .i64 ((o.ex : Nat) : Int), .int .i64 ((ropM o.s : Nat) : Int)]
theorem rnC_append (a b : List Rop) : rnC (a ++ b) = rnC a ++ rnC b := by simp [rnC]

theorem ropsOut_snoc (ops : List Rop) (o : Rop) (L : List Nat) : ropsOut (ops ++ [o]) L = ropsOut ops L ++ List.replicate (ropT o) (ropA (ropsOut ops L) o) := by
  induction ops generalizing L with
  | nil => rfl
  | cons a r ih => simp only [List.cons_append, ropsOut, ih]
/-- They may stand one behind the other. -/
def ropsQ (size : Nat) : List Rop → List Nat → Prop
  | [], _ => True
  | o :: r, L => (o.s = 16 → L.length ≠ 0) ∧ L.length < size ∧ ropsQ size r (L ++ List.replicate (ropT o) (ropA L o))
theorem ropsQ_snoc (size : Nat) (ops : List Rop) (o : Rop) (L : List Nat) (h : ropsQ size ops L) (h1 : o.s = 16 → (ropsOut ops L).length ≠ 0) (h2 : (ropsOut ops L).length < size) : ropsQ size (ops ++ [o]) L := by
  induction ops generalizing L with
  | nil => exact ⟨h1, h2, trivial⟩
  | cons a r ih => exact ⟨h.1, h.2.1, ih _ h.2.2 h1 h2⟩
theorem ropsOk_of (cl : List Nat) (size : Nat) (ops : List Rop) (L : List Nat) (h : ropsQ size ops L) (ho : ∀ o ∈ ops, o.s < cl.length ∧ 0 < cl.getD o.s 0 ∧ o.ex < 2 ^ ropM o.s) (hs : (ropsOut ops L).length = size) : ropsOk cl size ops L := by
  induction ops generalizing L with
  | nil => exact hs
  | cons a r ih =>
    obtain ⟨q1, q2, q3⟩ := ho a (by simp)
    exact ⟨⟨q1, q2, q3, h.1⟩, h.2.1, ih _ h.2.2 (fun o ho' => ho o (by simp [ho'])) hs⟩

/-- How many lengths of the first ones are not 0. -/
def nzT (L : List Nat) (at_ : Nat) : Nat := sumTo (fun i => if gd L i = 0 then 0 else 1) at_
theorem nzT_succ (L : List Nat) (k : Nat) : nzT L (k + 1) = nzT L k + if gd L k = 0 then 0 else 1 := rfl
theorem nzT_mono (L : List Nat) (a b : Nat) : nzT L a ≤ nzT L (a + b) := by
  induction b with
  | zero => exact Nat.le_refl _
  | succ b ih => rw [← Nat.add_assoc, nzT_succ]; omega
theorem nzT_more (L : List Nat) (a b : Nat) (h : gd L a ≠ 0) (hb : 1 ≤ b) : nzT L a + 1 ≤ nzT L (a + b) := by
  have h1 := nzT_mono L (a + 1) (b - 1)
  rw [show a + 1 + (b - 1) = a + b by omega, nzT_succ, if_neg h] at h1
  exact h1

/-- They are few where few lengths are not 0. -/
def FewI (L : List Nat) (at_ m : Nat) : Prop :=
  ∃ t, t ≤ 2 ∧ m ≤ at_ / 138 + 3 * nzT L at_ + t ∧ (1 ≤ t → ∀ S, at_ + S ≤ L.length → (∀ k, k < S → gd L (at_ + k) = 0) → S ≤ 2 - t)
theorem FewI.step {L : List Nat} {at_ m s ex t : Nat} (h : FewI L at_ m) (r : RunOk (gd L) L.length at_ s ex t) : FewI L (at_ + t) (m + 1) := by
  obtain ⟨u, hu, hm, hz⟩ := h
  have ht := r.t1
  by_cases h0 : gd L at_ = 0
  · obtain ⟨S, hS1, hS2, hS3, hS4, hS5⟩ := r.gr h0
    have hmono := nzT_mono L at_ t
    have hdiv : at_ / 138 ≤ (at_ + t) / 138 := Nat.div_le_div_right (by omega)
    have hzS : 1 ≤ u → S ≤ 2 - u := fun h1 => hz h1 S hS2 hS3
    rcases hS5 with ⟨q1, q2⟩ | q1 | ⟨q1, q2⟩
    · have hu0 : u = 0 := by
        rcases Nat.eq_zero_or_pos u with c | c
        · exact c
        · have := hzS c; omega
      refine ⟨0, by omega, ?_, fun c => by omega⟩
      subst q1
      have : (at_ + 138) / 138 = at_ / 138 + 1 := Nat.add_div_right _ (by omega)
      omega
    · have hu2 : u + 1 ≤ 2 := by
        rcases Nat.eq_zero_or_pos u with c | c
        · omega
        · have := hzS c; omega
      refine ⟨u + 1, hu2, by omega, fun _ S' h1 h2 => ?_⟩
      rcases Nat.eq_zero_or_pos S' with c | c
      · omega
      · exfalso
        subst q1
        exact hS4 (by omega) (h2 0 c)
    · have hu0 : u = 0 := by
        rcases Nat.eq_zero_or_pos u with c | c
        · exact c
        · have := hzS c; omega
      refine ⟨1, by omega, by omega, fun _ S' h1 h2 => ?_⟩
      rcases Nat.lt_or_ge S' 2 with c | c
      · omega
      · exfalso
        subst q1 q2
        exact hS4 (by omega) (h2 1 c)
  · have hmore := nzT_more L at_ t h0 ht
    have hdiv : at_ / 138 ≤ (at_ + t) / 138 := Nat.div_le_div_right (by omega)
    exact ⟨0, by omega, by omega, fun c => by omega⟩

structure RnI (L : List Nat) (at_ : Nat) (ops : List Rop) : Prop where
  out : ropsOut ops [] = L.take at_
  ok : ∀ o ∈ ops, o.s < 19 ∧ o.ex < 2 ^ ropM o.s
  seq : ropsQ L.length ops []
  cnt : ops.length ≤ at_
  le : at_ ≤ L.length
  few : FewI L at_ ops.length

theorem RnI.snoc {L : List Nat} {at_ : Nat} {ops : List Rop} (h : RnI L at_ ops) (hat : at_ < L.length) {s ex t : Nat} (r : RunOk (gd L) L.length at_ s ex t) : RnI L (at_ + t) (ops ++ [⟨s, ex⟩]) := by
  have hl : (L.take at_).length = at_ := by rw [List.length_take]; omega
  have ht : ropT ⟨s, ex⟩ = t := r.told.symm
  have hv : ropA (L.take at_) ⟨s, ex⟩ = (if s = 16 then gd L (at_ - 1) else if s = 17 then 0 else if s = 18 then 0 else s) := by
    unfold ropA
    rw [hl]
    by_cases c : s = 16
    · rw [if_pos c, if_pos c]
      exact gd_takeN L at_ (at_ - 1) (by have := r.s16 c; omega)
    · rw [if_neg c, if_neg c]
  refine ⟨?_, fun o ho => ?_, ?_, ?_, r.fits, by rw [List.length_append, List.length_singleton]; exact h.few.step r⟩
  · rw [ropsOut_snoc, h.out, ht, hv]
    apply List.ext_getElem
    · rw [List.length_append, hl, List.length_replicate, List.length_take]; have := r.fits; omega
    · intro i h1 h2
      rw [List.length_take] at h2
      by_cases c : i < at_
      · rw [List.getElem_append_left (by omega)]; simp
      · rw [List.getElem_append_right (by omega), List.getElem_replicate]
        have hk := r.val (i - at_) (by omega)
        rw [show at_ + (i - at_) = i by omega] at hk
        rw [← hk]
        simp [gd, List.getD, show i < L.length by omega]
  · rcases List.mem_append.1 ho with q | q
    · exact h.ok o q
    · simp at q
      subst q
      exact ⟨r.sl, r.exl⟩
  · refine ropsQ_snoc _ _ _ _ h.seq (fun e => ?_) ?_
    · rw [h.out, hl]; have := r.s16 e; omega
    · rw [h.out, hl]; exact hat
  · rw [List.length_append, List.length_singleton]
    have := h.cnt
    have := r.t1
    omega

set_option maxRecDepth 100000 in
set_option maxHeartbeats 1000000 in
theorem runs_any (g o cap : Nat) (L : List Nat) (w : World) (hL : IntsAt w g o (ni L)) (hn2 : L.length ≤ 400) (hx : ∀ x ∈ L, x < 16) :
    Calls Tryd.prog 61 #[.slice (some ⟨g, o, none⟩) L.length cap] w fun e w' => ∃ v ops, e = .returned v ∧ w'.ownsRow w.heap.size 100 3 v ops.length (rnC ops) ∧ RnI L L.length ops ∧ Below w.heap.size w w' := by
  obtain ⟨i0, hi, hz0, hz1, hz2⟩ := info_parts info100
  have hg := hL.lt
  obtain ⟨n, hn⟩ : ∃ n, L.length = n := ⟨_, rfl⟩
  rw [hn] at hn2 ⊢
  have HN : Hid (L.length = n) := hn
  clear hn
  go_enter Tryd.func61, Tryd.ntmps61
  go_wp2_with fail
  go_loopw [3, 4] (fun v av wr => ∃ (at_ : Nat) (ops : List Rop), av = .int .i64 at_ ∧ at_ ≤ n ∧ wr.ownsRow w.heap.size 100 3 v ops.length (rnC ops) ∧ Hid (RnI L at_ ops) ∧ Below w.heap.size w wr) (fun _ av _ => n - (intOf av).toNat)
  case atStart =>
    exact ⟨0, [], rfl, by omega, ⟨rfl, Or.inl ⟨rfl, rfl⟩⟩, ⟨rfl, fun o ho => by simp at ho, trivial, Nat.le_refl _, by omega, ⟨0, by omega, Nat.zero_le _, fun c => by omega⟩⟩, Below.refl _ _⟩
  case round =>
    obtain ⟨at_, ops, rfl, hat, hown, hR, hbel⟩ := hrel
    obtain ⟨ao, cp, rfl⟩ := owns_slice hown
    have hown0 : Hid (wr.ownsRow w.heap.size 100 3 (.slice ao ops.length cp) ops.length (rnC ops)) := hown
    clear hown
    by_cases hlt : at_ < n
    · have hl := HN.out
      have hgr : g < wr.heap.size := Nat.lt_of_lt_of_le hg hbel.size
      have hcall := runAt_walk g o n cap at_ wr (gd L) (fun i hi => rowCell (hL.below hbel hg) i (by omega)) hgr (by omega) hlt (gd_lt hx (by omega) at_)
      have HC : Hid _ := hcall
      have hcn := hR.out.cnt
      clear hcall hl
      have i1 : (at_ : Int) < (n : Int) := by omega
      go_wp2_with fail
      refine Calls.mono HC.out ?_
      rintro e w2 ⟨s, ex, more, t, rfl, hrun, hmore, f2⟩
      have hR2 : Hid (RnI L (at_ + t) (ops ++ [⟨s, ex⟩])) := hR.out.snoc (by rw [HN.out]; exact hlt) (by rw [HN.out]; exact hrun)
      have hfit := hrun.fits
      have ht1 := hrun.t1
      have hmr : Hid (more = ropM s) := hmore
      have hown2 : Hid (w2.ownsRow w.heap.size 100 3 (.slice ao ops.length cp) ops.length (rnC ops)) := owns_keep hown0.out (fun q _ hq => f2.block q hq (fun e => e))
      have hb2 : Below w.heap.size w w2 := hbel.trans (f2.below hbel.size (fun _ e => e.elim))
      have hs2 := hb2.size
      clear HC hrun hmore f2
      go_wp2_with (at_builtin; refine wpList_append_own _ rfl (.tmp 17) (.tmp 19) 97 rfl w.heap.size 100 i0 (.agg #[.int .i64 0, .int .i64 0, .int .i64 0]) 3 24 underlying97 hi hz0 hz1 hz2 rfl (by decide) (.slice ao ops.length cp) ops.length (rnC ops) rfl ?own ⟨w2.heap.size + 1, 0, none⟩ 1 1 [.int .i64 (s : Int), .int .i64 (ex : Int), .int .i64 (more : Int)] rfl rfl ?c1 ?c2 ?b1 ?b2 ?b3 ?grow)
      case own => exact owns_keep hown2.out (fun q _ hq => (heap_alloc_old (by simp; omega) _).trans (heap_alloc_old hq _))
      case c1 => exact three_new (by simp) _ _ _ _
      case c2 => intro u hu; simp at hu; rcases hu with rfl | rfl | rfl <;> rfl
      case b1 => unfold maxLen; omega
      case b2 => omega
      case b3 => simp; omega
      case grow =>
        intro v' w5 ho5 hg5 _
        have hb5 : Below w.heap.size w w5 := ((hb2.alloc (by omega) _).alloc (by simp; omega) _).grown hg5 (by simp; omega) (fun q e => (owns_block hown2.out e).1)
        have HO5 : Hid (w5.ownsRow w.heap.size 100 3 v' (ops.length + 1) (rnC ops ++ [.int .i64 (s : Int), .int .i64 (ex : Int), .int .i64 (more : Int)])) := ho5
        clear ho5 hg5
        go_wp2_with fail
        go_roundw
        case rel =>
          refine ⟨at_ + t, ops ++ [⟨s, ex⟩], by go_num, by omega, ?_, hR2, hb5⟩
          rw [List.length_append, rnC_append]
          have := HO5.out
          rw [hmr.out] at this
          exact this
        case measure => simp [intOf]; omega
    · have : at_ = n := by omega
      subst this
      go_wp2_with fail
      go_ret
      exact ⟨_, ops, rfl, hown0.out, hR.out, hbel⟩

end Go.Proofs.YtdpobjgfnhjagaaDoor

namespace Go.Proofs.YtdpobjgfnhjagaaDoor

theorem below_step (l : List Nat) (k : Nat) (h0 : 0 < k) (c : Nat → Nat) :
    sumTo (fun i => if gd l i = 0 then 0 else if gd l i < k + 1 then c (gd l i) else 0) l.length = sumTo (fun i => if gd l i = 0 then 0 else if gd l i < k then c (gd l i) else 0) l.length + l.count k * c k := by
  rw [← sumTo_count, ← sumTo_add]
  refine sumTo_congr _ _ _ fun i _ => ?_
  by_cases e : gd l i = 0
  · rw [if_pos e, if_pos e, if_neg (by omega)]
  · rw [if_neg e, if_neg e]
    by_cases e2 : gd l i = k
    · rw [if_pos (by omega), if_neg (by omega), if_pos e2, e2]; omega
    · rw [if_neg e2]
      by_cases e3 : gd l i < k
      · rw [if_pos (by omega), if_pos e3]; rfl
      · rw [if_neg (by omega), if_neg e3]

theorem below_one (l : List Nat) (k : Nat) (hk : k ≤ 1) (c : Nat → Nat) : sumTo (fun i => if gd l i = 0 then 0 else if gd l i < k then c (gd l i) else 0) l.length = 0 :=
  sumTo_zero _ _ fun i _ => by
    by_cases e : gd l i = 0
    · rw [if_pos e]
    · rw [if_neg e, if_neg (by omega)]

theorem below_all (l : List Nat) (hL : ∀ x ∈ l, x < 16) (c : Nat → Nat) : sumTo (fun i => if gd l i = 0 then 0 else if gd l i < 16 then c (gd l i) else 0) l.length = sumTo (fun i => if gd l i = 0 then 0 else c (gd l i)) l.length :=
  sumTo_congr _ _ _ fun i hi => by
    have : gd l i < 16 := hL _ (by simp only [gd, List.getD, List.getElem?_eq_getElem hi]; exact List.getElem_mem hi)
    by_cases e : gd l i = 0
    · rw [if_pos e, if_pos e]
    · rw [if_neg e, if_neg e, if_pos this]

/-- The room that codes of these lengths take. -/
theorem room_sum (l : List Nat) (hL : ∀ x ∈ l, x < 16) (hlen : l.length ≤ 320) : roomOf (mkC l).cs 16 = ((sumTo (fun i => if gd l i = 0 then 0 else 2 ^ (15 - gd l i)) l.length : Nat) : Int) := by
  obtain ⟨hw, _⟩ := mk_spec l hL hlen
  rw [← below_all l hL (fun x => 2 ^ (15 - x))]
  have key : ∀ k, k ≤ 16 → roomOf (mkC l).cs k = ((sumTo (fun i => if gd l i = 0 then 0 else if gd l i < k then 2 ^ (15 - gd l i) else 0) l.length : Nat) : Int) := by
    intro k
    induction k with
    | zero => intro _; rw [below_one l 0 (by omega) (fun x => 2 ^ (15 - x))]; rfl
    | succ k ih =>
      intro hk
      simp only [roomOf]
      by_cases k0 : k = 0
      · subst k0
        rw [below_one l (0 + 1) (by omega) (fun x => 2 ^ (15 - x)), hw.z0, Int.zero_mul]; rfl
      · rw [ih (by omega), cs_count l hL hlen k (by omega) (by omega), below_step l k (by omega) (fun x => 2 ^ (15 - x))]
        push_cast
        rfl
  exact key 16 (Nat.le_refl _)

theorem size_posN (l : List Nat) (hL : ∀ x ∈ l, x < 16) (hlen : l.length ≤ 320) : (mkC l).S.length = posN l := by
  obtain ⟨hw, _, _, N, h3, _⟩ := mk_spec l hL hlen
  have hmost := hw.sum 16
  rw [List.take_of_length_le (by rw [hw.l16]; omega)] at hmost
  have := hw.most
  obtain ⟨_, _, b3, _⟩ := run0_spec (mkC l).cs 0 (List.replicate 16 0) 0 (by rw [hw.l16]) (by simp) hw.nn (by omega) (by omega)
  rw [h3] at b3
  have key : ∀ k, k ≤ 16 → ((mkC l).cs.take k).sum = ((sumTo (fun i => if gd l i = 0 then 0 else if gd l i < k then 1 else 0) l.length : Nat) : Int) := by
    intro k
    induction k with
    | zero => intro _; rw [below_one l 0 (by omega) (fun _ => 1)]; rfl
    | succ k ih =>
      intro hk
      rw [sum_snoc (mkC l).cs k (by rw [hw.l16]; omega)]
      by_cases k0 : k = 0
      · subst k0
        rw [below_one l (0 + 1) (by omega) (fun _ => 1), hw.z0]; rfl
      · rw [ih (by omega), cs_count l hL hlen k (by omega) (by omega), below_step l k (by omega) (fun _ => 1)]
        push_cast
        omega
  have h16 := key 16 (Nat.le_refl _)
  rw [List.take_of_length_le (by rw [hw.l16]; omega), below_all l hL (fun _ => 1)] at h16
  have e : posN l = sumTo (fun i => if gd l i = 0 then 0 else 1) l.length := rfl
  rw [← e] at h16
  simp only at b3
  omega

theorem run1_lg_one (L : List Nat) : ∀ (st : List Int × Int), st.2 ≤ 1 → (∀ x ∈ L, x ≤ 1) → (run1 L st).2 ≤ 1 := by
  induction L with
  | nil => intro st h _; exact h
  | cons m r ih =>
    intro st h hx
    have hm := hx m (by simp)
    refine ih _ ?_ (fun x hx' => hx x (by simp [hx']))
    unfold stp1
    split
    · exact h
    · show (if st.2 < (m : Int) then (m : Int) else st.2) ≤ 1
      split <;> omega

theorem gd_mem {l : List Nat} {x : Nat} (h : x ∈ l) : ∃ i, i < l.length ∧ gd l i = x := by
  obtain ⟨i, hi, e⟩ := List.getElem_of_mem h
  exact ⟨i, hi, by simp only [gd, List.getD, List.getElem?_eq_getElem hi]; exact e⟩

/-- A list that is another's front, where only noughts are left out. -/
structure Front (L lens : List Nat) : Prop where
  le : L.length ≤ lens.length
  eq : ∀ i, gd L i = gd lens i

theorem front_take (lens : List Nat) (m : Nat) (h : ∀ i, m ≤ i → i < lens.length → gd lens i = 0) : Front (lens.take m) lens := by
  refine ⟨by rw [List.length_take]; omega, fun i => ?_⟩
  by_cases e : i < m
  · simp only [gd, List.getD, List.getElem?_take, if_pos e]
  · rw [gd_big (lens.take m) i (by rw [List.length_take]; omega)]
    by_cases e2 : i < lens.length
    · rw [h i (by omega) e2]
    · rw [gd_big lens i (by omega)]

theorem Front.sum {L lens : List Nat} (h : Front L lens) (c : Nat → Nat) : sumTo (fun i => if gd L i = 0 then 0 else c (gd L i)) L.length = sumTo (fun i => if gd lens i = 0 then 0 else c (gd lens i)) lens.length := by
  rw [sumTo_ext (fun i => if gd lens i = 0 then 0 else c (gd lens i)) L.length lens.length h.le (fun i hi _ => by rw [if_pos]; rw [← h.eq i, gd_big L i hi])]
  exact sumTo_congr _ _ _ fun i _ => by rw [h.eq i]

theorem Front.posN {L lens : List Nat} (h : Front L lens) : posN L = posN lens := h.sum (fun _ => 1)

theorem Front.lt {L lens : List Nat} (h : Front L lens) {cs : List Nat} {m : Nat} (hk : LenOk cs lens m) : ∀ x ∈ L, x ≤ m := by
  intro x hx
  obtain ⟨i, hi, rfl⟩ := gd_mem hx
  rw [h.eq i]
  have := h.le
  exact hk.le i (by have := hk.len; omega)

/-- Lengths that are made for symbols are good, and so is their front. -/
theorem good_len {cs lens L : List Nat} {m : Nat} (hk : LenOk cs lens m) (hm : m ≤ 15) (hF : Front L lens) (hlen : L.length ≤ 320) (hp : 1 ≤ posN cs) : goodB (mkC L) = true := by
  have hx : ∀ x ∈ L, x < 16 := fun x hx => by have := hF.lt hk x hx; omega
  have hpL : posN L = posN cs := by rw [hF.posN]; exact posN_eq lens cs hk.len (fun i hi => hk.pos i (by have := hk.len; omega))
  have hS := size_posN L hx hlen
  unfold goodB
  by_cases h1 : posN cs = 1
  · have hone := hk.one h1
    have hx1 : ∀ x ∈ L, x ≤ 1 := fun x hxm => by
      obtain ⟨i, hi, rfl⟩ := gd_mem hxm
      rw [hF.eq i]
      have := hF.le
      exact hone i (by have := hk.len; omega)
    have hlg : (mkC L).lg ≤ 1 := run1_lg_one L (List.replicate 16 0, 0) (by simp) hx1
    have hlg1 : 1 ≤ (mkC L).lg := by
      have hex : ∃ x ∈ L, x ≠ 0 := by
        apply Classical.byContradiction
        intro hno
        have : posN L = 0 := sumTo_zero _ _ fun i hi => by
          rw [if_pos]
          apply Classical.byContradiction
          intro hne
          exact hno ⟨gd L i, by simp only [gd, List.getD, List.getElem?_eq_getElem hi]; exact List.getElem_mem hi, hne⟩
        omega
      obtain ⟨x, hxm, hx0⟩ := hex
      rcases (run1_lg L (List.replicate 16 0, 0)).2 x hxm with h7 | h7
      · have : (x : Int) ≤ (mkC L).lg := h7
        omega
      · exact absurd h7 hx0
    have hlgE : (mkC L).lg = 1 := by omega
    rw [hS, hpL, h1, hlgE]
    rfl
  · have hkr := hk.kraft (by omega) 15 (fun i hi => by have := hk.le i hi; omega)
    have hr := room_sum L hx hlen
    rw [hF.sum (fun x => 2 ^ (15 - x)), hk.len, hkr] at hr
    rw [hr]
    simp

/-- No symbol at all. -/
theorem none_len {cs lens L : List Nat} {m : Nat} (hk : LenOk cs lens m) (hm : m ≤ 15) (hF : Front L lens) (hlen : L.length ≤ 320) (hp : posN cs = 0) : (mkC L).S.length = 0 := by
  rw [size_posN L (fun x hx => by have := hF.lt hk x hx; omega) hlen, hF.posN, posN_eq lens cs hk.len (fun i hi => hk.pos i (by have := hk.len; omega)), hp]

theorem posN_pos (cs : List Nat) (i : Nat) (hi : i < cs.length) (h : gd cs i ≠ 0) : 1 ≤ posN cs := by
  have h1 := sumTo_le (fun j => if j = i then 1 else 0) (fun j => if gd cs j = 0 then 0 else 1) cs.length (fun j _ => by
    by_cases e : j = i
    · subst e; simp only [if_true]; rw [if_neg h]; omega
    · rw [if_neg e]; omega)
  rw [sumTo_one, if_pos hi] at h1
  exact h1

/-- The codes of the front fit into their bits, be there symbols or none. -/
theorem fit_len {cs lens L : List Nat} {m : Nat} (hk : LenOk cs lens m) (hm : m ≤ 15) (hF : Front L lens) (hlen : L.length ≤ 320) (s : Nat) (hs : s < L.length) (h0 : 0 < L.getD s 0) : codeOf L s < 2 ^ L.getD s 0 := by
  have hsl : s < cs.length := by have := hF.le; have := hk.len; omega
  refine good_fit L (fun x hx => by have := hF.lt hk x hx; omega) hlen (good_len hk hm hF hlen (posN_pos cs s hsl ?_)) s hs h0
  intro e
  have h1 := (hk.pos s hsl).2 e
  have h2 := hF.eq s
  simp only [gd] at h1 h2
  omega
end Go.Proofs.YtdpobjgfnhjagaaDoor

namespace Go.Proofs.YtdpobjgfnhjagaaDoor
open Go.RowKit

/-- The run at a place. -/
abbrev ro (ops : List Rop) (i : Nat) : Rop := ops.getD i ⟨0, 0⟩

theorem rnC_length (l : List Rop) : (rnC l).length = l.length * 3 := by
  induction l with
  | nil => rfl
  | cons a r ih => simp only [rnC, List.flatMap_cons, List.length_append, List.length_cons, List.length_nil] at ih ⊢; omega
theorem rnC_get (l : List Rop) (i : Nat) (h : i < l.length) : (rnC l)[i * 3]? = some (.int .i64 (((ro l i).s : Nat) : Int)) ∧ (rnC l)[i * 3 + 1]? = some (.int .i64 (((ro l i).ex : Nat) : Int)) ∧ (rnC l)[i * 3 + 2]? = some (.int .i64 ((ropM (ro l i).s : Nat) : Int)) := by
  induction l generalizing i with
  | nil => simp at h
  | cons a r ih =>
    cases i with
    | zero => simp [rnC, ro]
    | succ i =>
      have := ih i (by simpa using h)
      have e : ∀ k, (rnC (a :: r))[3 + k]? = (rnC r)[k]? := fun k => by
        simp only [rnC, List.flatMap_cons]
        rw [List.getElem?_append_right (by simp)]
        simp
      rw [show (i + 1) * 3 = 3 + i * 3 by omega, show 3 + i * 3 + 1 = 3 + (i * 3 + 1) by omega, show 3 + i * 3 + 2 = 3 + (i * 3 + 2) by omega, e, e, e]
      simpa [ro] using this

/-- Runs in memory: a block whose front they are. -/
structure RnAt (w : World) (g : Nat) (cur : Array Value) (ops : List Rop) : Prop where
  heap : w.heap[g]? = some (.cells cur 100 (0, 0))
  front : ∀ k, k < ops.length * 3 → cur[k]? = (rnC ops)[k]?

theorem RnAt.cells {w : World} {g : Nat} {cur : Array Value} {ops : List Rop} (h : RnAt w g cur ops) (i : Nat) (hi : i < ops.length) :
    w.cell? ⟨g, i * 3, none⟩ = some (.int .i64 (((ro ops i).s : Nat) : Int)) ∧ w.cell? ⟨g, i * 3 + 1, none⟩ = some (.int .i64 (((ro ops i).ex : Nat) : Int)) ∧ w.cell? ⟨g, i * 3 + 2, none⟩ = some (.int .i64 ((ropM (ro ops i).s : Nat) : Int)) := by
  obtain ⟨a, b, c⟩ := rnC_get ops i hi
  refine ⟨?_, ?_, ?_⟩
  · rw [cell_of_heap h.heap, h.front _ (by omega)]; exact a
  · rw [cell_of_heap h.heap, h.front _ (by omega)]; exact b
  · rw [cell_of_heap h.heap, h.front _ (by omega)]; exact c

theorem RnAt.of_owns {w : World} {base n : Nat} {v : Value} {ops : List Rop} (h : w.ownsRow base 100 3 v n (rnC ops)) (h0 : 0 < n) : ∃ g cap cur, v = .slice (some ⟨g, 0, none⟩) n cap ∧ RnAt w g cur ops ∧ base ≤ g ∧ ops.length = n := by
  have hl := h.1
  rw [rnC_length] at hl
  rcases h.2 with ⟨_, h1⟩ | ⟨g, cap, cur, hv, hb, hh, hn, hc, hs, ht⟩
  · omega
  · refine ⟨g, cap, cur, hv, ⟨hh, fun k hk => ?_⟩, hb, by omega⟩
    rw [← ht, List.getElem?_take, if_pos (by omega), Array.getElem?_toList]

/-- How often each symbol comes. -/
def cntR (ops : List Rop) (s : Nat) : Nat := ops.countP fun o => o.s == s
theorem ro_get (ops : List Rop) (k : Nat) (hk : k < ops.length) : ro ops k = ops[k] := by simp [ro, List.getD, hk]
theorem cntR_succ (ops : List Rop) (k : Nat) (hk : k < ops.length) (s : Nat) : cntR (ops.take (k + 1)) s = cntR (ops.take k) s + if (ro ops k).s = s then 1 else 0 := by
  unfold cntR
  rw [List.take_succ_eq_append_getElem hk, List.countP_append, ro_get ops k hk]
  simp [List.countP_cons]
theorem cntR_le (ops : List Rop) (k s : Nat) : cntR (ops.take k) s ≤ k := by
  have h1 : cntR (ops.take k) s ≤ (ops.take k).length := List.countP_le_length
  rw [List.length_take] at h1
  omega
theorem cntR_pos (ops : List Rop) (o : Rop) (h : o ∈ ops) : cntR ops o.s ≠ 0 := by
  have : 0 < cntR ops o.s := List.countP_pos_iff.2 ⟨o, h, by simp⟩
  omega

theorem ropsBits_snoc (cl : List Nat) (ops : List Rop) (o : Rop) : ropsBits cl (ops ++ [o]) = ropsBits cl ops ++ ropBits cl o := by
  induction ops with
  | nil => simp [ropsBits]
  | cons a r ih => simp only [List.cons_append, ropsBits]; rw [ih, List.append_assoc]
theorem ropsBits_succ (cl : List Nat) (ops : List Rop) (k : Nat) (hk : k < ops.length) : ropsBits cl (ops.take (k + 1)) = ropsBits cl (ops.take k) ++ ropBits cl (ro ops k) := by
  rw [List.take_succ_eq_append_getElem hk, ropsBits_snoc, ro_get ops k hk]
theorem clBits_snoc (cl : List Nat) (n k : Nat) : clBits cl (n + 1) k = clBits cl n k ++ lsb 3 (toldL cl (k + n)) := by
  induction n generalizing k with
  | zero => simp [clBits, toldL]
  | succ n ih =>
    have h1 : clBits cl (n + 1 + 1) k = lsb 3 (cl.getD (ordL.getD k 0) 0) ++ clBits cl (n + 1) (k + 1) := rfl
    have h2 : clBits cl (n + 1) k = lsb 3 (cl.getD (ordL.getD k 0) 0) ++ clBits cl n (k + 1) := rfl
    rw [h1, ih (k + 1), h2, List.append_assoc, show k + 1 + n = k + (n + 1) by omega]

theorem sum_tab_le (f : Nat → Nat) (n m : Nat) (h : ∀ i, i < n → f i ≤ m) : (tab f n).sum ≤ n * m := by
  rw [sum_sumTo, tab_length]
  have h1 : sumTo (gd (tab f n)) n ≤ sumTo (fun _ => m) n := sumTo_le _ _ _ fun i hi => by
    rw [show gd (tab f n) i = f i from gd_tab _ _ _ hi]; exact h i hi
  have h2 : sumTo (fun _ => m) n = n * m := by
    clear h h1
    induction n with
    | zero => simp [sumTo]
    | succ n ih => simp only [sumTo]; rw [ih, Nat.succ_mul]
  omega
end Go.Proofs.YtdpobjgfnhjagaaDoor

namespace Go.Proofs.YtdpobjgfnhjagaaDoor
open Go.RowKit

theorem runs_some {L : List Nat} {ops : List Rop} (h : RnI L L.length ops) (h0 : 0 < L.length) : 0 < ops.length := by
  cases ops with
  | nil =>
    have := h.out
    rw [List.take_length] at this
    rw [← this] at h0
    simp [ropsOut] at h0
  | cons a r => simp

theorem RnAt.keep {w w' : World} {g : Nat} {cur : Array Value} {ops : List Rop} (h : RnAt w g cur ops) (hk : w'.heap[g]? = w.heap[g]?) : RnAt w' g cur ops := ⟨hk.trans h.heap, h.front⟩

theorem ropM_le (s : Nat) : ropM s ≤ 7 := by unfold ropM; split <;> (try split) <;> (try split) <;> omega
theorem ropsBits_le (cl : List Nat) (hx : ∀ x ∈ cl, x < 16) (ops : List Rop) : (ropsBits cl ops).length ≤ 22 * ops.length := by
  induction ops with
  | nil => simp [ropsBits]
  | cons a r ih =>
    have h1 : (codeBits cl a.s).length ≤ 15 := by
      unfold codeBits
      rw [msb_length]
      have : cl.getD a.s 0 < 16 := gd_lt hx (by omega) _
      omega
    have h2 := ropM_le a.s
    simp only [ropsBits, ropBits, List.length_append, lsb_length, List.length_cons]
    omega

set_option maxRecDepth 100000 in
set_option maxHeartbeats 4000000 in
theorem row_put (B g o cap : Nat) (L bs : List Nat) (w : World) (h : OutAt B w bs) (hL : IntsAt w g o (ni L)) (hl0 : 0 < L.length) (hl2 : L.length ≤ 400) (hx : ∀ x ∈ L, x < 16) (hO : OrdAt w) (hB0 : 0 < B) (hbl : bs.length < 1000) :
    Calls Tryd.prog 38 #[.pointer (some ⟨B, 0, none⟩), .slice (some ⟨g, o, none⟩) L.length cap] w fun e w' => ∃ (ops : List Rop) (cl : List Nat) (told : Nat), e = .returned (.tuple #[]) ∧ RnI L L.length ops ∧ LenOk (tab (cntR ops) 19) cl 7 ∧ 4 ≤ told ∧ told ≤ 19 ∧ (∀ j, told ≤ j → j < 19 → toldL cl j = 0) ∧
      OutAt B w' (bs ++ (lsb 4 (told - 4) ++ (clBits cl told 0 ++ ropsBits cl ops))) ∧ Kp B w w' := by
  obtain ⟨i0, hi, hz0, hz1, hz2⟩ := info_parts info3
  have hBl := h.lt
  go_enter Tryd.func38, Tryd.ntmps38
  go_wp2_with fail
  refine (runs_any g o cap L w hL hl2 hx).mono ?_
  rintro e w1 ⟨v, ops, rfl, hown, hrn, hb1⟩
  have hops := runs_some hrn hl0
  have hcnt := hrn.cnt
  have hok := hrn.ok
  obtain ⟨g1, cap1, cur, rfl, hR1, hg1, _⟩ := RnAt.of_owns hown hops
  have hg1l := lt_of_heap hR1.heap
  clear hown
  obtain ⟨n, hn⟩ : ∃ n, ops.length = n := ⟨_, rfl⟩
  have HN : Hid (ops.length = n) := hn
  have HRN : Hid (RnI L L.length ops) := hrn; clear hrn
  rw [hn] at hops hcnt ⊢
  clear hn
  go_wp2_with (at_make; refine wpList_make_full _ rfl _ _ 36 rfl w1.heap.size 3 i0 (.int .i64 0) 1 underlying36 hi hz0 hz1 .i64 .i64 19 19 19 rfl rfl rfl rfl ?b1 ?b2 ?b3 ?go)
  case b1 => rw [hz2]; omega
  case b2 => unfold maxLen; omega
  case b3 => simp
  case go =>
    intro w2 hown hgr
    have hh := owns_full hown
    have hb2 : Below w1.heap.size w1 w2 := (Below.refl _ _).grown hgr (Nat.le_refl _) (fun k e => by cases e)
    clear hown hgr
    rw [made_zero 19] at hh
    have hz0N : (List.replicate 19 (0 : Int)) = ni (List.replicate 19 0) := by simp [ni]
    rw [hz0N, tab_zero, tab_congr (fun _ => 0) (cntR (ops.take 0)) 19 (fun i _ => rfl)] at hh
    clear hz0N
    have hR2 := hR1.keep (hb2.block g1 hg1l)
    have hb02 : Below w.heap.size w w2 := hb1.trans (hb2.mono hb1.size)
    have HH : Hid _ := hh; clear hh
    have HR2 : Hid _ := hR2; clear hR2 hR1
    have hs1 := hb1.size
    go_wp2_with fail
    go_loopw [19] (fun kv wr => ∃ k : Nat, k ≤ n ∧ kv = .int .i64 k ∧ wr.heap[w1.heap.size]? = some (.cells (ints (ni (tab (cntR (ops.take k)) 19))) 3 (0, 0)) ∧ Hid (RnAt wr g1 cur ops) ∧ Below w.heap.size w wr) (fun kv _ => n - (intOf kv).toNat)
    case atStart => exact ⟨0, by omega, rfl, HH.out, HR2, hb02⟩
    case round =>
      obtain ⟨k, hk, rfl, hh, hR, hbel⟩ := hrel
      by_cases hlt : k < n
      · have hko : k < ops.length := by rw [HN.out]; exact hlt
        obtain ⟨a0, a1, a2⟩ := hR.out.cells k hko
        have hs := (hok (ro ops k) (by rw [ro_get ops k hko]; exact List.getElem_mem hko)).1
        have hct := cntR_le ops k (ro ops k).s
        have hc1 := cell_ints hh (ro ops k).s (by rw [ni_length, tab_length]; exact hs)
        rw [ni_getD, show (tab (cntR (ops.take k)) 19).getD (ro ops k).s 0 = cntR (ops.take k) (ro ops k).s from gd_tab _ _ _ hs] at hc1
        have hfz := free_of_heap hh
        have hhl := lt_of_heap hh
        have hset : (wr.setCell ⟨w1.heap.size, (ro ops k).s, none⟩ (.int .i64 ((cntR (ops.take k) (ro ops k).s : Nat) + 1 : Int))).heap[w1.heap.size]? = some (.cells (ints (ni (tab (cntR (ops.take (k + 1))) 19))) 3 (0, 0)) := by
          have := set_ints hh (ro ops k).s ((cntR (ops.take k) (ro ops k).s + 1 : Nat) : Int)
          rw [ni_set, tab_set _ (cntR (ops.take (k + 1))) 19 _ _ hs (by rw [cntR_succ ops k hko, if_pos rfl]) (fun i _ hne => by rw [cntR_succ ops k hko, if_neg (fun e => hne e.symm)]; rfl)] at this
          rw [show ((cntR (ops.take k) (ro ops k).s + 1 : Nat) : Int) = ((cntR (ops.take k) (ro ops k).s : Nat) + 1 : Int) by omega] at this
          exact this
        have hgne : g1 ≠ w1.heap.size := by omega
        have hRl := lt_of_heap hR.out.heap
        generalize cntR (ops.take k) (ro ops k).s = cv at hc1 hset hct
        generalize (ro ops k).s = s at a0 a2 hs hc1 hset
        generalize (ro ops k).ex = ex at a1
        generalize ropM s = mo at a2
        have HS : Hid _ := hset; clear hset
        have HK : Hid _ := hh; clear hh
        have hsi : (s : Int) < 19 := by omega
        go_wp2_with fail
        go_roundw
        case rel =>
          refine ⟨k + 1, by omega, by go_num, (heap_alloc_old (lt_of_heap HS.out) _).trans HS.out, hR.out.keep ?_, ?_⟩
          · rw [heap_alloc_old (by simp [World.setCell]; exact hRl)]
            exact heap_set_other hgne _ _
          · exact (hbel.setCell (p := ⟨w1.heap.size, s, none⟩) hs1 _).alloc (by simp [World.setCell]; exact hbel.size) _
        case measure => simp [intOf]; omega
      · have : k = n := by omega
        subst this
        rw [List.take_of_length_le (by rw [HN.out]; omega)] at hh
        have hI := IntsAt.of_heap hh
        have hcl19 : (tab (cntR ops) 19).length = 19 := tab_length _ _
        have hsum : (tab (cntR ops) 19).sum ≤ 1000000 := by
          have := sum_tab_le (cntR ops) 19 400 (fun i _ => by
            have := cntR_le ops ops.length i
            rw [List.take_length, HN.out] at this
            omega)
          omega
        have hhl := lt_of_heap hh
        clear hh
        have HLC := lengths_any w1.heap.size 0 19 19 7 (tab (cntR ops) 19) wr hcl19 (by omega) (by omega) hI hsum (by omega) (by omega) (by decide)
        clear hsum hI hcl19
        go_wp2_with fail
        refine HLC.mono ?_
        rintro e w3 ⟨gk, c, cl, rfl, hc, hLen, hI3, hgk, ⟨cur3, hcur3⟩, hb3⟩
        have hcll : cl.length = 19 := by rw [hLen.len, tab_length]
        have hcx : ∀ x ∈ cl, x < 8 := fun x hx => by
          obtain ⟨i, hi, rfl⟩ := gd_mem hx
          have := hLen.le i (by rw [tab_length]; omega)
          omega
        have hcx16 : ∀ x ∈ cl, x < 16 := fun x hx => by have := hcx x hx; omega
        have hgk3 := hI3.lt
        have HLen : Hid (LenOk (tab (cntR ops) 19) cl 7) := hLen; clear hLen
        have HCC := codeOf_any gk 0 19 c cl w3 hcll (by omega) hcx16 hI3
        go_wp2_with fail
        refine HCC.mono ?_
        rintro e w4 ⟨gw, rfl, hw4, hgw, hb4⟩
        have hgw4 := lt_of_heap hw4
        go_wp2_with fail
        obtain ⟨W5, hW5⟩ : ∃ W, W = w4.alloc (.cells #[.slice (some ⟨gk, 0, none⟩) 19 c, .slice (some ⟨gw, 0, none⟩) 19 19] 70) := ⟨_, rfl⟩
        have hb45 : Below w4.heap.size w4 W5 := by rw [hW5]; exact (Below.refl _ w4).alloc (Nat.le_refl _) _
        have hbx5 : W5.heap[w4.heap.size]? = some (.cells #[.slice (some ⟨gk, 0, none⟩) 19 c, .slice (some ⟨gw, 0, none⟩) 19 19] 70 (0, 0)) := by rw [hW5]; exact heap_alloc_new _ _
        have hbxl := lt_of_heap hbx5
        have z1 := hbel.size
        have z3 := hb3.size
        have z4 := hb4.size
        have hb5 : Below w.heap.size w W5 := ((hbel.trans (hb3.mono z1)).trans (hb4.mono (by omega))).trans (hb45.mono (by omega))
        have hRl := lt_of_heap hR.out.heap
        have hR5 : RnAt W5 g1 cur ops := ((hR.out.keep (hb3.block g1 hRl)).keep (hb4.block g1 (by omega))).keep (hb45.block g1 (by omega))
        have hI5 : IntsAt W5 gk 0 (ni cl) := (hI3.below hb4 hgk3).below hb45 (by omega)
        have hcur5 : W5.heap[gk]? = some (.cells cur3 3 (0, 0)) := (hb45.block gk (by omega)).trans ((hb4.block gk hgk3).trans hcur3)
        have hw5 : W5.heap[gw]? = some (.cells (ints (ni (tab (wordOf cl) 19))) 3 (0, 0)) := (hb45.block gw hgw4).trans hw4
        have HOC := ordered_any gk 0 c cl W5 hI5 hcll (hO.below hb5 (by omega))
        rw [← hW5]
        clear hW5 hcur3 hw4 HLC HCC hI3
        refine HOC.mono ?_
        rintro e w6 ⟨rfl, h6, hb6⟩
        have hcut := cut_walk W5.heap.size 0 19 19 4 w6 (toldL cl) (fun i hi => by
          have := cell_ints h6 i (by rw [ni_length, tab_length]; exact hi)
          rw [ni_getD, show (tab (toldL cl) 19).getD i 0 = toldL cl i from gd_tab _ _ _ hi] at this
          rw [Nat.zero_add]; exact this) (by omega) (by omega) (by omega)
        go_wp2_with fail
        refine hcut.mono ?_
        rintro e w7 ⟨m, rfl, hm4, hm19, hmz, _, rfl⟩
        have hb7 : Below w.heap.size w w7 := hb5.trans (hb6.mono (by omega))
        have z6 := hb6.size
        have ho7 := h.keepB hb7
        have hR7 := hR5.keep (hb6.block g1 (lt_of_heap hR5.heap))
        have hI7 := hI5.below hb6 hI5.lt
        have hcur7 := (hb6.block gk hI5.lt).trans hcur5
        have hw7 := (hb6.block gw (lt_of_heap hw5)).trans hw5
        have hbx7 := (hb6.block w4.heap.size hbxl).trans hbx5
        have hgB : B < gk := by omega
        have hgwB : B < gw := by omega
        have hE7 : CdEnv B w7 gk 0 gw cl := by
          refine ⟨fun w' kp => ⟨⟨?_, fun i hi => ?_⟩, ?_⟩, by omega, by omega, hcx16, by omega⟩
          · exact lt_of_heap (kp.other gk _ 3 (0, 0) hgB (by decide) hcur7)
          · have e1 := hI7.cell i hi
            rw [cell_of_heap hcur7] at e1
            rw [cell_of_heap (kp.other gk _ 3 (0, 0) hgB (by decide) hcur7)]
            exact e1
          · rw [hcll]; exact IntsAt.of_heap (kp.other gw _ 3 (0, 0) hgwB (by decide) hw7)
        clear hI5 hI7 hcur5 hcur7 hw5 hw7 hbx5 hR5 HOC hcut
        have hm : ((m : Int) - 4) = ((m - 4 : Nat) : Int) := by omega
        have HNC := number_put B 4 (m - 4) bs w7 ho7 (by omega) (by omega)
        have hw1 : IntKind.i64.wrap ((m : Int) - 4) = (m : Int) - 4 := by rw [IntKind.wrap_i64]; omega
        go_wp2_with fail
        refine HNC.mono ?_
        rintro e w8 ⟨rfl, o8, k8⟩
        obtain ⟨b8, hb8⟩ : ∃ b8, bs ++ lsb 4 (m - 4) = b8 := ⟨_, rfl⟩
        have hb8l : b8.length < 1004 := by rw [← hb8, List.length_append, lsb_length]; omega
        rw [hb8] at o8
        have HB8 : Hid _ := hb8; clear hb8 HNC hm
        have H6 : Hid (w7.heap[W5.heap.size]? = some (.cells (ints (ni (tab (toldL cl) 19))) 3 (0, 0))) := h6; clear h6
        have H7 : Hid (w7.heap[w4.heap.size]? = some (.cells #[.slice (some ⟨gk, 0, none⟩) 19 c, .slice (some ⟨gw, 0, none⟩) 19 19] 70 (0, 0))) := hbx7; clear hbx7
        have HR7 : Hid (RnAt w7 g1 cur ops) := hR7; clear hR7 hR
        go_wp2_with fail
        go_loopw [45] (fun kv wr => ∃ q : Nat, q ≤ m ∧ kv = .int .i64 q ∧ OutAt B wr (b8 ++ clBits cl q 0) ∧ Kp B w7 wr) (fun kv _ => m - (intOf kv).toNat)
        case atStart => exact ⟨0, by omega, rfl, by simpa [clBits] using o8, k8⟩
        case round =>
          obtain ⟨q, hq, rfl, ho, hkp⟩ := hrel
          have hql : (clBits cl q 0).length = 3 * q := clBits_length _ _ _
          obtain ⟨b9, hb9⟩ : ∃ b9, b8 ++ clBits cl q 0 = b9 := ⟨_, rfl⟩
          have hb9l : b9.length < 1100 := by rw [← hb9, List.length_append]; omega
          rw [hb9] at ho
          have HB9 : Hid _ := hb9; clear hb9 hql
          by_cases hlt2 : q < m
          · have hc6 := cell_ints (hkp.other W5.heap.size _ 3 (0, 0) (by omega) (by decide) H6.out) q (by rw [ni_length, tab_length]; omega)
            rw [ni_getD, show (tab (toldL cl) 19).getD q 0 = toldL cl q from gd_tab _ _ _ (by omega)] at hc6
            have hNC := number_put B 3 (toldL cl q) b9 wr ho (by omega) (by omega)
            have hsn : b8 ++ clBits cl (q + 1) 0 = b9 ++ lsb 3 (toldL cl q) := by rw [clBits_snoc, Nat.zero_add, ← List.append_assoc, HB9.out]
            generalize toldL cl q = x at hc6 hNC hsn
            have HNC : Hid _ := hNC; clear hNC
            have HSN : Hid _ := hsn; clear hsn
            have hqi : (q : Int) < m := by omega
            go_wp2_with fail
            refine Calls.mono HNC.out ?_
            rintro e w9 ⟨rfl, o9, k9⟩
            go_wp2_with fail
            go_roundw
            case rel => exact ⟨q + 1, by omega, by go_num, by rw [HSN.out]; exact o9, hkp.trans k9⟩
            case measure => simp [intOf]; omega
          · have : q = m := by omega
            subst this
            go_wp2_with fail
            go_loopw [55] (fun kv w2 => ∃ p : Nat, p ≤ k ∧ kv = .int .i64 p ∧ OutAt B w2 (b9 ++ ropsBits cl (ops.take p)) ∧ Kp B w7 w2) (fun kv _ => k - (intOf kv).toNat)
            case atStart => exact ⟨0, by omega, rfl, by simpa [ropsBits] using ho, hkp⟩
            case round =>
              obtain ⟨p, hp, rfl, ho2, hkp2⟩ := hrel
              have hpl : (ropsBits cl (ops.take p)).length ≤ 22 * p := by
                have h1 := ropsBits_le cl hcx16 (ops.take p)
                rw [List.length_take] at h1
                omega
              obtain ⟨bA, hbA⟩ : ∃ bA, b9 ++ ropsBits cl (ops.take p) = bA := ⟨_, rfl⟩
              have hbAl : bA.length < 20000 := by rw [← hbA, List.length_append]; omega
              rw [hbA] at ho2
              have HBA : Hid _ := hbA; clear hbA hpl
              by_cases hlt3 : p < k
              · have hko : p < ops.length := by rw [HN.out]; exact hlt3
                have hRr : RnAt wr g1 cur ops := ⟨hkp2.other g1 _ 100 (0, 0) (by omega) (by decide) HR7.out.heap, HR7.out.front⟩
                obtain ⟨a0, a1, a2⟩ := hRr.cells p hko
                have hmem : ro ops p ∈ ops := by rw [ro_get ops p hko]; exact List.getElem_mem hko
                have hs := (hok (ro ops p) hmem).1
                have hpos : gd cl (ro ops p).s ≠ 0 := fun e => by
                  have h1 := (HLen.out.pos (ro ops p).s (by rw [tab_length]; exact hs)).1 e
                  rw [gd_tab _ _ _ hs] at h1
                  exact cntR_pos ops _ hmem h1
                have hbx := hkp2.other w4.heap.size _ 70 (0, 0) (by omega) (by decide) H7.out
                have d0 : wr.cell? ⟨w4.heap.size, 0, none⟩ = some (.slice (some ⟨gk, 0, none⟩) 19 c) := cell_of_heap hbx 0
                have d1 : wr.cell? ⟨w4.heap.size, 1, none⟩ = some (.slice (some ⟨gw, 0, none⟩) 19 19) := cell_of_heap hbx 1
                have hbxr := lt_of_heap hbx
                have hgr := lt_of_heap hRr.heap
                have hBr := ho2.lt
                have hbits : b9 ++ ropsBits cl (ops.take (p + 1)) = bA ++ ropBits cl (ro ops p) := by rw [ropsBits_succ cl ops p hko, ← List.append_assoc, HBA.out]
                have hm7 := ropM_le (ro ops p).s
                have hrb : ropBits cl (ro ops p) = codeBits cl (ro ops p).s ++ lsb (ropM (ro ops p).s) (ro ops p).ex := rfl
                rw [hrb] at hbits
                clear hrb hmem hbx hRr
                obtain ⟨⟨s, ex⟩, hse⟩ : ∃ r, ro ops p = r := ⟨_, rfl⟩
                rw [hse] at a0 a1 a2 hs hpos hbits hm7
                simp only at a0 a1 a2 hs hpos hbits hm7
                clear hse
                have hcb : (codeBits cl s).length ≤ 15 := by
                  unfold codeBits
                  rw [msb_length]
                  have : cl.getD s 0 < 16 := gd_lt hcx16 (by omega) _
                  omega
                obtain ⟨mo, hmo⟩ : ∃ mo, ropM s = mo := ⟨_, rfl⟩
                rw [hmo] at a2 hbits hm7
                clear hmo
                obtain ⟨W, hW⟩ : ∃ W, W = wr.alloc (.cells #[.int .i64 (s : Int), .int .i64 (ex : Int), .int .i64 (mo : Int)] 100) := ⟨_, rfl⟩
                have hoW : OutAt B W bA := by rw [hW]; exact ho2.alloc _
                have hkW : Kp B wr W := by rw [hW]; exact Kp.new hBr _
                have htW : Hid (W.heap[wr.heap.size]? = some (.cells #[.int .i64 (s : Int), .int .i64 (ex : Int), .int .i64 (mo : Int)] 100 (0, 0))) := by
                  rw [hW]; exact heap_alloc_new _ _
                have hsy := symbol_env B gk 0 gw c 19 s cl bA W hoW (hE7.kp (hkp2.trans hkW)) (by omega) hpos (by omega)
                rw [hcll] at hsy
                have HSY : Hid _ := hsy; clear hsy
                have HBT : Hid _ := hbits; clear hbits
                go_wp2_with fail
                rw [← hW]
                refine Calls.mono HSY.out ?_
                rintro e wA ⟨rfl, oA, kA⟩
                have hcA := kA.other wr.heap.size _ 100 (0, 0) hBr (by decide) htW.out
                have f1 : wA.cell? ⟨wr.heap.size, 1, none⟩ = some (.int .i64 (ex : Int)) := cell_of_heap hcA 1
                have f2 : wA.cell? ⟨wr.heap.size, 2, none⟩ = some (.int .i64 (mo : Int)) := cell_of_heap hcA 2
                have hNC := number_put B mo ex (bA ++ codeBits cl s) wA oA (by omega) (by rw [List.length_append]; omega)
                have HNC : Hid _ := hNC; clear hNC hcA
                go_wp2_with fail
                refine Calls.mono HNC.out ?_
                rintro e wC ⟨rfl, oC, kC⟩
                go_wp2_with fail
                go_roundw
                case rel =>
                  refine ⟨p + 1, by omega, by go_num, ?_, ((hkp2.trans hkW).trans kA).trans kC⟩
                  rw [HBT.out, ← List.append_assoc]
                  exact oC
                case measure => simp [intOf]; omega
              · have : p = k := by omega
                subst this
                go_wp2_with fail
                go_end0
                refine ⟨ops, cl, q, rfl, HRN.out, HLen.out, hm4, hm19, hmz, ?_, ?_⟩
                · have e := HBA.out
                  rw [List.take_of_length_le (by rw [HN.out]; omega), ← HB9.out, ← HB8.out, List.append_assoc, List.append_assoc] at e
                  rw [e]
                  exact ho2
                · exact (Kp.one hBl ⟨hb7.os, hb7.tape, hb7.output, hb7.size, fun j hj _ => hb7.block j hj⟩).trans hkp2
end Go.Proofs.YtdpobjgfnhjagaaDoor

namespace Go.Proofs.YtdpobjgfnhjagaaDoor
open Go.RowKit

theorem sum_cntS (ts : List GT) (m : Nat) : sumTo (cntS ts) m ≤ ts.length := by
  induction ts with
  | nil => exact Nat.le_of_eq (sumTo_zero _ _ (fun i _ => rfl))
  | cons t r ih =>
    have e : sumTo (cntS (t :: r)) m = sumTo (cntS r) m + sumTo (fun s => if s = (toTok t).s then 1 else 0) m := by
      rw [← sumTo_add]
      refine sumTo_congr _ _ _ fun s _ => ?_
      show List.countP _ (t :: r) = List.countP _ r + _
      rw [List.countP_cons]
      by_cases c : (toTok t).s = s
      · simp [c]
      · simp [c]; exact fun e => c e.symm
    rw [e, sumTo_one, List.length_cons]
    split <;> omega
theorem sum_cntD (ts : List GT) (m : Nat) : sumTo (cntD ts) m ≤ ts.length := by
  induction ts with
  | nil => exact Nat.le_of_eq (sumTo_zero _ _ (fun i _ => rfl))
  | cons t r ih =>
    have e : sumTo (cntD (t :: r)) m ≤ sumTo (cntD r) m + sumTo (fun s => if s = dS t.dist then 1 else 0) m := by
      rw [← sumTo_add]
      refine sumTo_le _ _ _ fun s _ => ?_
      show List.countP _ (t :: r) ≤ List.countP _ r + _
      rw [List.countP_cons]
      by_cases c : dS t.dist = s
      · simp only [if_pos c.symm]; split <;> omega
      · simp [c]
    rw [sumTo_one] at e
    rw [List.length_cons]
    split at e <;> omega
theorem sum_gd_tab (f : Nat → Nat) (n : Nat) : (tab f n).sum = sumTo f n := by
  rw [sum_sumTo, tab_length]
  exact sumTo_congr _ _ _ fun i hi => gd_tab _ _ _ hi

/-- How often each of the literals' symbols comes, End among them. -/
def cntE (ts : List GT) (s : Nat) : Nat := if s = 256 then 1 else cntS ts s
theorem tab_cntE (ts : List GT) : (tab (cntS ts) 286).set 256 1 = tab (cntE ts) 286 := tab_set _ _ _ _ _ (by omega) rfl (fun i _ hne => by unfold cntE; rw [if_neg hne])
theorem sum_cntE (ts : List GT) : (tab (cntE ts) 286).sum ≤ ts.length + 1 := by
  rw [sum_gd_tab]
  have h1 := sumTo_le (cntE ts) (fun s => cntS ts s + if s = 256 then 1 else 0) 286 (fun s _ => by unfold cntE; by_cases c : s = 256 <;> simp [c])
  rw [sumTo_add, sumTo_one] at h1
  have := sum_cntS ts 286
  simp at h1
  omega

theorem counts_any (g n cap : Nat) (ts : List GT) (w : World) (hT : TkAt w g ts) (hn : ts.length = n) (hn2 : n ≤ 30000) (hok : ∀ t ∈ ts, gtOk t) :
    Calls Tryd.prog 35 #[.slice (some ⟨g, 0, none⟩) n cap] w fun e w' => ∃ gl gd, e = .returned (.tuple #[.slice (some ⟨gl, 0, none⟩) 286 286, .slice (some ⟨gd, 0, none⟩) 30 30]) ∧ w'.heap[gl]? = some (.cells (ints (ni (tab (cntE ts) 286))) 3 (0, 0)) ∧ w'.heap[gd]? = some (.cells (ints (ni (tab (cntD ts) 30))) 3 (0, 0)) ∧ w.heap.size ≤ gl ∧ w.heap.size ≤ gd ∧ gl ≠ gd ∧ Fr Non w w' := by
  rw [← tab_cntE]
  have e : ∀ k : Nat, ints (ni (List.replicate k 0)) = ints (List.replicate k 0) := fun k => by simp [ni, ints]
  exact counts_walk g n cap ts _ _ w hT hn hn2 hok rfl rfl (fun W => by rw [e]; exact make36 286 (by omega) W) (fun W => by rw [e]; exact make36 30 (by omega) W)

theorem cells_gd {w : World} {g : Nat} {l : List Nat} (h : IntsAt w g 0 (ni l)) (i : Nat) (hi : i < l.length) : w.cell? ⟨g, 0 + i, none⟩ = some (.int .i64 ((gd l i : Nat) : Int)) := by
  have := h.cell i (by rw [ni_length]; exact hi)
  rw [ni_getD] at this
  exact this

theorem gd_lt_len {l : List Nat} {i : Nat} (h : gd l i ≠ 0) : i < l.length := by
  apply Classical.byContradiction
  intro c
  exact h (gd_big l i (by omega))

/-- Every token has its codes. -/
theorem tok_len {ts : List GT} {A D L M : List Nat} (hA : LenOk (tab (cntE ts) 286) A 15) (hD : LenOk (tab (cntD ts) 30) D 15) (hL : Front L A) (hM : Front M D) (t : GT) (ht : t ∈ ts) (hok : gtOk t) : tokOk L M (toTok t) := by
  have hs : ∀ s, s < 286 → s ≠ 256 → (toTok t).s = s → s < L.length ∧ 0 < L.getD s 0 := fun s h1 h2 h3 => by
    have hc : cntE ts s ≠ 0 := by
      unfold cntE
      rw [if_neg h2]
      have : 0 < cntS ts s := List.countP_pos_iff.2 ⟨t, ht, by simp [h3]⟩
      omega
    have hp : gd L s ≠ 0 := by
      rw [hL.eq s]
      intro e
      have := (hA.pos s (by rw [tab_length]; exact h1)).1 e
      rw [gd_tab _ _ _ h1] at this
      exact hc this
    exact ⟨gd_lt_len hp, Nat.pos_of_ne_zero hp⟩
  unfold toTok at hs ⊢
  by_cases c : t.len = 0
  · rw [if_pos c] at hs ⊢
    have hc : t.c.toNat < 256 := t.c.toNat_lt
    obtain ⟨h1, h2⟩ := hs t.c.toNat (by omega) (by omega) rfl
    exact ⟨h1, h2, Or.inl hc⟩
  · rw [if_neg c] at hs ⊢
    obtain ⟨g3, g4, g5, g6⟩ := hok.resolve_left c
    obtain ⟨q1, q2, q3, _, _⟩ := len_spec t.len g3 g4
    obtain ⟨r1, r2, _, _⟩ := dist_spec t.dist g5 g6
    obtain ⟨h1, h2⟩ := hs (lS t.len) (by omega) (by omega) rfl
    have hc : cntD ts (dS t.dist) ≠ 0 := by
      have : 0 < cntD ts (dS t.dist) := List.countP_pos_iff.2 ⟨t, ht, by simp [c]⟩
      omega
    have hp : gd M (dS t.dist) ≠ 0 := by
      rw [hM.eq]
      intro e
      have := (hD.pos (dS t.dist) (by rw [tab_length]; exact r1)).1 e
      rw [gd_tab _ _ _ r1] at this
      exact hc this
    exact ⟨h1, h2, Or.inr ⟨q1, q2, q3, r1, gd_lt_len hp, Nat.pos_of_ne_zero hp, r2⟩⟩
end Go.Proofs.YtdpobjgfnhjagaaDoor

namespace Go.Proofs.YtdpobjgfnhjagaaDoor
open Go.RowKit

structure DynA (ts : List GT) (lo : Option Addr) (ln gk : Nat) (A : List Nat) : Prop where
  el : lo = some ⟨gk, 0, none⟩
  ok : LenOk (tab (cntE ts) 286) A 15
  front : Front (A.take ln) A
  l1 : 257 ≤ ln
  l2 : ln ≤ 286
  len : (A.take ln).length = ln

structure DynD (ts : List GT) (lo : Option Addr) (ln gk : Nat) (A : List Nat) : Prop where
  el : lo = some ⟨gk, 0, none⟩
  ok : LenOk (tab (cntD ts) 30) A 15
  front : Front (A.take ln) A
  l1 : 1 ≤ ln
  l2 : ln ≤ 30
  len : (A.take ln).length = ln

structure RowR (L : List Nat) (ops : List Rop) (cl : List Nat) (told : Nat) : Prop where
  rn : RnI L L.length ops
  ok : LenOk (tab (cntR ops) 19) cl 7
  t4 : 4 ≤ told
  t19 : told ≤ 19
  tz : ∀ j, told ≤ j → j < 19 → toldL cl j = 0

theorem cntE_end (ts : List GT) : 1 ≤ posN (tab (cntE ts) 286) := posN_pos _ 256 (by rw [tab_length]; omega) (by rw [gd_tab _ _ _ (by omega)]; unfold cntE; rw [if_pos rfl]; omega)

theorem dyn_reads {ts : List GT} {lo dO : Option Addr} {ln dn gk gk2 told : Nat} {A D cl : List Nat} {ops : List Rop} (hA : DynA ts lo ln gk A) (hD : DynD ts dO dn gk2 D) (hR : RowR (A.take ln ++ D.take dn) ops cl told) (hok : ∀ t ∈ ts, gtOk t)
    (I : List UInt8) (lim : Int) (hb : HasBits I 0 (dynamicBits ln dn told cl ops (ts.map toTok))) :
    inflE I lim = match toksOut lim (ts.map toTok) [] with
      | .error x => .error x
      | .ok o => .ok (o, ((dynamicBits ln dn told cl ops (ts.map toTok)).length + 7) / 8) := by
  have hl : (A.take ln ++ D.take dn).length = ln + dn := by rw [List.length_append, hA.len, hD.len]
  have hout : ropsOut ops [] = A.take ln ++ D.take dn := by rw [hR.rn.out, List.take_length]
  have ht : (ropsOut ops []).take ln = A.take ln := by rw [hout, List.take_append_of_le_length (by rw [hA.len]; omega), List.take_of_length_le (by rw [hA.len]; omega)]
  have hd : (ropsOut ops []).drop ln = D.take dn := by
    rw [hout]
    have e := List.drop_left (l₁ := A.take ln) (l₂ := D.take dn)
    rw [hA.len] at e; exact e
  have hx1 : ∀ x ∈ A.take ln, x < 16 := fun x hx => by have := hA.front.lt hA.ok x hx; omega
  have hx2 : ∀ x ∈ D.take dn, x < 16 := fun x hx => by have := hD.front.lt hD.ok x hx; omega
  have hcl19 : cl.length = 19 := by rw [hR.ok.len, tab_length]
  have hcl : ∀ x ∈ cl, x ≤ 7 := Front.lt (⟨by omega, fun _ => rfl⟩ : Front cl cl) hR.ok
  have h256 : gd (A.take ln) 256 ≠ 0 := by
    rw [hA.front.eq]
    intro h0
    have := (hA.ok.pos 256 (by rw [tab_length]; omega)).1 h0
    rw [gd_tab _ _ _ (by omega)] at this
    unfold cntE at this; rw [if_pos rfl] at this; omega
  have hpos : ∀ o ∈ ops, 0 < cl.getD o.s 0 := by
    intro o ho
    have h1 := (hR.rn.ok o ho).1
    have h2 := hR.ok.pos o.s (by rw [tab_length]; exact h1)
    rw [gd_tab _ _ _ h1] at h2
    have h3 := cntR_pos ops o ho
    have : gd cl o.s ≠ 0 := fun h => h3 (h2.1 h)
    exact Nat.pos_of_ne_zero this
  have hops : 0 < ops.length := by
    rcases Nat.eq_zero_or_pos ops.length with h | h
    · exfalso
      have : ops = [] := List.length_eq_zero_iff.1 h
      rw [this] at hout
      have h2 := congrArg List.length hout
      rw [hl] at h2
      have h3 := hA.l1
      simp [ropsOut] at h2
      omega
    · exact h
  have hcp : 1 ≤ posN (tab (cntR ops) 19) := by
    obtain ⟨o, ho⟩ := List.exists_mem_of_length_pos hops
    refine posN_pos _ o.s (by rw [tab_length]; exact (hR.rn.ok o ho).1) ?_
    rw [gd_tab _ _ _ (hR.rn.ok o ho).1]
    exact cntR_pos ops o ho
  refine infl_dynamic hA.l1 hA.l2 hD.l1 hD.l2 hR.t4 hR.t19 hcl19 (fun x hx => by have := hcl x hx; omega) hR.tz (good_len hR.ok (by omega) ⟨by omega, fun _ => rfl⟩ (by omega) hcp) ?_ ?_ ?_ ?_ ?_ ?_ ?_ ?_ ?_ hb
  · have h1 := hR.rn.seq
    rw [hl] at h1
    exact ropsOk_of cl _ ops [] h1 (fun o ho => ⟨by rw [hcl19]; exact (hR.rn.ok o ho).1, hpos o ho, (hR.rn.ok o ho).2⟩) (by rw [hout, hl])
  · have h1 := hR.rn.cnt
    rw [hl] at h1
    have := hA.l2; have := hD.l2
    omega
  · intro x hx
    rw [hout] at hx
    exact (List.mem_append.1 hx).elim (hx1 x) (hx2 x)
  · rw [hout, hl]
  · rw [ht]
    exact good_len hA.ok (by omega) hA.front (by have := hA.len; have := hA.l2; omega) (cntE_end ts)
  · have e : (ropsOut ops []).getD 256 0 = gd (A.take ln) 256 := by
      rw [hout]
      show gd (A.take ln ++ D.take dn) 256 = _
      have h2 : 256 < (A.take ln).length := by rw [hA.len]; have := hA.l1; omega
      simp only [gd, List.getD, List.getElem?_append_left h2]
    rw [e]; exact h256
  · rw [hd]
    rcases Nat.eq_zero_or_pos (posN (tab (cntD ts) 30)) with h | h
    · right; exact none_len hD.ok (by omega) hD.front (by have := hD.len; have := hD.l2; omega) h
    · left; exact good_len hD.ok (by omega) hD.front (by have := hD.len; have := hD.l2; omega) h
  · rw [hd]
    exact fun s hs h0 => fit_len hD.ok (by omega) hD.front (by have := hD.len; have := hD.l2; omega) s hs h0
  · rw [ht, hd]
    intro t h
    obtain ⟨u, hu, rfl⟩ := List.mem_map.1 h
    exact tok_len hA.ok hD.ok hA.front hD.front u hu (hok u hu)
end Go.Proofs.YtdpobjgfnhjagaaDoor

namespace Go.Proofs.YtdpobjgfnhjagaaDoor
open Go.RowKit

theorem owns_low {w : World} {base base' : Nat} {e : TypeId} {size : Nat} {v : Value} {n : Nat} {xs : List Value} (h : w.ownsRow base e size v n xs) (hb : base' ≤ base) : w.ownsRow base' e size v n xs :=
  ⟨h.1, h.2.imp (fun x => x) fun ⟨g, cap, cur, a, b, c⟩ => ⟨g, cap, cur, a, by omega, c⟩⟩

structure DynS (w0 : World) (ts : List GT) (lo : Option Addr) (ln : Nat) (dO : Option Addr) (dn B : Nat) (w' : World) (gk gk2 : Nat) (A D bits : List Nat) : Prop where
  a : DynA ts lo ln gk A
  d : DynD ts dO dn gk2 D
  ia : IntsAt w' gk 0 (ni A)
  id : IntsAt w' gk2 0 (ni D)
  b : Below w0.heap.size w0 w'
  ga : gk < B
  gd : gk2 < B
  hB : w0.heap.size ≤ B
  o : OutAt B w' bits

theorem DynS.step {w0 : World} {ts : List GT} {lo dO : Option Addr} {ln dn B : Nat} {w1 w2 : World} {gk gk2 : Nat} {A D bits bits' : List Nat} (h : DynS w0 ts lo ln dO dn B w1 gk gk2 A D bits) (hb : Below B w1 w2) (o : OutAt B w2 bits') : DynS w0 ts lo ln dO dn B w2 gk gk2 A D bits' :=
  ⟨h.a, h.d, h.ia.below hb h.ga, h.id.below hb h.gd, h.b.trans (hb.mono h.hB), h.ga, h.gd, h.hB, o⟩

def bits8 (ln dn : Nat) : List Nat := (headBits 2 ++ lsb 5 (ln - 257)) ++ lsb 5 (dn - 1)
theorem bits8_len (ln dn : Nat) : (bits8 ln dn).length < 100 := by
  unfold bits8
  have : (headBits 2).length ≤ 10 := by decide
  rw [List.length_append, List.length_append, lsb_length, lsb_length]; omega
def bitsA (ln dn told : Nat) (cl : List Nat) (ops : List Rop) : List Nat := bits8 ln dn ++ (lsb 4 (told - 4) ++ (clBits cl told 0 ++ ropsBits cl ops))

theorem dyn_h9 {w0 : World} {ts : List GT} {lo dO : Option Addr} {ln lc dn dc B : Nat} {w8 W : World} {gk gk2 : Nat} {A D : List Nat} (h : DynS w0 ts lo ln dO dn B w8 gk gk2 A D (bits8 ln dn)) (hW : W = w8.alloc (.cells #[.slice lo ln lc, .slice dO dn dc] 36)) :
    Calls Tryd.prog 39 #[.slice (some ⟨w8.heap.size, 0, none⟩) 2 2] W fun e w9 => ∃ v, e = .returned v ∧ DynS w0 ts lo ln dO dn B w9 gk gk2 A D (bits8 ln dn) ∧ ∃ gv cv, v = .slice (some ⟨gv, 0, none⟩) (A.take ln ++ D.take dn).length cv ∧ IntsAt w9 gv 0 (ni (A.take ln ++ D.take dn)) := by
  have el := h.a.el
  have ed := h.d.el
  subst el
  subst ed
  have hbx : W.heap[w8.heap.size]? = some (.cells #[.slice (some ⟨gk, 0, none⟩) ln lc, .slice (some ⟨gk2, 0, none⟩) dn dc] 36 (0, 0)) := by rw [hW]; exact heap_alloc_new _ _
  have hB8 := h.o.lt
  have kW : Kp B w8 W := by rw [hW]; exact Kp.new hB8 _
  have oW : OutAt B W (bits8 ln dn) := by rw [hW]; exact h.o.alloc _
  have hS := h.step kW.below oW
  obtain ⟨G, N, C, R, hG0, hG1, hN0, hN1, hC0, hC1, hR0, hR1, hl, hN⟩ : ∃ (G N C : Nat → Nat) (R : Nat → List Nat), G 0 = gk ∧ G 1 = gk2 ∧ N 0 = ln ∧ N 1 = dn ∧ C 0 = lc ∧ C 1 = dc ∧ R 0 = A.take ln ∧ R 1 = D.take dn ∧ (∀ k, (R k).length = N k) ∧ (∀ k, N k ≤ 400) := by
    refine ⟨fun k => if k = 0 then gk else gk2, fun k => if k = 0 then ln else dn, fun k => if k = 0 then lc else dc, fun k => if k = 0 then A.take ln else D.take dn, rfl, rfl, rfl, rfl, rfl, rfl, rfl, rfl, fun k => ?_, fun k => ?_⟩
    · by_cases c : k = 0
      · simp only [c, if_true]; exact h.a.len
      · simp only [c, if_false]; exact h.d.len
    · have := h.a.l2; have := h.d.l2
      by_cases c : k = 0
      · simp only [c, if_true]; omega
      · simp only [c, if_false]; omega
  have hcat := concat_any w8.heap.size G (fun _ => 0) N C R W (lt_of_heap hbx)
    (fun k hk => by
      rcases (show k = 0 ∨ k = 1 by omega) with rfl | rfl
      · rw [hG0, hN0, hC0]; exact cell_of_heap hbx 0
      · rw [hG1, hN1, hC1]; exact cell_of_heap hbx 1)
    hl hN (by rw [hN0]; have := h.a.l1; omega)
    (fun k hk => by
      rcases (show k = 0 ∨ k = 1 by omega) with rfl | rfl
      · rw [hG0, hR0]; exact hS.ia.take ln
      · rw [hG1, hR1]; exact hS.id.take dn)
  have hck : catK R 2 = A.take ln ++ D.take dn := by rw [← hR0, ← hR1]; simp [catK]
  rw [hck] at hcat
  refine hcat.mono ?_
  rintro e w9 ⟨v, rfl, hown, hb9⟩
  have hlen : (A.take ln ++ D.take dn).length = ln + dn := by rw [List.length_append, h.a.len, h.d.len]
  refine ⟨v, rfl, hS.step (hb9.mono (Nat.le_of_lt oW.lt)) (oW.keepB hb9), ?_⟩
  obtain ⟨gv, cv, rfl⟩ : ∃ gv cv, v = .slice (some ⟨gv, 0, none⟩) (A.take ln ++ D.take dn).length cv := by
    rcases hown.2 with ⟨_, h'⟩ | ⟨gv, cv, _, h', _⟩
    · have := h.a.l1; omega
    · exact ⟨gv, cv, h'⟩
  exact ⟨gv, cv, rfl, IntsAt.of_owns hown⟩

theorem dyn_hA {w0 : World} {ts : List GT} {lo dO : Option Addr} {ln dn B : Nat} {w9 : World} {gk gk2 : Nat} {A D : List Nat} {gv cv : Nat} (h : DynS w0 ts lo ln dO dn B w9 gk gk2 A D (bits8 ln dn)) (hv : IntsAt w9 gv 0 (ni (A.take ln ++ D.take dn))) (hO : OrdAt w0) (h0 : 0 < w0.heap.size) :
    Calls Tryd.prog 38 #[.pointer (some ⟨B, 0, none⟩), .slice (some ⟨gv, 0, none⟩) (A.take ln ++ D.take dn).length cv] w9 fun e wa => e = .returned (.tuple #[]) ∧ ∃ ops cl told, RowR (A.take ln ++ D.take dn) ops cl told ∧ DynS w0 ts lo ln dO dn B wa gk gk2 A D (bitsA ln dn told cl ops) := by
  have hlen : (A.take ln ++ D.take dn).length = ln + dn := by rw [List.length_append, h.a.len, h.d.len]
  have hx1 : ∀ x ∈ A.take ln, x < 16 := fun x hx => by have := h.a.front.lt h.a.ok x hx; omega
  have hx2 : ∀ x ∈ D.take dn, x < 16 := fun x hx => by have := h.d.front.lt h.d.ok x hx; omega
  have l1 := h.a.l1
  have l2 := h.a.l2
  have l3 := h.d.l2
  have l4 := h.hB
  have hrow := row_put B gv 0 cv (A.take ln ++ D.take dn) (bits8 ln dn) w9 h.o hv (by omega) (by omega) (fun x hx => (List.mem_append.1 hx).elim (hx1 x) (hx2 x)) (hO.below h.b h0) (by omega) (by have := bits8_len ln dn; omega)
  refine hrow.mono ?_
  rintro e wa ⟨ops, cl, told, rfl, hrn, hcl, ht4, ht19, htz, oa, ka⟩
  exact ⟨rfl, ops, cl, told, ⟨hrn, hcl, ht4, ht19, htz⟩, h.step ka.below oa⟩

theorem bitsA_len {ln dn told : Nat} {cl L : List Nat} {ops : List Rop} (hR : RowR L ops cl told) (hl : L.length ≤ 400) : (bitsA ln dn told cl ops).length < 100000 := by
  have h1 := bits8_len ln dn
  have h2 := clBits_length cl told 0
  have hcl19 : cl.length = 19 := by rw [hR.ok.len, tab_length]
  have hcl : ∀ x ∈ cl, x ≤ 7 := Front.lt (⟨by omega, fun _ => rfl⟩ : Front cl cl) hR.ok
  have h3 := ropsBits_le cl (fun x hx => by have := hcl x hx; omega) ops
  have h4 := hR.rn.cnt
  have h5 := hR.t19
  unfold bitsA
  rw [List.length_append, List.length_append, List.length_append, lsb_length]; omega

/-- What dynamicStream writes: a dynamic block of these lengths. -/
def DynW (ts : List GT) (bits : List Nat) : Prop :=
  ∃ lo dO ln dn gk gk2 A D cl ops told, DynA ts lo ln gk A ∧ DynD ts dO dn gk2 D ∧ RowR (A.take ln ++ D.take dn) ops cl told ∧ bits = dynamicBits ln dn told cl ops (ts.map toTok)

theorem DynW.reads {ts : List GT} {bits : List Nat} (h : DynW ts bits) (hok : ∀ t ∈ ts, gtOk t) (I : List UInt8) (lim : Int) (hb : HasBits I 0 bits) :
    inflE I lim = match toksOut lim (ts.map toTok) [] with
      | .error x => .error x
      | .ok o => .ok (o, (bits.length + 7) / 8) := by
  obtain ⟨lo, dO, ln, dn, gk, gk2, A, D, cl, ops, told, hA, hD, hR, rfl⟩ := h
  exact dyn_reads hA hD hR hok I lim hb

def CntOf (T : Value) (ts : List GT) (w : World) : Prop :=
  Calls Tryd.prog 35 #[T] w fun e w' => ∃ gl gd, e = .returned (.tuple #[.slice (some ⟨gl, 0, none⟩) 286 286, .slice (some ⟨gd, 0, none⟩) 30 30]) ∧ w'.heap[gl]? = some (.cells (ints (ni (tab (cntE ts) 286))) 3 (0, 0)) ∧ w'.heap[gd]? = some (.cells (ints (ni (tab (cntD ts) 30))) 3 (0, 0)) ∧ w.heap.size ≤ gl ∧ w.heap.size ≤ gd ∧ gl ≠ gd ∧ Fr Non w w'
def PutOf (T : Value) (ts : List GT) (w0 : World) : Prop :=
  ∀ (B gl gw cl cw dl dw ecl ecw : Nat) (L D bs : List Nat) (w : World), Below w0.heap.size w0 w → w0.heap.size ≤ B → OutAt B w bs → CdEnv B w gl 0 gw L → CdEnv B w dl 0 dw D → (∀ t ∈ ts, gtOk t ∧ tokOk L D (toTok t)) → 256 < L.length → gd L 256 ≠ 0 → bs.length < 4000000 →
    Calls Tryd.prog 31 #[.pointer (some ⟨B, 0, none⟩), T, .agg #[.slice (some ⟨gl, 0, none⟩) L.length cl, .slice (some ⟨gw, 0, none⟩) L.length cw, .slice (some ⟨dl, 0, none⟩) D.length ecl, .slice (some ⟨dw, 0, none⟩) D.length ecw]] w fun e w' => e = .returned (.tuple #[]) ∧ OutAt B w' (bs ++ (toksBits L D (ts.map toTok) ++ codeBits L 256)) ∧ Kp B w w'

theorem dynamic_of (T : Value) (ts : List GT) (w : World) (hcnt : CntOf T ts w) (hput : PutOf T ts w) (hn2 : ts.length ≤ 30000) (hok : ∀ t ∈ ts, gtOk t) (hO : OrdAt w) (h0 : 0 < w.heap.size) :
    Calls Tryd.prog 21 #[T] w fun e w' => ∃ v, e = .returned v ∧ ∃ bits, DynW ts bits ∧ (∀ x ∈ bits, x < 2) ∧ w'.ownsRow (w.heap.size + 1) 5 1 v (pack bits).length (bv8 (pack bits)) ∧ Below w.heap.size w w' := by
  refine dyn_walk _ w
    (fun a b w1 => ∃ gl gd', a = .slice (some ⟨gl, 0, none⟩) 286 286 ∧ b = .slice (some ⟨gd', 0, none⟩) 30 30 ∧ IntsAt w1 gl 0 (ni (tab (cntE ts) 286)) ∧ IntsAt w1 gd' 0 (ni (tab (cntD ts) 30)) ∧ Below w.heap.size w w1)
    (fun b l w2 => ∃ gd', b = .slice (some ⟨gd', 0, none⟩) 30 30 ∧ IntsAt w2 gd' 0 (ni (tab (cntD ts) 30)) ∧ Below w.heap.size w w2 ∧ ∃ gk c A, l = .slice (some ⟨gk, 0, none⟩) 286 c ∧ 286 ≤ c ∧ LenOk (tab (cntE ts) 286) A 15 ∧ IntsAt w2 gk 0 (ni A))
    (fun b lo ln lc w3 => ∃ gd', b = .slice (some ⟨gd', 0, none⟩) 30 30 ∧ IntsAt w3 gd' 0 (ni (tab (cntD ts) 30)) ∧ Below w.heap.size w w3 ∧ ∃ gk A, DynA ts lo ln gk A ∧ IntsAt w3 gk 0 (ni A))
    (fun d lo ln lc w4 => Below w.heap.size w w4 ∧ (∃ gk A, DynA ts lo ln gk A ∧ IntsAt w4 gk 0 (ni A)) ∧ ∃ gk c A, d = .slice (some ⟨gk, 0, none⟩) 30 c ∧ 30 ≤ c ∧ LenOk (tab (cntD ts) 30) A 15 ∧ IntsAt w4 gk 0 (ni A))
    (fun lo ln lc dO dn dc w5 => Below w.heap.size w w5 ∧ (∃ gk A, DynA ts lo ln gk A ∧ IntsAt w5 gk 0 (ni A)) ∧ ∃ gk A, DynD ts dO dn gk A ∧ IntsAt w5 gk 0 (ni A))
    (fun lo ln lc dO dn dc B w6 => ∃ gk gk2 A D, DynS w ts lo ln dO dn B w6 gk gk2 A D (headBits 2))
    (fun lo ln lc dO dn dc B w7 => ∃ gk gk2 A D, DynS w ts lo ln dO dn B w7 gk gk2 A D (headBits 2 ++ lsb 5 (ln - 257)))
    (fun lo ln lc dO dn dc B w8 => ∃ gk gk2 A D, DynS w ts lo ln dO dn B w8 gk gk2 A D (bits8 ln dn))
    (fun lo ln lc dO dn dc B v w9 => ∃ gk gk2 A D, DynS w ts lo ln dO dn B w9 gk gk2 A D (bits8 ln dn) ∧ ∃ gv cv, v = .slice (some ⟨gv, 0, none⟩) (A.take ln ++ D.take dn).length cv ∧ IntsAt w9 gv 0 (ni (A.take ln ++ D.take dn)))
    (fun lo ln lc dO dn dc B wa => ∃ gk gk2 A D ops cl told, RowR (A.take ln ++ D.take dn) ops cl told ∧ DynS w ts lo ln dO dn B wa gk gk2 A D (bitsA ln dn told cl ops))
    (fun lo ln lc dO dn dc B x y wb => ∃ gk gk2 A D ops cl told, RowR (A.take ln ++ D.take dn) ops cl told ∧ DynS w ts lo ln dO dn B wb gk gk2 A D (bitsA ln dn told cl ops) ∧ ∃ gw, x = .slice (some ⟨gk, 0, none⟩) ln lc ∧ y = .slice (some ⟨gw, 0, none⟩) ln ln ∧ wb.heap[gw]? = some (.cells (ints (ni (tab (wordOf (A.take ln)) ln))) 3 (0, 0)) ∧ B < gw)
    (fun lo ln lc dO dn dc B x y x' y' wc => ∃ gk gk2 A D ops cl told, RowR (A.take ln ++ D.take dn) ops cl told ∧ DynS w ts lo ln dO dn B wc gk gk2 A D (bitsA ln dn told cl ops) ∧ ∃ gw dw, x = .slice (some ⟨gk, 0, none⟩) ln lc ∧ y = .slice (some ⟨gw, 0, none⟩) ln ln ∧ wc.heap[gw]? = some (.cells (ints (ni (tab (wordOf (A.take ln)) ln))) 3 (0, 0)) ∧ B < gw ∧ x' = .slice (some ⟨gk2, 0, none⟩) dn dc ∧ y' = .slice (some ⟨dw, 0, none⟩) dn dn ∧ wc.heap[dw]? = some (.cells (ints (ni (tab (wordOf (D.take dn)) dn))) 3 (0, 0)) ∧ B < dw)
    (fun B wd => ∃ bits, DynW ts bits ∧ OutAt B wd bits ∧ Below w.heap.size w wd ∧ w.heap.size ≤ B)
    (fun v wd => ∃ bits, DynW ts bits ∧ (∀ x ∈ bits, x < 2) ∧ wd.ownsRow (w.heap.size + 1) 5 1 v (pack bits).length (bv8 (pack bits)) ∧ Below w.heap.size w wd)
    ?_ ?_ ?_ ?_ ?_ ?_ ?_ ?_ ?_ ?_ ?_ ?_ ?_ ?_
  · refine Calls.mono hcnt ?_
    rintro e w1 ⟨gl, gd', rfl, hl1, hd1, hgl, hgd, hne, f1⟩
    exact ⟨_, _, rfl, gl, gd', rfl, rfl, IntsAt.of_heap hl1, IntsAt.of_heap hd1, f1.below (Nat.le_refl _) (fun k hk => hk.elim)⟩
  · rintro a b w1 ⟨gl, gd', rfl, rfl, i1, i2, b1⟩
    refine (lengths_any gl 0 286 286 15 (tab (cntE ts) 286) w1 (tab_length _ _) (by omega) (by omega) i1 (by have := sum_cntE ts; omega) (by omega) (by omega) (by decide)).mono ?_
    rintro e w2 ⟨gk, c, A, rfl, hc, hA, hI2, hgk, _, hb2⟩
    exact ⟨_, rfl, gd', rfl, i2.below hb2 i2.lt, b1.trans (hb2.mono b1.size), gk, c, A, rfl, hc, hA, hI2⟩
  · rintro b l w2 ⟨gd', rfl, i2, b2, gk, c, A, rfl, hc, hA, i3⟩
    have hAl : A.length = 286 := by rw [hA.len, tab_length]
    refine (cut_walk gk 0 286 c 257 w2 (gd A) (fun i hi => cells_gd i3 i (by omega)) (by omega) (by omega) hc).mono ?_
    rintro e w3 ⟨nl, rfl, hnl1, hnl2, hnlz, _, rfl⟩
    exact ⟨_, nl, c, rfl, hnl1, by omega, gd', rfl, i2, b2, gk, A, ⟨rfl, hA, front_take A nl (fun i h1 h2 => hnlz i h1 (by omega)), hnl1, hnl2, by rw [List.length_take]; omega⟩, i3⟩
  · rintro b lo ln lc w3 ⟨gd', rfl, i2, b2, gk, A, hA, i3⟩
    refine (lengths_any gd' 0 30 30 15 (tab (cntD ts) 30) w3 (tab_length _ _) (by omega) (by omega) i2 (by rw [sum_gd_tab]; have := sum_cntD ts 30; omega) (by omega) (by omega) (by decide)).mono ?_
    rintro e w4 ⟨gk2, c2, D, rfl, hc2, hD, hI4, hgk2, _, hb4⟩
    exact ⟨_, rfl, b2.trans (hb4.mono b2.size), ⟨gk, A, hA, i3.below hb4 i3.lt⟩, gk2, c2, D, rfl, hc2, hD, hI4⟩
  · rintro d lo ln lc w4 ⟨b4, hA, gk2, c2, D, rfl, hc2, hD, i4⟩
    have hDl : D.length = 30 := by rw [hD.len, tab_length]
    refine (cut_walk gk2 0 30 c2 1 w4 (gd D) (fun i hi => cells_gd i4 i (by omega)) (by omega) (by omega) hc2).mono ?_
    rintro e w5 ⟨nd, rfl, hnd1, hnd2, hndz, _, rfl⟩
    exact ⟨_, nd, c2, rfl, hnd1, by omega, b4, hA, gk2, D, ⟨rfl, hD, front_take D nd (fun i h1 h2 => hndz i h1 (by omega)), hnd1, hnd2, by rw [List.length_take]; omega⟩, i4⟩
  · rintro lo ln lc dO dn dc w5 ⟨b5, ⟨gk, A, hA, i1⟩, gk2, D, hD, i2⟩
    refine (begin_any 2 w5 (by omega)).mono ?_
    rintro e w6 ⟨rfl, o6, b6⟩
    exact ⟨_, rfl, gk, gk2, A, D, hA, hD, i1.below b6 i1.lt, i2.below b6 i2.lt, b5.trans (b6.mono b5.size), i1.lt, i2.lt, b5.size, o6⟩
  · rintro lo ln lc dO dn dc B w6 ⟨gk, gk2, A, D, h⟩
    have l1 := h.a.l1
    have l2 := h.a.l2
    have e1 : ((ln : Int) - 257) = ((ln - 257 : Nat) : Int) := by omega
    rw [e1]
    refine (number_put B 5 (ln - 257) (headBits 2) w6 h.o (by omega) (by decide)).mono ?_
    rintro e w7 ⟨rfl, o7, k7⟩
    exact ⟨rfl, gk, gk2, A, D, h.step k7.below o7⟩
  · rintro lo ln lc dO dn dc B w7 ⟨gk, gk2, A, D, h⟩
    have l1 := h.d.l1
    have l2 := h.d.l2
    have e1 : ((dn : Int) - 1) = ((dn - 1 : Nat) : Int) := by omega
    rw [e1]
    have hh2 : (headBits 2).length ≤ 10 := by decide
    refine (number_put B 5 (dn - 1) _ w7 h.o (by omega) (by rw [List.length_append, lsb_length]; omega)).mono ?_
    rintro e w8 ⟨rfl, o8, k8⟩
    exact ⟨rfl, gk, gk2, A, D, h.step k8.below o8⟩
  · rintro lo ln lc dO dn dc B w8 W ⟨gk, gk2, A, D, h⟩ hW
    refine (dyn_h9 h hW).mono ?_
    rintro e w9 ⟨v, rfl, h9, hv⟩
    exact ⟨v, rfl, gk, gk2, A, D, h9, hv⟩
  · rintro lo ln lc dO dn dc B v w9 ⟨gk, gk2, A, D, h, gv, cv, rfl, hv⟩
    refine (dyn_hA h hv hO h0).mono ?_
    rintro e wa ⟨rfl, ops, cl, told, hR, ha⟩
    exact ⟨rfl, gk, gk2, A, D, ops, cl, told, hR, ha⟩
  · rintro lo ln lc dO dn dc B wa ⟨gk, gk2, A, D, ops, cl, told, hR, h⟩
    have el := h.a.el
    subst el
    have l2 := h.a.l2
    refine (codeOf_any gk 0 ln lc (A.take ln) wa h.a.len (by omega) (fun x hx => by have := h.a.front.lt h.a.ok x hx; omega) (h.ia.take ln)).mono ?_
    rintro e wb ⟨gw, rfl, hw, hgw, bb⟩
    have := h.o.lt
    exact ⟨_, _, rfl, gk, gk2, A, D, ops, cl, told, hR, h.step (bb.mono (by omega)) (h.o.keepB bb), gw, rfl, rfl, hw, by omega⟩
  · rintro lo ln lc dO dn dc B x y wb ⟨gk, gk2, A, D, ops, cl, told, hR, h, gw, rfl, rfl, hw, hgw⟩
    have el := h.d.el
    subst el
    have l2 := h.d.l2
    refine (codeOf_any gk2 0 dn dc (D.take dn) wb h.d.len (by omega) (fun x hx => by have := h.d.front.lt h.d.ok x hx; omega) (h.id.take dn)).mono ?_
    rintro e wc ⟨dw, rfl, hw2, hdw, bb⟩
    have := h.o.lt
    exact ⟨_, _, rfl, gk, gk2, A, D, ops, cl, told, hR, h.step (bb.mono (by omega)) (h.o.keepB bb), gw, dw, rfl, rfl, (bb.block gw (lt_of_heap hw)).trans hw, hgw, rfl, rfl, hw2, by omega⟩
  · rintro lo ln lc dO dn dc B x y x' y' wc ⟨gk, gk2, A, D, ops, cl, told, hR, h, gw, dw, rfl, rfl, hw, hgw, rfl, rfl, hw2, hdw⟩
    have l2 := h.a.l2
    have l1 := h.a.l1
    have l3 := h.d.l2
    have lA := h.a.len
    have lD := h.d.len
    have hB := h.hB
    have hx1 : ∀ x ∈ A.take ln, x < 16 := fun x hx => by have := h.a.front.lt h.a.ok x hx; omega
    have hx2 : ∀ x ∈ D.take dn, x < 16 := fun x hx => by have := h.d.front.lt h.d.ok x hx; omega
    have EL : CdEnv B wc gk 0 gw (A.take ln) := CdEnv.of_below (h.ia.take ln) (by rw [lA]; exact hw) h.ga hgw hx1 (by omega)
    have ED : CdEnv B wc gk2 0 dw (D.take dn) := CdEnv.of_below (h.id.take dn) (by rw [lD]; exact hw2) h.gd hdw hx2 (by omega)
    have hcall := hput B gk gw lc ln gk2 dw dc dn (A.take ln) (D.take dn) (bitsA ln dn told cl ops) wc h.b hB h.o EL ED (fun t ht => ⟨hok t ht, tok_len h.a.ok h.d.ok h.a.front h.d.front t ht (hok t ht)⟩) (by omega) (by
      rw [h.a.front.eq]
      intro h0
      have := (h.a.ok.pos 256 (by rw [tab_length]; omega)).1 h0
      rw [gd_tab _ _ _ (by omega)] at this
      unfold cntE at this; rw [if_pos rfl] at this; omega) (by have := bitsA_len (ln := ln) (dn := dn) hR (by rw [List.length_append]; omega); omega)
    rw [lA, lD] at hcall
    refine hcall.mono ?_
    rintro e wd ⟨rfl, od, kd⟩
    refine ⟨rfl, _, ⟨_, _, ln, dn, gk, gk2, A, D, cl, ops, told, h.a, h.d, hR, ?_⟩, od, h.b.trans (kd.below.mono hB), hB⟩
    have hout : ropsOut ops [] = A.take ln ++ D.take dn := by rw [hR.rn.out, List.take_length]
    have ht : (ropsOut ops []).take ln = A.take ln := by rw [hout, List.take_append_of_le_length (by rw [lA]; omega), List.take_of_length_le (by rw [lA]; omega)]
    have hd : (ropsOut ops []).drop ln = D.take dn := by
      rw [hout]
      have e := List.drop_left (l₁ := A.take ln) (l₂ := D.take dn)
      rw [lA] at e; exact e
    unfold dynamicBits dynBits bitsA bits8
    rw [ht, hd]
    simp only [List.append_assoc]
  · rintro B wd ⟨bits, hW, o, b, hB⟩
    obtain ⟨q1, ov, q2, q3⟩ := o
    exact ⟨ov, cell_of_heap q2 0, bits, hW, q1, owns_low q3 (by omega), b⟩
end Go.Proofs.YtdpobjgfnhjagaaDoor

namespace Go.Proofs.YtdpobjgfnhjagaaDoor
open Go.RowKit

set_option maxRecDepth 100000 in
set_option maxHeartbeats 4000000 in
theorem tokens_nil (B gl ol gw cl cw dl od dw ecl ecw : Nat) (L D bs : List Nat) (w : World) (h : OutAt B w bs) (EL : CdEnv B w gl ol gw L) (_ED : CdEnv B w dl od dw D) (h256 : 256 < L.length) (he : gd L 256 ≠ 0) (hl : bs.length < 4000000) :
    Calls Tryd.prog 31 #[.pointer (some ⟨B, 0, none⟩), .slice none 0 0, .agg #[.slice (some ⟨gl, ol, none⟩) L.length cl, .slice (some ⟨gw, 0, none⟩) L.length cw, .slice (some ⟨dl, od, none⟩) D.length ecl, .slice (some ⟨dw, 0, none⟩) D.length ecw]] w fun e w' => e = .returned (.tuple #[]) ∧ OutAt B w' (bs ++ (toksBits L D (([] : List GT).map toTok) ++ codeBits L 256)) ∧ Kp B w w' := by
  have hBl := h.lt
  go_enter Tryd.func31, Tryd.ntmps31
  go_wp2_with fail
  go_loopw [13] (fun i wr => i = .int .i64 0 ∧ OutAt B wr bs ∧ wr.heap[w.heap.size]? = some (.cells #[.slice (some ⟨gl, ol, none⟩) L.length cl, .slice (some ⟨gw, 0, none⟩) L.length cw, .slice (some ⟨dl, od, none⟩) D.length ecl, .slice (some ⟨dw, 0, none⟩) D.length ecw] 74 (0, 0) ) ∧ Kp B w wr) (fun i _ => 0)
  case atStart => exact ⟨rfl, h.alloc _, heap_alloc_new _ _, Kp.new hBl _⟩
  case round =>
    obtain ⟨rfl, ho, hbx, hkp⟩ := hrel
    have hBr := ho.lt
    have e0 : wr.cell? ⟨w.heap.size, 0, none⟩ = some (.slice (some ⟨gl, ol, none⟩) L.length cl) := cell_of_heap hbx 0
    have e1 : wr.cell? ⟨w.heap.size, 1, none⟩ = some (.slice (some ⟨gw, 0, none⟩) L.length cw) := cell_of_heap hbx 1
    have hELr := EL.kp hkp
    have HC : Hid _ := symbol_env B gl ol gw cl cw 256 L _ wr ho hELr h256 he (by omega)
    have HB : Hid _ := hbx; clear hbx
    go_wp2_with fail
    refine Calls.mono HC.out ?_
    rintro e w1 ⟨rfl, o1, k1⟩
    go_wp2_with fail
    go_end0
    refine ⟨rfl, ?_, hkp.trans k1⟩
    exact o1

set_option maxRecDepth 100000 in
set_option maxHeartbeats 4000000 in
theorem fixed_nil (w : World) :
    Calls Tryd.prog 20 #[.slice none 0 0] w fun e w' => ∃ ov, e = .returned ov ∧ w'.ownsRow (w.heap.size + 1) 5 1 ov (pack (fixedBits (([] : List GT).map toTok))).length (bv8 (pack (fixedBits (([] : List GT).map toTok)))) ∧ Below w.heap.size w w' := by
  go_enter Tryd.func20, Tryd.ntmps20
  go_wp2_with fail
  refine (begin_any 1 w (by omega)).mono ?_
  rintro e w1 ⟨rfl, o1, b1⟩
  have hB1 := o1.lt
  go_wp2_with fail
  refine (fixedLiterals_any w1).mono ?_
  rintro e w2 ⟨rfl, l2, b2⟩
  have i2 := IntsAt.of_heap l2
  have hs2 := i2.lt
  have L2 : Hid (w2.heap[w1.heap.size]? = some (.cells (ints (ni lits)) 3 (0, 0))) := l2; clear l2
  go_wp2_with fail
  refine (codeOf_any w1.heap.size 0 288 288 lits w2 lits_length (by omega) lits_lt i2).mono ?_
  rintro e w3 ⟨gw, rfl, l3, hgw, b3⟩
  have hgw3 := lt_of_heap l3
  have L3 : Hid (w3.heap[gw]? = some (.cells (ints (ni (tab (wordOf lits) 288))) 3 (0, 0))) := l3; clear l3
  go_wp2_with fail
  refine (fixedDistances_any w3).mono ?_
  rintro e w4 ⟨rfl, l4, b4⟩
  have i4 := IntsAt.of_heap l4
  have hs4 := i4.lt
  have L4 : Hid (w4.heap[w3.heap.size]? = some (.cells (ints (ni dists)) 3 (0, 0))) := l4; clear l4
  go_wp2_with fail
  refine (codeOf_any w3.heap.size 0 32 32 dists w4 dists_length (by omega) dists_lt i4).mono ?_
  rintro e w5 ⟨dw, rfl, l5, hdw, b5⟩
  have hb15 : Below w1.heap.size w1 w5 := ((b2.trans (b3.mono (by omega))).trans (b4.mono (by have := b2.size; have := b3.size; omega))).trans (b5.mono (by have := b2.size; have := b3.size; have := b4.size; omega))
  have o5 := o1.keepB hb15
  have hB5 : w.heap.size < w1.heap.size := hB1
  have hs23 := b3.size
  have hs34 := b4.size
  have EL : CdEnv w.heap.size w5 w1.heap.size 0 gw lits := by
    refine CdEnv.of_heap ?_ ?_ (by omega) (by omega) lits_lt (by rw [lits_length]; omega)
    · exact (b5.block _ (by omega)).trans ((b4.block _ (by omega)).trans ((b3.block _ (by omega)).trans L2.out))
    · rw [lits_length]
      exact (b5.block _ (by omega)).trans ((b4.block _ (by omega)).trans L3.out)
  have ED : CdEnv w.heap.size w5 w3.heap.size 0 dw dists := by
    refine CdEnv.of_heap ?_ ?_ (by omega) (by omega) dists_lt (by rw [dists_length]; omega)
    · exact (b5.block _ (by omega)).trans L4.out
    · rw [dists_length]; exact l5
  have hb5 : Below w.heap.size w w5 := b1.trans (hb15.mono (by omega))
  have hcall := tokens_nil w.heap.size w1.heap.size 0 gw 288 288 w3.heap.size 0 dw 32 32 lits dists (headBits 1) w5 o5 EL ED (by rw [lits_length]; omega) (by have := lits_pos 256 (by omega); show lits.getD 256 0 ≠ 0; omega) (by decide)
  rw [lits_length, dists_length] at hcall
  have HC : Hid _ := hcall
  clear hcall l5
  go_wp2_with fail
  refine Calls.mono HC.out ?_
  rintro e w6 ⟨rfl, o6, k6⟩
  obtain ⟨_, ov, q2, q3⟩ := o6
  have c0 : w6.cell? ⟨w.heap.size, 0, none⟩ = some ov := cell_of_heap q2 0
  clear q2
  go_wp2_with fail
  go_ret
  exact ⟨ov, rfl, q3, hb5.trans k6.below⟩

set_option maxRecDepth 100000 in
set_option maxHeartbeats 4000000 in
theorem counts_nil_walk (ZL ZD : Array Value) (w : World) (hZL : ZL = ints (ni (List.replicate 286 0))) (hZD : ZD = ints (ni (List.replicate 30 0)))
    (m1 : ∀ W, (Instr.makeSlice 36 (.int .i64 286) (.int .i64 286)).run Tryd.prog W = .ok (.slice (some ⟨W.heap.size, 0, none⟩) 286 286) (W.alloc (.cells ZL 3)))
    (m2 : ∀ W, (Instr.makeSlice 36 (.int .i64 30) (.int .i64 30)).run Tryd.prog W = .ok (.slice (some ⟨W.heap.size, 0, none⟩) 30 30) (W.alloc (.cells ZD 3))) :
    Calls Tryd.prog 35 #[.slice none 0 0] w fun e w' => ∃ gl gd, e = .returned (.tuple #[.slice (some ⟨gl, 0, none⟩) 286 286, .slice (some ⟨gd, 0, none⟩) 30 30]) ∧ w'.heap[gl]? = some (.cells (ints (ni ((tab (cntS []) 286).set 256 1))) 3 (0, 0)) ∧ w'.heap[gd]? = some (.cells (ints (ni (tab (cntD []) 30))) 3 (0, 0)) ∧ w.heap.size ≤ gl ∧ w.heap.size ≤ gd ∧ gl ≠ gd ∧ Fr Non w w' := by
  have HZL : Hid _ := hZL
  have HZD : Hid _ := hZD
  clear hZL hZD
  go_enter Tryd.func35, Tryd.ntmps35
  go_wp2_with fail
  go_region
  · obtain ⟨W, hW⟩ : ∃ W, W = ((w.alloc (.cells ZL 3)).alloc (.cells ZD 3)).drew := ⟨_, rfl⟩
    rw [← hW]
    have hs1 : (w.alloc (.cells ZL 3)).heap.size = w.heap.size + 1 := by simp
    have h1 : W.heap[w.heap.size]? = some (.cells ZL 3 (0, 0)) := by
      rw [hW]
      exact (heap_alloc_old (by simp) _).trans (heap_alloc_new _ _)
    have h2 : W.heap[w.heap.size + 1]? = some (.cells ZD 3 (0, 0)) := by
      rw [hW]
      have := heap_alloc_new (w.alloc (.cells ZL 3)) (.cells ZD 3)
      rw [hs1] at this
      exact this
    have f0 : Fr Non w W := by rw [hW]; exact (((Fr.refl _ w).alloc _).alloc _).drew
    clear hW hs1
    rw [HZL.out] at h1
    rw [HZD.out] at h2
    have H1 : Hid _ := h1
    have H2 : Hid _ := h2
    clear h1 h2
    go_wp2_with fail
    go_loopw [13] (fun iv wr => iv = .int .i64 0 ∧ wr.heap[w.heap.size]? = some (.cells (ints (ni (tab (cntS []) 286))) 3 (0, 0)) ∧ wr.heap[(w.heap.size + 1)]? = some (.cells (ints (ni (tab (cntD []) 30))) 3 (0, 0)) ∧ Fr Non w wr) (fun iv _ => 0)
    case atStart => exact ⟨rfl, by rw [tab_nilS]; exact H1.out, by rw [tab_nilD]; exact H2.out, f0⟩
    case round =>
      obtain ⟨rfl, hl, hd, hfr⟩ := hrel
      have hll := lt_of_heap hl
      have hdl := lt_of_heap hd
      have d1 := cell_ints hl 256 (by rw [ni_length, tab_length]; omega)
      obtain ⟨z, hz⟩ : ∃ z, wr.cell? ⟨w.heap.size, 256, none⟩ = some (.int .i64 z) := ⟨_, d1⟩
      have fz := free_of_heap hl
      have hset := set_ints hl 256 ((1 : Nat) : Int)
      rw [ni_set] at hset
      have HS : Hid _ := hset
      have KD : Hid _ := hd
      clear hset d1 hl hd
      go_wp2_with fail
      go_ret2
      exact ⟨w.heap.size, (w.heap.size + 1), rfl, HS.out, (heap_set_other (by omega) _ _).trans KD.out, by omega, by omega, by omega, hfr.setNew (p := ⟨w.heap.size, 256, none⟩) (by show w.heap.size ≤ w.heap.size; omega) _⟩
  · obtain ⟨W, hW⟩ : ∃ W, W = ((w.alloc (.cells ZD 3)).alloc (.cells ZL 3)).drew := ⟨_, rfl⟩
    rw [← hW]
    have hs1 : (w.alloc (.cells ZD 3)).heap.size = w.heap.size + 1 := by simp
    have h1 : W.heap[w.heap.size]? = some (.cells ZD 3 (0, 0)) := by
      rw [hW]
      exact (heap_alloc_old (by simp) _).trans (heap_alloc_new _ _)
    have h2 : W.heap[w.heap.size + 1]? = some (.cells ZL 3 (0, 0)) := by
      rw [hW]
      have := heap_alloc_new (w.alloc (.cells ZD 3)) (.cells ZL 3)
      rw [hs1] at this
      exact this
    have f0 : Fr Non w W := by rw [hW]; exact (((Fr.refl _ w).alloc _).alloc _).drew
    clear hW hs1
    rw [HZD.out] at h1
    rw [HZL.out] at h2
    have H1 : Hid _ := h1
    have H2 : Hid _ := h2
    clear h1 h2
    go_wp2_with fail
    go_loopw [13] (fun iv wr => iv = .int .i64 0 ∧ wr.heap[(w.heap.size + 1)]? = some (.cells (ints (ni (tab (cntS []) 286))) 3 (0, 0)) ∧ wr.heap[w.heap.size]? = some (.cells (ints (ni (tab (cntD []) 30))) 3 (0, 0)) ∧ Fr Non w wr) (fun iv _ => 0)
    case atStart => exact ⟨rfl, by rw [tab_nilS]; exact H2.out, by rw [tab_nilD]; exact H1.out, f0⟩
    case round =>
      obtain ⟨rfl, hl, hd, hfr⟩ := hrel
      have hll := lt_of_heap hl
      have hdl := lt_of_heap hd
      have d1 := cell_ints hl 256 (by rw [ni_length, tab_length]; omega)
      obtain ⟨z, hz⟩ : ∃ z, wr.cell? ⟨(w.heap.size + 1), 256, none⟩ = some (.int .i64 z) := ⟨_, d1⟩
      have fz := free_of_heap hl
      have hset := set_ints hl 256 ((1 : Nat) : Int)
      rw [ni_set] at hset
      have HS : Hid _ := hset
      have KD : Hid _ := hd
      clear hset d1 hl hd
      go_wp2_with fail
      go_ret2
      exact ⟨(w.heap.size + 1), w.heap.size, rfl, HS.out, (heap_set_other (by omega) _ _).trans KD.out, by omega, by omega, by omega, hfr.setNew (p := ⟨(w.heap.size + 1), 256, none⟩) (by show w.heap.size ≤ (w.heap.size + 1); omega) _⟩


theorem counts_nil (w : World) :
    Calls Tryd.prog 35 #[.slice none 0 0] w fun e w' => ∃ gl gd, e = .returned (.tuple #[.slice (some ⟨gl, 0, none⟩) 286 286, .slice (some ⟨gd, 0, none⟩) 30 30]) ∧ w'.heap[gl]? = some (.cells (ints (ni (tab (cntE []) 286))) 3 (0, 0)) ∧ w'.heap[gd]? = some (.cells (ints (ni (tab (cntD []) 30))) 3 (0, 0)) ∧ w.heap.size ≤ gl ∧ w.heap.size ≤ gd ∧ gl ≠ gd ∧ Fr Non w w' := by
  rw [← tab_cntE]
  have e : ∀ k : Nat, ints (ni (List.replicate k 0)) = ints (List.replicate k 0) := fun k => by simp [ni, ints]
  exact counts_nil_walk _ _ w rfl rfl (fun W => by rw [e]; exact make36 286 (by omega) W) (fun W => by rw [e]; exact make36 30 (by omega) W)

end Go.Proofs.YtdpobjgfnhjagaaDoor

namespace Go.Proofs.YtdpobjgfnhjagaaDoor
open Go.RowKit

theorem getD_pad (bs : List Nat) (z j : Nat) : (bs ++ List.replicate z 0).getD j 0 = bs.getD j 0 := by
  simp only [List.getD]
  by_cases h : j < bs.length
  · rw [List.getElem?_append_left h]
  · rw [List.getElem?_append_right (by omega), List.getElem?_eq_none (by omega : bs.length ≤ j), List.getElem?_replicate]
    split <;> rfl
theorem pack_padz (bs : List Nat) (z : Nat) (h : (bs.length + z + 7) / 8 = (bs.length + 7) / 8) : pack (bs ++ List.replicate z 0) = pack bs := by
  have hb : ∀ k, byteOf (bs ++ List.replicate z 0) k = byteOf bs k := fun k => by
    unfold byteOf
    simp only [getD_pad]
  unfold pack
  rw [List.length_append, List.length_replicate, h]
  simp only [hb]
theorem pack_pad (bs : List Nat) : pack (bs ++ List.replicate (8 * (pack bs).length - bs.length) 0) = pack bs := by
  have hl := pack_length bs
  exact pack_padz bs _ (by omega)

set_option maxHeartbeats 400000 in
theorem pass_put (B : Nat) (bs : List Nat) (w : World) (h : OutAt B w bs) :
    Calls Tryd.prog 26 #[.pointer (some ⟨B, 0, none⟩)] w fun e w' => e = .returned (.tuple #[]) ∧ OutAt B w' (bs ++ List.replicate (8 * (pack bs).length - bs.length) 0) ∧ Kp B w w' := by
  obtain ⟨q1, ov, q2, q3⟩ := h
  have c0 : w.cell? ⟨B, 0, none⟩ = some ov := cell_of_heap q2 0
  have c1 : w.cell? ⟨B, 1, none⟩ = some (.int .i64 ((8 * (pack bs).length - bs.length : Nat) : Int)) := cell_of_heap q2 1
  have fz := free_of_heap q2
  have hBl := lt_of_heap q2
  have Q2 : Hid (w.heap[B]? = some (.cells #[ov, .int .i64 ((8 * (pack bs).length - bs.length : Nat) : Int)] 62 (0, 0))) := q2; clear q2
  go_enter Tryd.func26, Tryd.ntmps26
  go_wp2_with fail
  go_end0
  refine ⟨rfl, ⟨fun x hx => ?_, ov, ?_, ?_⟩, Kp.one hBl ((Fr.refl (One B) w).setCell (p := ⟨B, 1, none⟩) rfl _)⟩
  · rcases List.mem_append.1 hx with h | h
    · exact q1 x h
    · rw [List.eq_of_mem_replicate h]; omega
  · have := heap_set Q2.out 1 (.int .i64 0)
    rw [pack_pad, List.length_append, List.length_replicate, show 8 * (pack bs).length - (bs.length + (8 * (pack bs).length - bs.length)) = 0 by omega]
    exact this
  · rw [pack_pad]
    exact owns_keep q3 (fun g hg _ => heap_set_other (by have := (owns_block q3 hg).1; omega) _ _)

theorem xor_ones (n : Nat) (hn : n < 65536) : bits .xor .i64 (-1) (n : Int) = -(n : Int) - 1 := by
  have h1 : (BitVec.ofInt 64 (n : Int)).toNat = n := by
    rw [BitVec.ofInt_natCast, BitVec.toNat_ofNat]; exact Nat.mod_eq_of_lt (by omega)
  show IntKind.i64.wrap ((BitVec.ofInt 64 (-1) ^^^ BitVec.ofInt 64 (n : Int)).toNat : Int) = _
  rw [show BitVec.ofInt 64 (-1) = BitVec.allOnes 64 from rfl, BitVec.allOnes_xor, BitVec.toNat_not, h1, IntKind.wrap_i64]
  omega

/-- The five bytes ahead of a stored block's. -/
theorem pack_head (n : Nat) (hn : n < 65536) : pack (headBits 0 ++ List.replicate 5 0 ++ lsb 16 n ++ lsb 16 (65535 - n)) = headOf true n := by
  obtain ⟨m, hm⟩ : ∃ m, 65535 - n = m := ⟨_, rfl⟩
  rw [hm]
  have hl : (headBits 0 ++ List.replicate 5 0 ++ lsb 16 n ++ lsb 16 m).length = 40 := by simp [headBits, lsb_length]
  unfold pack
  rw [hl]
  show [UInt8.ofNat (byteOf _ 0), UInt8.ofNat (byteOf _ 1), UInt8.ofNat (byteOf _ 2), UInt8.ofNat (byteOf _ 3), UInt8.ofNat (byteOf _ 4)] = _
  have e0 : byteOf (headBits 0 ++ List.replicate 5 0 ++ lsb 16 n ++ lsb 16 m) 0 = 1 := by
    simp [byteOf, headBits, lsb, List.getD]
  have e1 : byteOf (headBits 0 ++ List.replicate 5 0 ++ lsb 16 n ++ lsb 16 m) 1 = n % 256 := by
    simp [byteOf, headBits, lsb, List.getD, List.replicate]; omega
  have e2 : byteOf (headBits 0 ++ List.replicate 5 0 ++ lsb 16 n ++ lsb 16 m) 2 = n / 256 := by
    simp [byteOf, headBits, lsb, List.getD, List.replicate]; omega
  have e3 : byteOf (headBits 0 ++ List.replicate 5 0 ++ lsb 16 n ++ lsb 16 m) 3 = m % 256 := by
    simp [byteOf, headBits, lsb, List.getD, List.replicate]; omega
  have e4 : byteOf (headBits 0 ++ List.replicate 5 0 ++ lsb 16 n ++ lsb 16 m) 4 = m / 256 := by
    simp [byteOf, headBits, lsb, List.getD, List.replicate]; omega
  rw [e0, e1, e2, e3, e4]
  unfold headOf
  rw [show m % 256 = 255 - n % 256 by omega, show m / 256 = 255 - n / 256 by omega]
  rfl

set_option maxRecDepth 100000 in
set_option maxHeartbeats 1000000 in
theorem stored_put (g o cap : Nat) (b : List UInt8) (w : World) (hL : Lies w g o b) (hg : g < w.heap.size) (hb : b.length ≤ 30000) :
    Calls Tryd.prog 16 #[.slice (some ⟨g, o, none⟩) b.length cap] w fun e w' => ∃ ov, e = .returned ov ∧ w'.ownsRow (w.heap.size + 1) 5 1 ov (b.length + 5) (bv8 (headOf true b.length ++ b)) ∧ Below w.heap.size w w' := by
  obtain ⟨i0, hi, hz0, hz1, hz2⟩ := info_parts info5
  obtain ⟨n, hn⟩ : ∃ n, b.length = n := ⟨_, rfl⟩
  have hph := pack_head n (by omega)
  have hnot := lsb_not n (by omega)
  rw [hn]
  have HN : Hid (b.length = n) := hn
  rw [hn] at hb
  clear hn
  have HPH : Hid _ := hph; clear hph
  have HNOT : Hid _ := hnot; clear hnot
  go_enter Tryd.func16, Tryd.ntmps16
  go_wp2_with fail
  refine (begin_any 0 w (by omega)).mono ?_
  rintro e w1 ⟨rfl, o1, b1⟩
  go_wp2_with fail
  refine (pass_put w.heap.size _ w1 o1).mono ?_
  rintro e w2 ⟨rfl, o2, k2⟩
  have e3 : 8 * (pack (headBits 0)).length - (headBits 0).length = 5 := by decide
  rw [e3] at o2
  clear e3
  go_wp2_with fail
  refine (number_put w.heap.size 16 n _ w2 o2 (by omega) (by simp [headBits, lsb_length])).mono ?_
  rintro e w3 ⟨rfl, o3, k3⟩
  have hcall := number_raw w.heap.size 16 (-(n : Int) - 1) _ w3 o3 (by omega) (by simp [headBits, lsb_length])
  rw [HNOT.out] at hcall
  have HC : Hid _ := hcall; clear hcall
  go_wp2_with fail
  rw [xor_ones n (by omega)]
  refine Calls.mono HC.out ?_
  rintro e w4 ⟨rfl, o4, k4⟩
  obtain ⟨_, ov, q2, q3⟩ := o4
  rw [HPH.out] at q3
  have hkp := (k2.trans k3).trans k4
  have hb4 : Below w.heap.size w w4 := b1.trans hkp.below
  have c0 : w4.cell? ⟨w.heap.size, 0, none⟩ = some ov := cell_of_heap q2 0
  have hs4 := lt_of_heap q2
  have HQ3 : Hid (w4.ownsRow (w.heap.size + 1) 5 1 ov 5 (bv8 (headOf true n))) := q3
  obtain ⟨ao, cp, rfl⟩ := owns_slice q3
  clear q2 q3
  go_wp2_with (at_builtin; refine wpList_append_own _ rfl (.tmp 19) (.tmp 20) 25 rfl (w.heap.size + 1) 5 i0 (.int .u8 0) 1 1 underlying25 hi hz0 hz1 hz2 rfl (by decide) (.slice ao 5 cp) 5 (bv8 (headOf true n)) rfl ?own ⟨g, o, none⟩ n cap (bv8 b) rfl ?len ?c1 ?c2 ?b1 ?b2 ?b3 ?grow)
  case own => exact HQ3.out
  case len => rw [Nat.mul_one]; unfold bv8; rw [List.length_map]; exact HN.out
  case c1 =>
    intro j u hj
    have hjl : j < b.length := by
      by_cases hj2 : j < b.length
      · exact hj2
      · rw [List.getElem?_eq_none (by unfold bv8; rw [List.length_map]; omega)] at hj; cases hj
    have hc := hL j hjl
    have e : u = .int .u8 (((b.getD j 0).toNat : Nat) : Int) := by
      have : (bv8 b)[j]? = some (.int .u8 (((b.getD j 0).toNat : Nat) : Int)) := by simp [bv8, List.getD, hjl]
      rw [this] at hj
      simpa using hj.symm
    have ea : (⟨g, o, none⟩ : Addr).add j = ⟨g, o + j, none⟩ := by simp [Addr.add]
    rw [e, ea]
    exact (hb4.cell (p := ⟨g, o + j, none⟩) hg).trans hc
  case c2 =>
    intro u hu
    simp only [bv8, List.mem_map] at hu
    obtain ⟨_, _, rfl⟩ := hu
    rfl
  case b1 => unfold maxLen; omega
  case b2 => omega
  case b3 => omega
  case grow =>
    intro v' w5 ho5 hg5 _
    have hb5 : Below w.heap.size w w5 := hb4.grown hg5 (by omega) (fun q e => by have := (owns_block HQ3.out e).1; omega)
    go_wp2_with fail
    go_ret
    refine ⟨v', rfl, ?_, hb5⟩
    rw [bv8_append, show n + 5 = 5 + n by omega]
    exact ho5

end Go.Proofs.YtdpobjgfnhjagaaDoor

namespace Go.Proofs.YtdpobjgfnhjagaaDoor
open Go.RowKit

/-- The two lists lie in either order. -/
def Two (s gl ga : Nat) : Prop := (gl = s ∧ ga = s + 1) ∨ (gl = s + 1 ∧ ga = s)

structure RJ (gb ob cb tries : Nat) (b : List UInt8) (w W : World) (at_ lim : Nat) (v : Value) (ts : List GT) (LT AH : List Int) (gl ga nx : Nat) : Prop where
  fn : FnAt W (w.heap.size + 1 + 1) gb ob cb gl ga b tries LT AH nx
  fi : FI b LT AH nx
  two : Two w.heap.size gl ga
  nxl : nx ≤ lim
  own : W.ownsRow w.heap.size 64 3 v ts.length (tkC ts)
  tsi : TsI b at_ ts
  bel : Below w.heap.size w W

def RpJ (gb ob cb tries : Nat) (b : List UInt8) (w : World) (W : World) (at_ : Nat) (v : Value) : Prop := ∃ ts LT AH gl ga nx, RJ gb ob cb tries b w W at_ at_ v ts LT AH gl ga nx
def RpJ1 (gb ob cb tries : Nat) (b : List UInt8) (w : World) (W : World) (at_ len dist : Nat) (v : Value) : Prop :=
  (∃ ts LT AH gl ga nx, RJ gb ob cb tries b w W at_ (at_ + 1) v ts LT AH gl ga nx) ∧ at_ < b.length ∧ TkI b at_ (min 258 (b.length - at_)) len dist ∧ (EqB b → 1 ≤ at_ → at_ + 3 ≤ b.length → len = min 258 (b.length - at_) ∧ dist = 1)

theorem own64_ne {w : World} {base : Nat} {v : Value} {n k : Nat} {xs : List Value} {arr : Array Value} {t : TypeId} {f : Nat × Nat} (h : w.ownsRow base 64 3 v n xs) (hk : w.heap[k]? = some (.cells arr t f)) (ht : t ≠ 64) : v.ownBlock ≠ some k := by
  intro e
  rcases h.2 with ⟨hv, _⟩ | ⟨g, cap, cur, hv, _, hh, _⟩
  · rw [hv] at e; cases e
  · rw [hv] at e
    simp [Value.ownBlock] at e
    subst e
    rw [hh] at hk
    simp at hk
    exact ht hk.2.1.symm

/-- What keeps all but blocks that are neither the finder's nor the bytes' nor the tokens'. -/
theorem RJ.fr {gb ob cb tries : Nat} {b : List UInt8} {w W W' : World} {at_ lim : Nat} {v : Value} {ts : List GT} {LT AH : List Int} {gl ga nx : Nat} (h : RJ gb ob cb tries b w W at_ lim v ts LT AH gl ga nx) {S : Nat → Prop} (f : Fr S W W') (h1 : ¬ S (w.heap.size + 1 + 1)) (h2 : ¬ S w.heap.size) (h3 : ¬ S (w.heap.size + 1)) (h4 : ¬ S gb) (h5 : ∀ k, v.ownBlock = some k → ¬ S k) (h6 : ∀ k, S k → w.heap.size ≤ k) : RJ gb ob cb tries b w W' at_ lim v ts LT AH gl ga nx := by
  have hgl : ¬ S gl := by rcases h.two with ⟨e, _⟩ | ⟨e, _⟩ <;> rw [e] <;> assumption
  have hga : ¬ S ga := by rcases h.two with ⟨_, e⟩ | ⟨_, e⟩ <;> rw [e] <;> assumption
  exact ⟨h.fn.fr f h1 hgl hga h4, h.fi, h.two, h.nxl, owns_keep h.own (fun g hg hs => f.block g hs (h5 g hg)), h.tsi, h.bel.trans (f.below h.bel.size h6)⟩

theorem Two.fin3 {s gl ga F : Nat} (h : Two s gl ga) (k : Nat) (hk : Fin3 F gl ga k) : Fin3 F s (s + 1) k := by
  rcases h with ⟨rfl, rfl⟩ | ⟨rfl, rfl⟩
  · exact hk
  · rcases hk with e | e | e
    · exact Or.inl e
    · exact Or.inr (Or.inr e)
    · exact Or.inr (Or.inl e)

theorem rp_H (gb ob cb tries level : Nat) (b : List UInt8) (w : World) (hgb : gb < w.heap.size) (hb : b.length ≤ 30000) (ht1 : 1 ≤ tries) (ht2 : tries ≤ 2000) :
    RpH (w.heap.size + 1 + 1) gb ob w.heap.size (w.heap.size + 1) b.length w.heap.size level b (RpJ gb ob cb tries b w) (RpJ1 gb ob cb tries b w) := by
  -- a call of longest keeps all but the finder
  have long : ∀ W at_ a2 lim v ts LT AH gl ga nx, RJ gb ob cb tries b w W at_ lim v ts LT AH gl ga nx → nx ≤ a2 → a2 < b.length → Calls Tryd.prog 29 #[.pointer (some ⟨w.heap.size + 1 + 1, 0, none⟩), .int .i64 (a2 : Int)] W fun e w2 => ∃ (len dist : Nat) (LT' AH' : List Int) (nx' : Nat), e = .returned (.agg #[.int .u8 (((b.getD a2 0).toNat : Nat) : Int), .int .i64 (len : Int), .int .i64 (dist : Int)]) ∧ TkI b a2 (min 258 (b.length - a2)) len dist ∧ RJ gb ob cb tries b w w2 at_ a2 v ts LT' AH' gl ga nx' ∧ Fr (Fin3 (w.heap.size + 1 + 1) w.heap.size (w.heap.size + 1)) W w2 ∧ (EqB b → 1 ≤ a2 → a2 + 3 ≤ b.length → len = min 258 (b.length - a2) ∧ dist = 1) := by
    intro W at_ a2 lim v ts LT AH gl ga nx h hnx ha
    refine (long_any (w.heap.size + 1 + 1) gb ob cb gl ga tries nx a2 b LT AH W h.fn h.fi hnx ha ht1 ht2).mono ?_
    rintro e w2 ⟨len, dist, LT', AH', nx', rfl, hT, hF, hI, hn', f, hE⟩
    have hf3 := f.mono (fun k _ hk => h.two.fin3 k hk)
    have n1 := own64_ne h.own h.fn.box (by decide)
    have n2 := own64_ne h.own h.fn.lat (by decide)
    have n3 := own64_ne h.own h.fn.ahe (by decide)
    refine ⟨len, dist, LT', AH', nx', rfl, hT, ⟨hF, hI, h.two, hn', owns_keep h.own (fun g hg hs => f.block g hs (fun hk => hk.elim (fun e => n1 (e ▸ hg)) (fun hk => hk.elim (fun e => n2 (e ▸ hg)) (fun e => n3 (e ▸ hg))))), h.tsi, h.bel.trans (hf3.below h.bel.size (fun k hk => by rcases hk with e | e | e <;> omega))⟩, hf3, hE⟩
  refine ⟨?_, ?_, ?_, ?_, ?_, ?_, ?_, ?_⟩
  · rintro wr at_ v ⟨ts, LT, AH, gl, ga, nx, h⟩ ha
    refine (long wr at_ at_ at_ v ts LT AH gl ga nx h h.nxl ha).mono ?_
    rintro e w1 ⟨len, dist, LT', AH', nx', rfl, hT, hR, _, hE⟩
    exact ⟨len, dist, rfl, ⟨ts, LT', AH', gl, ga, nx', ⟨hR.fn, hR.fi, hR.two, by have := hR.nxl; omega, hR.own, hR.tsi, hR.bel⟩⟩, ha, hT, hE⟩
  · rintro W at_ len dist v ⟨⟨ts, LT, AH, gl, ga, nx, h⟩, ha, hT, hE⟩ hl
    have ha2 : at_ + 1 < b.length := by
      rcases hT with ⟨e, _⟩ | ⟨c1, c2, _⟩ <;> omega
    have hc := long W at_ (at_ + 1) (at_ + 1) v ts LT AH gl ga nx h h.nxl ha2
    rw [show ((at_ + 1 : Nat) : Int) = (at_ : Int) + 1 by simp] at hc
    refine hc.mono ?_
    rintro e w2 ⟨len2, dist2, LT', AH', nx', rfl, hT2, hR, hf, _⟩
    refine ⟨_, len2, dist2, rfl, ⟨⟨ts, LT', AH', gl, ga, nx', hR⟩, ha, hT, hE⟩, hf, ?_⟩
    rcases hT2 with ⟨e, _⟩ | ⟨_, c2, _⟩ <;> omega
  · rintro W W' at_ len dist v ⟨⟨ts, LT, AH, gl, ga, nx, h⟩, r⟩ f
    exact ⟨⟨ts, LT, AH, gl, ga, nx, h.fr f (fun e => e) (fun e => e) (fun e => e) (fun e => e) (fun _ _ e => e) (fun _ e => e.elim)⟩, r⟩
  · rintro W at_ len dist v ⟨⟨ts, LT, AH, gl, ga, nx, h⟩, ha, hT, hE⟩
    obtain ⟨l1, l2, l3, l4⟩ := h.fn.lts (by omega)
    have hc := h.tsi.cnt
    refine ⟨⟨ts.length, tkC ts, h.own, by omega⟩, h.bel.size, l1, ?_, ?_, l4, ?_, ?_, h.fn.bytes at_ ha⟩
    · rcases h.two with ⟨e1, e2⟩ | ⟨e1, e2⟩ <;> omega
    · rcases h.two with ⟨e1, e2⟩ | ⟨e1, e2⟩ <;> omega
    · rcases hT with ⟨e, _⟩ | ⟨c1, c2, _⟩ <;> omega
    · rcases hT with ⟨e, _⟩ | ⟨c1, c2, _⟩ <;> omega
  · rintro W W5 at_ len dist v v' nn xs len' dist' ⟨⟨ts, LT, AH, gl, ga, nx, h⟩, ha, hT, hE⟩ hch ho ho5 f
    have n1 := own64_ne h.own h.fn.box (by decide)
    have n2 := own64_ne h.own h.fn.lat (by decide)
    have n3 := own64_ne h.own h.fn.ahe (by decide)
    have n4 : v.ownBlock ≠ some gb := fun e => by have := (owns_block h.own e).1; omega
    have hxs : nn = ts.length ∧ xs = tkC ts := by
      rcases h.own.2 with ⟨e1, e2⟩ | ⟨g, cap, cur, e1, e2, e3, e4, e5, e6, e7⟩
      · rcases ho.2 with ⟨d1, d2⟩ | ⟨g', cap', cur', d1, _⟩
        · have := ho.1
          have := h.own.1
          rw [tkC_length] at this
          refine ⟨by omega, ?_⟩
          rw [List.eq_nil_of_length_eq_zero (l := xs) (by omega), List.eq_nil_of_length_eq_zero (l := tkC ts) (by rw [tkC_length]; omega)]
        · rw [e1] at d1; cases d1
      · rcases ho.2 with ⟨d1, d2⟩ | ⟨g', cap', cur', d1, d2, d3, d4, d5, d6, d7⟩
        · rw [e1] at d1; cases d1
        · rw [e1] at d1
          simp at d1
          obtain ⟨rfl, rfl, rfl⟩ := d1
          rw [e3] at d3
          simp at d3
          subst d3
          exact ⟨rfl, by rw [← d7, ← e7]⟩
    obtain ⟨rfl, rfl⟩ := hxs
    have hT' : TkI b at_ (min 258 (b.length - at_)) len' dist' ∧ (EqB b → 1 ≤ at_ → at_ + 3 ≤ b.length → len' = min 258 (b.length - at_) ∧ dist' = 1) := by
      rcases hch with ⟨rfl, rfl⟩ | ⟨rfl, rfl, hl, len2, h2, h3⟩
      · exact ⟨hT, hE⟩
      · refine ⟨Or.inl ⟨rfl, rfl⟩, fun e q1 q2 => ?_⟩
        have := (hE e q1 q2).1
        omega
    have hts := h.tsi.snoc hb len' dist' ha hT'.1 hT'.2
    refine ⟨ts ++ [⟨b.getD at_ 0, len', dist'⟩], LT, AH, gl, ga, nx, h.fn.fr f n1 n2 n3 n4, h.fi, h.two, by have := h.nxl; omega, ?_, hts, h.bel.trans (f.below h.bel.size (fun k hk => (owns_block h.own hk).1))⟩
    rw [List.length_append, tkC_append]
    exact ho5
  · rintro W W' at_ len dist v k ⟨⟨ts, LT, AH, gl, ga, nx, h⟩, r⟩ f hk k1 k2 k3 k4 k5
    exact ⟨⟨ts, LT, AH, gl, ga, nx, h.fr f (fun e => k1 e.symm) (fun e => k2 e.symm) (fun e => k3 e.symm) (fun e => k4 e.symm) (fun q hq e => k5 (e ▸ hq)) (fun q e => by simp [One] at e; omega)⟩, r⟩
  · rintro W W' at_ v ⟨ts, LT, AH, gl, ga, nx, h⟩ f
    exact ⟨ts, LT, AH, gl, ga, nx, h.fr f (fun e => e) (fun e => e) (fun e => e) (fun e => e) (fun _ _ e => e) (fun _ e => e.elim)⟩
  · rintro W at_ v ⟨ts, LT, AH, gl, ga, nx, h⟩
    exact h.tsi.le


theorem newf_J (gb ob cb level : Nat) (b : List UInt8) (w : World) (hL : Lies w gb ob b) (hgb : gb < w.heap.size) (hb : b.length ≤ 30000) :
    Calls Tryd.prog 28 #[.slice (some ⟨gb, ob, none⟩) b.length cb, .int .i64 (2 * 2 ^ level)] w fun e w1 => e = .returned (.pointer (some ⟨w.heap.size + 1 + 1, 0, none⟩)) ∧ RpJ gb ob cb (2 * 2 ^ level) b w w1 0 (.slice none 0 0) := by
  have e1 : ((2 * 2 ^ level : Nat) : Int) = 2 * (2 : Int) ^ level := by simp
  have hm1 : ∀ W : World, (Instr.makeSlice 36 (.int .i64 4096) (.int .i64 4096)).run Tryd.prog W = .ok (.slice (some ⟨W.heap.size, 0, none⟩) 4096 4096) (W.alloc (.cells (ints (List.replicate 4096 0)) 3)) := fun W => make36 4096 (by omega) W
  have hc := newf_walk gb ob cb b.length 4096 (2 * 2 ^ level) (ints (List.replicate 4096 0)) (ints (List.replicate b.length 0)) w hb (by omega) rfl (by rw [fillL, Nat.sub_zero]; rfl) rfl hm1 (fun W => make36 b.length (by omega) W)
  rw [e1] at hc
  refine hc.mono ?_
  rintro e w1 ⟨F, gl, ga, rfl, hF, hl, ha, rfl, htwo, f⟩
  refine ⟨rfl, [], List.replicate 4096 (-1), List.replicate b.length 0, gl, ga, 0, ⟨?_, hl, ha, List.length_replicate .., List.length_replicate .., ?_, ?_, ?_, hL.keep f (fun e => e), by omega, ?_, ?_, hb⟩, ⟨by omega, fun h => ?_, fun p hp => by omega, fun h => by omega⟩, htwo, Nat.le_refl _, ⟨rfl, Or.inl ⟨rfl, rfl⟩⟩, ⟨fun t ht => by simp at ht, trivial, by simp [toksEx], Nat.le_refl _, by omega, fun _ => Or.inl ⟨rfl, rfl⟩⟩, f.below (Nat.le_refl _) (fun _ e => e.elim)⟩
  · rw [e1]; exact hF
  · rcases htwo with ⟨q1, q2⟩ | ⟨q1, q2⟩ <;> omega
  · rcases htwo with ⟨q1, q2⟩ | ⟨q1, q2⟩ <;> omega
  · rcases htwo with ⟨q1, q2⟩ | ⟨q1, q2⟩ <;> omega
  · rcases htwo with ⟨q1, q2⟩ | ⟨q1, q2⟩ <;> omega
  · rcases htwo with ⟨q1, q2⟩ | ⟨q1, q2⟩ <;> omega
  · have : (List.replicate 4096 (-1 : Int)).getD h (-1) = -1 := by
      simp only [List.getD, List.getElem?_replicate]
      split <;> rfl
    rw [this]
    omega

/-- What 'repeats' answers: tokens of which the bytes come out. -/
theorem repeats_any (gb ob cb level : Nat) (b : List UInt8) (w : World) (hL : Lies w gb ob b) (hgb : gb < w.heap.size) (hb : b.length ≤ 30000) (hl2 : level ≤ 9) :
    Calls Tryd.prog 18 #[.slice (some ⟨gb, ob, none⟩) b.length cb, .int .i64 (level : Int)] w fun e w' => ∃ v ts, e = .returned v ∧ w'.ownsRow w.heap.size 64 3 v ts.length (tkC ts) ∧ TsI b b.length ts ∧ Below w.heap.size w w' := by
  have hp : 2 ^ level ≤ 2 ^ 9 := Nat.pow_le_pow_right (by omega) hl2
  have hp1 : 0 < 2 ^ level := Nat.pow_pos (by omega)
  refine (rep_walk (w.heap.size + 1 + 1) gb ob cb w.heap.size (w.heap.size + 1) b.length w.heap.size level b (RpJ gb ob cb (2 * 2 ^ level) b w) (RpJ1 gb ob cb (2 * 2 ^ level) b w) w (rp_H gb ob cb (2 * 2 ^ level) level b w hgb hb (by omega) (by omega)) hb hl2 (newf_J gb ob cb level b w hL hgb hb)).mono ?_
  rintro e w' ⟨v, rfl, ts, LT, AH, gl, ga, nx, h⟩
  exact ⟨v, ts, rfl, h.own, h.tsi, h.bel⟩

end Go.Proofs.YtdpobjgfnhjagaaDoor

