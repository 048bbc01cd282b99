import Derived.Test.YtdpobjgfnhjagaaDoorMe
import Derived.Deep.RegionLaw
import Derived.Deep.OwnRows
import Derived.Lib.AppendZeros
namespace Go.Proofs.YtdpobjgfnhjagaaDoor
open Go.RowKit

theorem make36 (n : Nat) (hn : n ≤ 1000000) (W : World) : (Instr.makeSlice 36 (.int .i64 (n : Int)) (.int .i64 (n : Int))).run Tryd.prog W = .ok (.slice (some ⟨W.heap.size, 0, none⟩) n n) (W.alloc (.cells (ints (List.replicate n 0)) 3)) := by
  have h := run_make_row' (P := Tryd.prog) 36 3 (.int .i64 0) 8 underlying36 info3 rfl .i64 .i64 n (by omega) (by omega) W
  have e : madeCells #[Value.int .i64 0] n = ints (List.replicate n 0) := by
    have := made_zero n
    rw [Array.toArray_toList] at this
    exact this
  rw [e] at h
  exact h

def fillL (M k : Nat) : List Int := List.replicate k (-1) ++ List.replicate (M - k) 0
theorem fillL_length (M k : Nat) (h : k ≤ M) : (fillL M k).length = M := by simp [fillL]; omega
theorem fillL_set (M k : Nat) (h : k < M) : (fillL M k).set k (-1) = fillL M (k + 1) := by
  unfold fillL
  rw [List.set_append_right _ _ (by simp), List.length_replicate, Nat.sub_self, show M - k = (M - (k + 1)) + 1 by omega, List.replicate_succ, List.set_cons_zero, List.replicate_succ']
  simp
theorem fillL_all (M : Nat) : fillL M M = List.replicate M (-1) := by simp [fillL]

set_option maxRecDepth 100000 in
set_option maxHeartbeats 2000000 in
theorem newf_walk (gb ob cb n M tries : Nat) (ZM ZN : Array Value) (w : World) (_hn : n ≤ 30000) (hM : M ≤ 30000) (hM4 : (M : Int) = 4096) (hZM : ZM = ints (fillL M 0)) (hZN : ZN = ints (List.replicate n 0))
    (m1 : ∀ W, (Instr.makeSlice 36 (.int .i64 4096) (.int .i64 4096)).run Tryd.prog W = .ok (.slice (some ⟨W.heap.size, 0, none⟩) M M) (W.alloc (.cells ZM 3)))
    (m2 : ∀ W, (Instr.makeSlice 36 (.int .i64 (n : Int)) (.int .i64 (n : Int))).run Tryd.prog W = .ok (.slice (some ⟨W.heap.size, 0, none⟩) n n) (W.alloc (.cells ZN 3))) :
    Calls Tryd.prog 28 #[.slice (some ⟨gb, ob, none⟩) n cb, .int .i64 (tries : Int)] w fun e w' => ∃ F gl ga, e = .returned (.pointer (some ⟨F, 0, none⟩)) ∧ w'.heap[F]? = some (.cells #[.slice (some ⟨gb, ob, none⟩) n cb, .int .i64 (tries : Int), .slice (some ⟨gl, 0, none⟩) M M, .slice (some ⟨ga, 0, none⟩) n n, .int .i64 0] 86 (0, 0)) ∧ w'.heap[gl]? = some (.cells (ints (List.replicate M (-1))) 3 (0, 0)) ∧ w'.heap[ga]? = some (.cells (ints (List.replicate n 0)) 3 (0, 0)) ∧ F = w.heap.size + 1 + 1 ∧ ((gl = w.heap.size ∧ ga = w.heap.size + 1) ∨ (gl = w.heap.size + 1 ∧ ga = w.heap.size)) ∧ Fr Non w w' := by
  have HZM : Hid _ := hZM
  have HZN : Hid _ := hZN
  clear hZM hZN
  go_enter Tryd.func28, Tryd.ntmps28
  go_wp2_with fail
  go_region
  · obtain ⟨W, hW⟩ : ∃ W, W = (((w.alloc (.cells ZM 3)).alloc (.cells ZN 3)).alloc (.cells #[.slice (some ⟨gb, ob, none⟩) n cb, .int .i64 (tries : Int), .slice (some ⟨w.heap.size, 0, none⟩) M M, .slice (some ⟨(w.heap.size + 1), 0, none⟩) n n, .int .i64 0] 86)).drew := ⟨_, rfl⟩
    rw [← hW]
    have hs1 : (w.alloc (.cells ZM 3)).heap.size = w.heap.size + 1 := by simp
    have hs2 : ((w.alloc (.cells ZM 3)).alloc (.cells ZN 3)).heap.size = w.heap.size + 1 + 1 := by simp
    have hF : W.heap[w.heap.size + 1 + 1]? = some (.cells #[.slice (some ⟨gb, ob, none⟩) n cb, .int .i64 (tries : Int), .slice (some ⟨w.heap.size, 0, none⟩) M M, .slice (some ⟨(w.heap.size + 1), 0, none⟩) n n, .int .i64 0] 86 (0, 0)) := by
      rw [hW]
      have := heap_alloc_new ((w.alloc (.cells ZM 3)).alloc (.cells ZN 3)) (.cells #[.slice (some ⟨gb, ob, none⟩) n cb, .int .i64 (tries : Int), .slice (some ⟨w.heap.size, 0, none⟩) M M, .slice (some ⟨(w.heap.size + 1), 0, none⟩) n n, .int .i64 0] 86)
      rw [hs2] at this
      exact this
    have h1 : W.heap[w.heap.size]? = some (.cells ZM 3 (0, 0)) := by
      rw [hW]
      exact (heap_alloc_old (by simp; omega) _).trans ((heap_alloc_old (by simp) _).trans (heap_alloc_new _ _))
    have h2 : W.heap[w.heap.size + 1]? = some (.cells ZN 3 (0, 0)) := by
      rw [hW]
      have := heap_alloc_new (w.alloc (.cells ZM 3)) (.cells ZN 3)
      rw [hs1] at this
      exact (heap_alloc_old (by simp) _).trans this
    have f0 : Fr Non w W := by rw [hW]; exact ((((Fr.refl _ w).alloc _).alloc _).alloc _).drew
    clear hW hs1 hs2
    rw [HZM.out] at h1
    rw [HZN.out] at h2
    have HFF : Hid _ := hF
    have H1 : Hid _ := h1
    have H2 : Hid _ := h2
    have c2 : W.cell? ⟨w.heap.size + 1 + 1, 2, none⟩ = some (.slice (some ⟨w.heap.size, 0, none⟩) M M) := cell_of_heap hF 2
    clear hF h1 h2
    go_wp2_with fail
    clear c2
    go_loopw [20] (fun iv wr => ∃ k : Nat, k ≤ M ∧ iv = .int .i64 k ∧ wr.heap[w.heap.size + 1 + 1]? = some (.cells #[.slice (some ⟨gb, ob, none⟩) n cb, .int .i64 (tries : Int), .slice (some ⟨w.heap.size, 0, none⟩) M M, .slice (some ⟨(w.heap.size + 1), 0, none⟩) n n, .int .i64 0] 86 (0, 0)) ∧ wr.heap[w.heap.size]? = some (.cells (ints (fillL M k)) 3 (0, 0)) ∧ wr.heap[(w.heap.size + 1)]? = some (.cells (ints (List.replicate n 0)) 3 (0, 0)) ∧ Fr Non w wr) (fun iv _ => M - (intOf iv).toNat)
    case atStart => exact ⟨0, by omega, rfl, HFF.out, H1.out, H2.out, f0⟩
    case round =>
      obtain ⟨k, hk, rfl, hF, hl, ha, hfr⟩ := hrel
      by_cases hlt : k < M
      · have c2 : wr.cell? ⟨w.heap.size + 1 + 1, 2, none⟩ = some (.slice (some ⟨w.heap.size, 0, none⟩) M M) := cell_of_heap hF 2
        have d1 := cell_ints hl k (by rw [fillL_length M k hk]; exact hlt)
        have fz := free_of_heap hl
        have hset := set_ints hl k (-1)
        rw [fillL_set M k hlt] at hset
        obtain ⟨z, hz⟩ : ∃ z, wr.cell? ⟨w.heap.size, k, none⟩ = some (.int .i64 z) := ⟨_, d1⟩
        have HS : Hid _ := hset
        have KF : Hid _ := hF
        have KA : Hid _ := ha
        clear hset d1 hF hl ha
        have i1 : (k : Int) < (M : Int) := by omega
        go_wp2_with fail
        go_roundw
        case rel => exact ⟨k + 1, by omega, by go_num, (heap_set_other (by omega) _ _).trans KF.out, HS.out, (heap_set_other (by omega) _ _).trans KA.out, hfr.setNew (p := ⟨w.heap.size, k, none⟩) (by show w.heap.size ≤ w.heap.size; omega) _⟩
        case measure => simp [intOf]; omega
      · have : k = M := by omega
        subst this
        have KF : Hid _ := hF
        have KL : Hid _ := hl
        have KA : Hid _ := ha
        clear hF hl ha
        go_wp2_with fail
        go_ret
        refine ⟨w.heap.size + 1 + 1, w.heap.size, (w.heap.size + 1), rfl, KF.out, ?_, KA.out, rfl, by first | exact Or.inl ⟨rfl, rfl⟩ | exact Or.inr ⟨rfl, rfl⟩, hfr⟩
        rw [← fillL_all k]
        exact KL.out
  · obtain ⟨W, hW⟩ : ∃ W, W = (((w.alloc (.cells ZN 3)).alloc (.cells ZM 3)).alloc (.cells #[.slice (some ⟨gb, ob, none⟩) n cb, .int .i64 (tries : Int), .slice (some ⟨(w.heap.size + 1), 0, none⟩) M M, .slice (some ⟨w.heap.size, 0, none⟩) n n, .int .i64 0] 86)).drew := ⟨_, rfl⟩
    rw [← hW]
    have hs1 : (w.alloc (.cells ZN 3)).heap.size = w.heap.size + 1 := by simp
    have hs2 : ((w.alloc (.cells ZN 3)).alloc (.cells ZM 3)).heap.size = w.heap.size + 1 + 1 := by simp
    have hF : W.heap[w.heap.size + 1 + 1]? = some (.cells #[.slice (some ⟨gb, ob, none⟩) n cb, .int .i64 (tries : Int), .slice (some ⟨(w.heap.size + 1), 0, none⟩) M M, .slice (some ⟨w.heap.size, 0, none⟩) n n, .int .i64 0] 86 (0, 0)) := by
      rw [hW]
      have := heap_alloc_new ((w.alloc (.cells ZN 3)).alloc (.cells ZM 3)) (.cells #[.slice (some ⟨gb, ob, none⟩) n cb, .int .i64 (tries : Int), .slice (some ⟨(w.heap.size + 1), 0, none⟩) M M, .slice (some ⟨w.heap.size, 0, none⟩) n n, .int .i64 0] 86)
      rw [hs2] at this
      exact this
    have h1 : W.heap[w.heap.size]? = some (.cells ZN 3 (0, 0)) := by
      rw [hW]
      exact (heap_alloc_old (by simp; omega) _).trans ((heap_alloc_old (by simp) _).trans (heap_alloc_new _ _))
    have h2 : W.heap[w.heap.size + 1]? = some (.cells ZM 3 (0, 0)) := by
      rw [hW]
      have := heap_alloc_new (w.alloc (.cells ZN 3)) (.cells ZM 3)
      rw [hs1] at this
      exact (heap_alloc_old (by simp) _).trans this
    have f0 : Fr Non w W := by rw [hW]; exact ((((Fr.refl _ w).alloc _).alloc _).alloc _).drew
    clear hW hs1 hs2
    rw [HZN.out] at h1
    rw [HZM.out] at h2
    have HFF : Hid _ := hF
    have H1 : Hid _ := h1
    have H2 : Hid _ := h2
    have c2 : W.cell? ⟨w.heap.size + 1 + 1, 2, none⟩ = some (.slice (some ⟨(w.heap.size + 1), 0, none⟩) M M) := cell_of_heap hF 2
    clear hF h1 h2
    go_wp2_with fail
    clear c2
    go_loopw [20] (fun iv wr => ∃ k : Nat, k ≤ M ∧ iv = .int .i64 k ∧ wr.heap[w.heap.size + 1 + 1]? = some (.cells #[.slice (some ⟨gb, ob, none⟩) n cb, .int .i64 (tries : Int), .slice (some ⟨(w.heap.size + 1), 0, none⟩) M M, .slice (some ⟨w.heap.size, 0, none⟩) n n, .int .i64 0] 86 (0, 0)) ∧ wr.heap[(w.heap.size + 1)]? = some (.cells (ints (fillL M k)) 3 (0, 0)) ∧ wr.heap[w.heap.size]? = some (.cells (ints (List.replicate n 0)) 3 (0, 0)) ∧ Fr Non w wr) (fun iv _ => M - (intOf iv).toNat)
    case atStart => exact ⟨0, by omega, rfl, HFF.out, H2.out, H1.out, f0⟩
    case round =>
      obtain ⟨k, hk, rfl, hF, hl, ha, hfr⟩ := hrel
      by_cases hlt : k < M
      · have c2 : wr.cell? ⟨w.heap.size + 1 + 1, 2, none⟩ = some (.slice (some ⟨(w.heap.size + 1), 0, none⟩) M M) := cell_of_heap hF 2
        have d1 := cell_ints hl k (by rw [fillL_length M k hk]; exact hlt)
        have fz := free_of_heap hl
        have hset := set_ints hl k (-1)
        rw [fillL_set M k hlt] at hset
        obtain ⟨z, hz⟩ : ∃ z, wr.cell? ⟨(w.heap.size + 1), k, none⟩ = some (.int .i64 z) := ⟨_, d1⟩
        have HS : Hid _ := hset
        have KF : Hid _ := hF
        have KA : Hid _ := ha
        clear hset d1 hF hl ha
        have i1 : (k : Int) < (M : Int) := by omega
        go_wp2_with fail
        go_roundw
        case rel => exact ⟨k + 1, by omega, by go_num, (heap_set_other (by omega) _ _).trans KF.out, HS.out, (heap_set_other (by omega) _ _).trans KA.out, hfr.setNew (p := ⟨(w.heap.size + 1), k, none⟩) (by show w.heap.size ≤ (w.heap.size + 1); omega) _⟩
        case measure => simp [intOf]; omega
      · have : k = M := by omega
        subst this
        have KF : Hid _ := hF
        have KL : Hid _ := hl
        have KA : Hid _ := ha
        clear hF hl ha
        go_wp2_with fail
        go_ret
        refine ⟨w.heap.size + 1 + 1, (w.heap.size + 1), w.heap.size, rfl, KF.out, ?_, KA.out, rfl, by first | exact Or.inl ⟨rfl, rfl⟩ | exact Or.inr ⟨rfl, rfl⟩, hfr⟩
        rw [← fillL_all k]
        exact KL.out

end Go.Proofs.YtdpobjgfnhjagaaDoor

namespace Go.Proofs.YtdpobjgfnhjagaaDoor
open Go.RowKit

theorem info64 : (Tryd.prog.info? 64).map (fun i => (i.zero, i.size, i.bytes)) = some (some (.agg #[.int .u8 0, .int .i64 0, .int .i64 0]), 3, 24) := by kernel_rfl
theorem underlying49 : Tryd.prog.underlying 49 = some (.slice 64) := by kernel_rfl

set_option maxHeartbeats 400000 in
theorem size_any (c : Int) (len : Nat) (d : Int) (w : World) (hl : len ≤ 300) :
    Calls Tryd.prog 30 #[.agg #[.int .u8 c, .int .i64 (len : Int), .int .i64 d]] w fun e w' => e = .returned (.int .i64 ((max 1 len : Nat) : Int)) ∧ Fr Non w w' := by
  have hm : max (1 : Int) (len : Int) = ((max 1 len : Nat) : Int) := by omega
  go_enter Tryd.func30, Tryd.ntmps30
  go_wp2_with fail
  go_ret
  exact ⟨by rw [← hm]; rfl, (Fr.refl _ _).alloc _⟩

theorem field64 (a b c : Value) (W : World) : (Instr.field 64 (.agg #[a, b, c]) 1).run Tryd.prog W = .ok b W := by
  simp [Instr.field, run_underlying Tryd.underlying64, go_sem]
  rfl

theorem three_new {w : World} {k : Nat} (hk : k = w.heap.size) (a b c : Value) (t : TypeId) : ∀ j u, [a, b, c][j]? = some u → (w.alloc (.cells #[a, b, c] t)).cell? ((⟨k, 0, none⟩ : Addr).add j) = some u := by
  subst hk
  intro j u hj
  match j, hj with
  | 0, hj => simp at hj; subst hj; simp [Addr.add]
  | 1, hj => simp at hj; subst hj; simp [Addr.add]
  | 2, hj => simp at hj; subst hj; simp [Addr.add]
  | j + 3, hj => simp at hj

/-- What the walk of 'repeats' needs. -/
structure RpH (F gb ob gl ga n base level : Nat) (b : List UInt8) (J : World → Nat → Value → Prop) (J1 : World → Nat → Nat → Nat → Value → Prop) : Prop where
  long : ∀ wr at_ v, J wr at_ v → at_ < n → Calls Tryd.prog 29 #[.pointer (some ⟨F, 0, none⟩), .int .i64 (at_ : Int)] wr fun e w1 => ∃ len dist : Nat, e = .returned (.agg #[.int .u8 (((b.getD at_ 0).toNat : Nat) : Int), .int .i64 (len : Int), .int .i64 (dist : Int)]) ∧ J1 w1 at_ len dist v
  long2 : ∀ W at_ len dist v, J1 W at_ len dist v → 0 < len → Calls Tryd.prog 29 #[.pointer (some ⟨F, 0, none⟩), .int .i64 ((at_ : Int) + 1)] W fun e w2 => ∃ (c2 : Int) (len2 dist2 : Nat), e = .returned (.agg #[.int .u8 c2, .int .i64 (len2 : Int), .int .i64 (dist2 : Int)]) ∧ J1 w2 at_ len dist v ∧ Fr (Fin3 F gl ga) W w2 ∧ len2 ≤ min 258 (n - (at_ + 1))
  fr1 : ∀ W W' at_ len dist v, J1 W at_ len dist v → Fr Non W W' → J1 W' at_ len dist v
  own : ∀ W at_ len dist v, J1 W at_ len dist v → (∃ nn xs, W.ownsRow base 64 3 v nn xs ∧ nn ≤ 30000) ∧ base ≤ W.heap.size ∧ F < W.heap.size ∧ gl < W.heap.size ∧ ga < W.heap.size ∧ gb < W.heap.size ∧ len ≤ 258 ∧ at_ + max 1 len ≤ n ∧ W.cell? ⟨gb, ob + at_, none⟩ = some (.int .u8 (((b.getD at_ 0).toNat : Nat) : Int))
  next : ∀ W W5 at_ len dist v v' nn xs len' dist', J1 W at_ len dist v → ((len' = len ∧ dist' = dist) ∨ (len' = 0 ∧ dist' = 0 ∧ 0 < len ∧ ∃ len2, len < len2 ∧ len2 ≤ min 258 (n - (at_ + 1)))) → W.ownsRow base 64 3 v nn xs → W5.ownsRow base 64 3 v' (nn + 1) (xs ++ [.int .u8 (((b.getD at_ 0).toNat : Nat) : Int), .int .i64 ((len' : Nat) : Int), .int .i64 ((dist' : Nat) : Int)]) → Fr (fun k => v.ownBlock = some k) W W5 → J W5 (at_ + max 1 len') v'
  set1 : ∀ W W' at_ len dist v k, J1 W at_ len dist v → Fr (One k) W W' → base ≤ k → k ≠ F → k ≠ gl → k ≠ ga → k ≠ gb → v.ownBlock ≠ some k → J1 W' at_ len dist v
  frJ : ∀ W W' at_ v, J W at_ v → Fr Non W W' → J W' at_ v
  atn : ∀ W at_ v, J W at_ v → at_ ≤ n

set_option maxRecDepth 100000 in
set_option maxHeartbeats 4000000 in
theorem rep_walk (F gb ob cb gl ga n base level : Nat) (b : List UInt8) (J : World → Nat → Value → Prop) (J1 : World → Nat → Nat → Nat → Value → Prop) (w : World) (H : RpH F gb ob gl ga n base level b J J1) (hn : n ≤ 30000) (hlv : level ≤ 9)
    (hnew : Calls Tryd.prog 28 #[.slice (some ⟨gb, ob, none⟩) n cb, .int .i64 (2 * 2 ^ level)] w fun e w1 => e = .returned (.pointer (some ⟨F, 0, none⟩)) ∧ J w1 0 (.slice none 0 0)) :
    Calls Tryd.prog 18 #[.slice (some ⟨gb, ob, none⟩) n cb, .int .i64 (level : Int)] w fun e w' => ∃ v, e = .returned v ∧ J w' n v := by
  obtain ⟨i0, hi, hz0, hz1, hz2⟩ := info_parts info64
  have hp : 2 ^ level ≤ 2 ^ 9 := Nat.pow_le_pow_right (by omega) hlv
  have hw2 : IntKind.i64.wrap (2 * (2 : Int) ^ level) = 2 * (2 : Int) ^ level := by
    have : ((2 ^ level : Nat) : Int) = (2 : Int) ^ level := by simp
    rw [IntKind.wrap_i64, ← this]
    generalize 2 ^ level = P at hp
    omega
  have HNEW : Hid _ := hnew
  clear hnew hp
  go_enter Tryd.func18, Tryd.ntmps18
  go_wp2_with fail
  refine Calls.mono HNEW.out ?_
  rintro e w1 ⟨rfl, hJ1⟩
  clear HNEW
  go_wp2_with fail
  go_loopw [6, 7] (fun tv av wr => ∃ at_ : Nat, av = .int .i64 at_ ∧ J wr at_ tv) (fun _ av _ => n - (intOf av).toNat)
  case atStart => exact ⟨0, rfl, hJ1⟩
  case round =>
    obtain ⟨at_, rfl, hJ⟩ := hrel
    have hatn := H.atn wr at_ u6 hJ
    by_cases hlt : at_ < n
    · have HL : Hid _ := H.long wr at_ u6 hJ hlt
      have i1 : (at_ : Int) < (n : Int) := by omega
      go_wp2_with fail
      refine Calls.mono HL.out ?_
      rintro e w2 ⟨len, dist, rfl, hJ2⟩
      obtain ⟨⟨nn, xs, hown, hnn⟩, s0, s1, s2, s3, s4, hlen, hsz, hcb⟩ := H.own w2 at_ len dist u6 hJ2
      clear HL
      obtain ⟨ao, cp, rfl⟩ := owns_slice hown
      have hown0 : Hid (w2.ownsRow base 64 3 (.slice ao nn cp) nn xs) := hown
      clear hown
      obtain ⟨c, hc⟩ : ∃ c : Int, (((b.getD at_ 0).toNat : Nat) : Int) = c := ⟨_, rfl⟩
      rw [hc] at hcb ⊢
      have hcdef : Hid _ := hc
      clear hc
      by_cases hl4 : level < 4
      · have g1 : decide (4 ≤ (level : Int)) = false := by simp; omega
        go_wp2_with fail
        go_quiet (fail)
        have hownB : Hid (((w2.alloc (.cells #[.int .u8 c, .int .i64 (len : Int), .int .i64 (dist : Int)] 64)).drewN nq).ownsRow base 64 3 (.slice ao nn cp) nn xs) := owns_keep hown0.out (fun g _ hg => heap_alloc_old hg _)
        have hboxB : Hid (((w2.alloc (.cells #[.int .u8 c, .int .i64 (len : Int), .int .i64 (dist : Int)] 64)).drewN nq).heap[w2.heap.size]? = some (.cells #[.int .u8 c, .int .i64 (len : Int), .int .i64 (dist : Int)] 64 (0, 0))) := heap_alloc_new _ _
        have hJB : J1 ((w2.alloc (.cells #[.int .u8 c, .int .i64 (len : Int), .int .i64 (dist : Int)] 64)).drewN nq) at_ len dist (.slice ao nn cp) := H.fr1 _ _ _ _ _ _ hJ2 (((Fr.refl _ w2).alloc _).trans (fr_drewN _ nq))
        have hJB0 := (H.own _ _ _ _ _ hJB).2.1
        go_wp2_with (at_builtin; refine wpList_append_own _ rfl (.tmp 42) (.tmp 44) 49 rfl base 64 i0 (.agg #[.int .u8 0, .int .i64 0, .int .i64 0]) 3 24 underlying49 hi hz0 hz1 hz2 rfl (by decide) (.slice ao nn cp) nn xs rfl ?own ⟨w2.heap.size + 1, 0, none⟩ 1 1 [.int .u8 c, .int .i64 (len : Int), .int .i64 (dist : Int)] rfl rfl ?c1 ?c2 ?b1 ?b2 ?b3 ?grow)
        case own => exact owns_keep hownB.out (fun g _ hg => heap_alloc_old hg _)
        case c1 => exact three_new (by simp) _ _ _ _
        case c2 => intro u hu; simp at hu; rcases hu with rfl | rfl | rfl <;> rfl
        case b1 => unfold maxLen; omega
        case b2 => omega
        case b3 => have := hJB0; simp; omega
        case grow =>
          intro v' w5 ho5 hg5 _
          obtain ⟨g5, c5, rfl⟩ : ∃ g cap', v' = .slice (some ⟨g, 0, none⟩) (nn + 1) cap' := by
            rcases ho5.2 with ⟨_, h⟩ | ⟨g, cap', _, h, _⟩
            · omega
            · exact ⟨g, cap', h⟩
          have hfr5 : Fr (fun k => (Value.slice ao nn cp).ownBlock = some k) ((w2.alloc (.cells #[.int .u8 c, .int .i64 (len : Int), .int .i64 (dist : Int)] 64)).drewN nq) w5 := ((Fr.refl _ _).alloc _).grown hg5 (fun k hk _ => hk)
          have hJ5 := H.next ((w2.alloc (.cells #[.int .u8 c, .int .i64 (len : Int), .int .i64 (dist : Int)] 64)).drewN nq) w5 at_ len dist _ _ nn xs len dist hJB (Or.inl ⟨rfl, rfl⟩) hownB.out (by rw [hcdef.out]; exact ho5) hfr5
          have hb5 : w5.heap[w2.heap.size]? = some (.cells #[.int .u8 c, .int .i64 (len : Int), .int .i64 (dist : Int)] 64 (0, 0)) := by
            rw [hg5.block w2.heap.size (by have := lt_of_heap hboxB.out; simp; omega) (fun e => by have := (owns_block hown0.out e.symm).2; omega)]
            exact (heap_alloc_old (lt_of_heap hboxB.out) _).trans hboxB.out
          have x0 : w5.cell? ⟨w2.heap.size, 0, none⟩ = some (.int .u8 c) := cell_of_heap hb5 0
          have x1 : w5.cell? ⟨w2.heap.size, 1, none⟩ = some (.int .i64 (len : Int)) := cell_of_heap hb5 1
          have x2 : w5.cell? ⟨w2.heap.size, 2, none⟩ = some (.int .i64 (dist : Int)) := cell_of_heap hb5 2
          have HSZC : Hid _ := size_any c len ((dist : Int)) w5 (by omega)
          have HJ5 : Hid _ := hJ5
          clear hb5 hg5 ho5 hfr5 hJ5
          go_wp2_with fail
          refine Calls.mono HSZC.out ?_
          rintro e w6 ⟨rfl, f6⟩
          go_wp2_with fail
          go_roundw
          case rel => exact ⟨at_ + max 1 len, by go_num, H.frJ _ _ _ _ HJ5.out f6⟩
          case measure => simp [intOf]; omega
      · have g1 : (4 : Int) ≤ (level : Int) := by omega
        by_cases hl0 : len = 0
        · subst hl0
          go_wp2_with fail
          go_quiet (fail)
          have hownB : Hid (((w2.alloc (.cells #[.int .u8 c, .int .i64 0, .int .i64 (dist : Int)] 64)).drewN nq).ownsRow base 64 3 (.slice ao nn cp) nn xs) := owns_keep hown0.out (fun g _ hg => heap_alloc_old hg _)
          have hboxB : Hid (((w2.alloc (.cells #[.int .u8 c, .int .i64 0, .int .i64 (dist : Int)] 64)).drewN nq).heap[w2.heap.size]? = some (.cells #[.int .u8 c, .int .i64 0, .int .i64 (dist : Int)] 64 (0, 0))) := heap_alloc_new _ _
          have hJB : J1 ((w2.alloc (.cells #[.int .u8 c, .int .i64 0, .int .i64 (dist : Int)] 64)).drewN nq) at_ 0 dist (.slice ao nn cp) := H.fr1 _ _ _ _ _ _ hJ2 (((Fr.refl _ w2).alloc _).trans (fr_drewN _ nq))
          have hJB0 := (H.own _ _ _ _ _ hJB).2.1
          go_wp2_with (at_builtin; refine wpList_append_own _ rfl (.tmp 42) (.tmp 44) 49 rfl base 64 i0 (.agg #[.int .u8 0, .int .i64 0, .int .i64 0]) 3 24 underlying49 hi hz0 hz1 hz2 rfl (by decide) (.slice ao nn cp) nn xs rfl ?own ⟨w2.heap.size + 1, 0, none⟩ 1 1 [.int .u8 c, .int .i64 0, .int .i64 (dist : Int)] rfl rfl ?c1 ?c2 ?b1 ?b2 ?b3 ?grow)
          case own => exact owns_keep hownB.out (fun g _ hg => heap_alloc_old hg _)
          case c1 => exact three_new (by simp) _ _ _ _
          case c2 => intro u hu; simp at hu; rcases hu with rfl | rfl | rfl <;> rfl
          case b1 => unfold maxLen; omega
          case b2 => omega
          case b3 => have := hJB0; simp; omega
          case grow =>
            intro v' w5 ho5 hg5 _
            obtain ⟨g5, c5, rfl⟩ : ∃ g cap', v' = .slice (some ⟨g, 0, none⟩) (nn + 1) cap' := by
              rcases ho5.2 with ⟨_, h⟩ | ⟨g, cap', _, h, _⟩
              · omega
              · exact ⟨g, cap', h⟩
            have hfr5 : Fr (fun k => (Value.slice ao nn cp).ownBlock = some k) ((w2.alloc (.cells #[.int .u8 c, .int .i64 0, .int .i64 (dist : Int)] 64)).drewN nq) w5 := ((Fr.refl _ _).alloc _).grown hg5 (fun k hk _ => hk)
            have hJ5 := H.next ((w2.alloc (.cells #[.int .u8 c, .int .i64 0, .int .i64 (dist : Int)] 64)).drewN nq) w5 at_ 0 dist _ _ nn xs 0 dist hJB (Or.inl ⟨rfl, rfl⟩) hownB.out (by rw [hcdef.out]; exact ho5) hfr5
            have hb5 : w5.heap[w2.heap.size]? = some (.cells #[.int .u8 c, .int .i64 0, .int .i64 (dist : Int)] 64 (0, 0)) := by
              rw [hg5.block w2.heap.size (by have := lt_of_heap hboxB.out; simp; omega) (fun e => by have := (owns_block hown0.out e.symm).2; omega)]
              exact (heap_alloc_old (lt_of_heap hboxB.out) _).trans hboxB.out
            have x0 : w5.cell? ⟨w2.heap.size, 0, none⟩ = some (.int .u8 c) := cell_of_heap hb5 0
            have x1 : w5.cell? ⟨w2.heap.size, 1, none⟩ = some (.int .i64 0) := cell_of_heap hb5 1
            have x2 : w5.cell? ⟨w2.heap.size, 2, none⟩ = some (.int .i64 (dist : Int)) := cell_of_heap hb5 2
            have HSZC : Hid _ := size_any c 0 ((dist : Int)) w5 (by omega)
            have HJ5 : Hid _ := hJ5
            clear hb5 hg5 ho5 hfr5 hJ5
            go_wp2_with fail
            refine Calls.mono HSZC.out ?_
            rintro e w6 ⟨rfl, f6⟩
            go_wp2_with fail
            go_roundw
            case rel => exact ⟨at_ + max 1 0, by go_num, H.frJ _ _ _ _ HJ5.out f6⟩
            case measure => simp [intOf]; omega
        · have hl0i : (0 : Int) < (len : Int) := by omega
          have g1b : decide ((4 : Int) ≤ (level : Int)) = true := decide_eq_true g1
          have hl0b : decide ((0 : Int) < (len : Int)) = true := decide_eq_true hl0i
          have hl0n : 0 < len := by omega
          have hl0nb : decide (0 < len) = true := decide_eq_true hl0n
          have hlv4 : 4 ≤ level := by omega
          have hlv4b : decide (4 ≤ level) = true := decide_eq_true hlv4
          have hw1 : IntKind.i64.wrap ((at_ : Int) + 1) = (at_ : Int) + 1 := by rw [IntKind.wrap_i64]; omega
          have hl2 : Calls Tryd.prog 29 #[.pointer (some ⟨F, 0, none⟩), .int .i64 ((at_ : Int) + 1)] (w2.alloc (.cells #[.int .u8 c, .int .i64 (len : Int), .int .i64 (dist : Int)] 64)).drew fun e w3 => ∃ (c2 : Int) (len2 dist2 : Nat), e = .returned (.agg #[.int .u8 c2, .int .i64 (len2 : Int), .int .i64 (dist2 : Int)]) ∧ J1 w3 at_ len dist (.slice ao nn cp) ∧ w3.cell? ⟨w2.heap.size, 0, none⟩ = some (.int .u8 c) ∧ w3.cell? ⟨w2.heap.size, 1, none⟩ = some (.int .i64 (len : Int)) ∧ w3.cell? ⟨w2.heap.size, 2, none⟩ = some (.int .i64 (dist : Int)) ∧ Hid (w3.heap[w2.heap.size]? = some (.cells #[.int .u8 c, .int .i64 (len : Int), .int .i64 (dist : Int)] 64 (0, 0))) ∧ Hid (len2 ≤ min 258 (n - (at_ + 1))) := by
            refine (H.long2 _ at_ len dist _ (H.fr1 _ _ _ _ _ _ hJ2 ((Fr.refl _ w2).alloc _).drew) (by omega)).mono ?_
            rintro e w3 ⟨c2, len2, dist2, rfl, hJ3, f3, hm2⟩
            have hb3 : w3.heap[w2.heap.size]? = some (.cells #[.int .u8 c, .int .i64 (len : Int), .int .i64 (dist : Int)] 64 (0, 0)) := by
              rw [f3.block w2.heap.size (by show w2.heap.size < (w2.heap.push _).size; simp) (by rintro (e | e | e) <;> omega)]
              exact heap_alloc_new _ _
            exact ⟨c2, len2, dist2, rfl, hJ3, cell_of_heap hb3 0, cell_of_heap hb3 1, cell_of_heap hb3 2, hb3, hm2⟩
          have HL2 : Hid _ := hl2
          have hfld : ∀ (a b c : Value) (W : World), (Instr.field 64 (.agg #[a, b, c]) 1).run Tryd.prog W = .ok b W := field64
          clear hl2
          go_wp2_with fail
          go_region_with (go_at_call 29; refine Calls.mono HL2.out ?_; rintro e w3 ⟨c2, len2, dist2, rfl, hJ3, y0, y1, y2, hb3, HM2⟩)
          all_goals
            obtain ⟨⟨nn3, xs3, hown3, hnn3⟩, s03, s13, s23, s33, s43, _, _, hcb3⟩ := H.own w3 at_ len dist _ hJ3
            have hsl := owns_slice hown3
            obtain ⟨ao3, cp3, he3⟩ := hsl
            simp only [Value.slice.injEq] at he3
            obtain ⟨rfl, rfl, rfl⟩ := he3
            rw [hcdef.out] at hcb3
            have hB3 := lt_of_cell y0
            have fz3 := free_of_heap hb3.out
            have hnb : (Value.slice ao nn cp).ownBlock ≠ some w2.heap.size := fun e => by have := (owns_block hown0.out e).2; omega
            clear HL2 hfld
            by_cases hgt : len < len2
            · have hgti : (len : Int) < (len2 : Int) := by omega
              have hgtb : decide ((len : Int) < (len2 : Int)) = true := decide_eq_true hgti
              have hownB : Hid ((((w3.setCell ⟨w2.heap.size, 0, none⟩ (.int .u8 c)).setCell ⟨w2.heap.size, 1, none⟩ (.int .i64 0)).setCell ⟨w2.heap.size, 2, none⟩ (.int .i64 0)).ownsRow base 64 3 (.slice ao nn cp) nn xs3) := owns_keep hown3 (fun g hg _ => by
                have hne : g ≠ w2.heap.size := fun e => hnb (e ▸ hg)
                exact (heap_set_other hne _ _).trans ((heap_set_other hne _ _).trans (heap_set_other hne _ _)))
              have hboxB : Hid ((((w3.setCell ⟨w2.heap.size, 0, none⟩ (.int .u8 c)).setCell ⟨w2.heap.size, 1, none⟩ (.int .i64 0)).setCell ⟨w2.heap.size, 2, none⟩ (.int .i64 0)).heap[w2.heap.size]? = some (.cells #[.int .u8 c, .int .i64 0, .int .i64 0] 64 (0, 0))) := heap_set (heap_set (heap_set hb3.out 0 (.int .u8 c)) 1 (.int .i64 0)) 2 (.int .i64 0)
              have hJB : J1 (((w3.setCell ⟨w2.heap.size, 0, none⟩ (.int .u8 c)).setCell ⟨w2.heap.size, 1, none⟩ (.int .i64 0)).setCell ⟨w2.heap.size, 2, none⟩ (.int .i64 0)) at_ len dist (.slice ao nn cp) := H.set1 w3 _ _ _ _ _ w2.heap.size hJ3 ((((Fr.refl (One w2.heap.size) w3).setCell (p := ⟨w2.heap.size, 0, none⟩) rfl _).setCell (p := ⟨w2.heap.size, 1, none⟩) rfl _).setCell (p := ⟨w2.heap.size, 2, none⟩) rfl _) (by omega) (by omega) (by omega) (by omega) (by omega) hnb
              have hJB0 := (H.own _ _ _ _ _ hJB).2.1
              go_wp2_with (at_builtin; refine wpList_append_own _ rfl (.tmp 42) (.tmp 44) 49 rfl base 64 i0 (.agg #[.int .u8 0, .int .i64 0, .int .i64 0]) 3 24 underlying49 hi hz0 hz1 hz2 rfl (by decide) (.slice ao nn cp) nn xs3 rfl ?own ⟨w3.heap.size, 0, none⟩ 1 1 [.int .u8 c, .int .i64 0, .int .i64 0] rfl rfl ?c1 ?c2 ?b1 ?b2 ?b3 ?grow)
              case own => exact owns_keep hownB.out (fun g _ hg => heap_alloc_old hg _)
              case c1 => exact three_new (by simp [World.setCell]) _ _ _ _
              case c2 => intro u hu; simp at hu; rcases hu with rfl | rfl | rfl <;> rfl
              case b1 => unfold maxLen; omega
              case b2 => omega
              case b3 => have := hJB0; simp; omega
              case grow =>
                intro v' w5 ho5 hg5 _
                obtain ⟨g5, c5, rfl⟩ : ∃ g cap', v' = .slice (some ⟨g, 0, none⟩) (nn + 1) cap' := by
                  rcases ho5.2 with ⟨_, h⟩ | ⟨g, cap', _, h, _⟩
                  · omega
                  · exact ⟨g, cap', h⟩
                have hfr5 : Fr (fun k => (Value.slice ao nn cp).ownBlock = some k) (((w3.setCell ⟨w2.heap.size, 0, none⟩ (.int .u8 c)).setCell ⟨w2.heap.size, 1, none⟩ (.int .i64 0)).setCell ⟨w2.heap.size, 2, none⟩ (.int .i64 0)) w5 := ((Fr.refl _ _).alloc _).grown hg5 (fun k hk _ => hk)
                have hJ5 := H.next (((w3.setCell ⟨w2.heap.size, 0, none⟩ (.int .u8 c)).setCell ⟨w2.heap.size, 1, none⟩ (.int .i64 0)).setCell ⟨w2.heap.size, 2, none⟩ (.int .i64 0)) w5 at_ len dist _ _ nn xs3 0 0 hJB (Or.inr ⟨rfl, rfl, by omega, len2, hgt, HM2.out⟩) hownB.out (by rw [hcdef.out]; exact ho5) hfr5
                have hb5 : w5.heap[w2.heap.size]? = some (.cells #[.int .u8 c, .int .i64 0, .int .i64 0] 64 (0, 0)) := by
                  rw [hg5.block w2.heap.size (by have := lt_of_heap hboxB.out; simp; omega) (fun e => by have := (owns_block hown0.out e.symm).2; omega)]
                  exact (heap_alloc_old (lt_of_heap hboxB.out) _).trans hboxB.out
                have x0 : w5.cell? ⟨w2.heap.size, 0, none⟩ = some (.int .u8 c) := cell_of_heap hb5 0
                have x1 : w5.cell? ⟨w2.heap.size, 1, none⟩ = some (.int .i64 0) := cell_of_heap hb5 1
                have x2 : w5.cell? ⟨w2.heap.size, 2, none⟩ = some (.int .i64 0) := cell_of_heap hb5 2
                have HSZC : Hid _ := size_any c 0 (0) w5 (by omega)
                have HJ5 : Hid _ := hJ5
                clear hb5 hg5 ho5 hfr5 hJ5
                go_wp2_with fail
                refine Calls.mono HSZC.out ?_
                rintro e w6 ⟨rfl, f6⟩
                go_wp2_with fail
                go_roundw
                case rel => exact ⟨at_ + max 1 0, by go_num, H.frJ _ _ _ _ HJ5.out f6⟩
                case measure => simp [intOf]; omega
            · have hgtb : decide ((len : Int) < (len2 : Int)) = false := decide_eq_false (by omega)
              have hownB : Hid (w3.ownsRow base 64 3 (.slice ao nn cp) nn xs3) := hown3
              have hboxB := hb3
              have hJB := hJ3
              have hJB0 := s03
              go_wp2_with (at_builtin; refine wpList_append_own _ rfl (.tmp 42) (.tmp 44) 49 rfl base 64 i0 (.agg #[.int .u8 0, .int .i64 0, .int .i64 0]) 3 24 underlying49 hi hz0 hz1 hz2 rfl (by decide) (.slice ao nn cp) nn xs3 rfl ?own ⟨w3.heap.size, 0, none⟩ 1 1 [.int .u8 c, .int .i64 (len : Int), .int .i64 (dist : Int)] rfl rfl ?c1 ?c2 ?b1 ?b2 ?b3 ?grow)
              case own => exact owns_keep hownB.out (fun g _ hg => heap_alloc_old hg _)
              case c1 => exact three_new (by rfl) _ _ _ _
              case c2 => intro u hu; simp at hu; rcases hu with rfl | rfl | rfl <;> rfl
              case b1 => unfold maxLen; omega
              case b2 => omega
              case b3 => have := hJB0; simp; omega
              case grow =>
                intro v' w5 ho5 hg5 _
                obtain ⟨g5, c5, rfl⟩ : ∃ g cap', v' = .slice (some ⟨g, 0, none⟩) (nn + 1) cap' := by
                  rcases ho5.2 with ⟨_, h⟩ | ⟨g, cap', _, h, _⟩
                  · omega
                  · exact ⟨g, cap', h⟩
                have hfr5 : Fr (fun k => (Value.slice ao nn cp).ownBlock = some k) w3 w5 := ((Fr.refl _ _).alloc _).grown hg5 (fun k hk _ => hk)
                have hJ5 := H.next w3 w5 at_ len dist _ _ nn xs3 len dist hJB (Or.inl ⟨rfl, rfl⟩) hownB.out (by rw [hcdef.out]; exact ho5) hfr5
                have hb5 : w5.heap[w2.heap.size]? = some (.cells #[.int .u8 c, .int .i64 (len : Int), .int .i64 (dist : Int)] 64 (0, 0)) := by
                  rw [hg5.block w2.heap.size (by have := lt_of_heap hboxB.out; simp; omega) (fun e => by have := (owns_block hown0.out e.symm).2; omega)]
                  exact (heap_alloc_old (lt_of_heap hboxB.out) _).trans hboxB.out
                have x0 : w5.cell? ⟨w2.heap.size, 0, none⟩ = some (.int .u8 c) := cell_of_heap hb5 0
                have x1 : w5.cell? ⟨w2.heap.size, 1, none⟩ = some (.int .i64 (len : Int)) := cell_of_heap hb5 1
                have x2 : w5.cell? ⟨w2.heap.size, 2, none⟩ = some (.int .i64 (dist : Int)) := cell_of_heap hb5 2
                have HSZC : Hid _ := size_any c len ((dist : Int)) w5 (by omega)
                have HJ5 : Hid _ := hJ5
                clear hb5 hg5 ho5 hfr5 hJ5
                go_wp2_with fail
                refine Calls.mono HSZC.out ?_
                rintro e w6 ⟨rfl, f6⟩
                go_wp2_with fail
                go_roundw
                case rel => exact ⟨at_ + max 1 len, by go_num, H.frJ _ _ _ _ HJ5.out f6⟩
                case measure => simp [intOf]; omega
    · have : at_ = n := by omega
      subst this
      go_wp2_with fail
      go_ret
      exact ⟨u6, rfl, hJ⟩

end Go.Proofs.YtdpobjgfnhjagaaDoor

namespace Go.Proofs.YtdpobjgfnhjagaaDoor
open Go.RowKit

theorem OutAt.keepB {B : Nat} {w w' : World} {bs : List Nat} (h : OutAt B w bs) (hb : Below w.heap.size w w') : OutAt B w' bs := by
  obtain ⟨q1, ov, q2, q3⟩ := h
  exact ⟨q1, ov, (hb.block B (lt_of_heap q2)).trans q2, owns_keep q3 (fun g _ hg => hb.block g hg)⟩

theorem CdEnv.of_heap {B gl gw : Nat} {w : World} {lens : List Nat} (h1 : w.heap[gl]? = some (.cells (ints (ni lens)) 3 (0, 0))) (h2 : w.heap[gw]? = some (.cells (ints (ni (tab (wordOf lens) lens.length))) 3 (0, 0))) (b1 : B < gl) (b2 : B < gw) (hx : ∀ x ∈ lens, x < 16) (hl : lens.length ≤ 320) : CdEnv B w gl 0 gw lens :=
  ⟨fun w' k => ⟨IntsAt.of_heap (k.other gl _ 3 (0, 0) b1 (by decide) h1), IntsAt.of_heap (k.other gw _ 3 (0, 0) b2 (by decide) h2)⟩, by omega, by omega, hx, hl⟩
theorem CdEnv.of_below {B gl ol gw : Nat} {w : World} {lens : List Nat} (h1 : IntsAt w gl ol (ni lens)) (h2 : w.heap[gw]? = some (.cells (ints (ni (tab (wordOf lens) lens.length))) 3 (0, 0))) (b1 : gl < B) (b2 : B < gw) (hx : ∀ x ∈ lens, x < 16) (hl : lens.length ≤ 320) : CdEnv B w gl ol gw lens :=
  ⟨fun w' k => ⟨h1.below k.below b1, IntsAt.of_heap (k.other gw _ 3 (0, 0) b2 (by decide) h2)⟩, by omega, by omega, hx, hl⟩

theorem lits_pos (s : Nat) (h : s < 288) : 0 < lits.getD s 0 := by
  have key : ∀ s : Fin 288, 0 < lits.getD s.val 0 := by decide +kernel
  exact key ⟨s, h⟩
theorem dists_pos (s : Nat) (h : s < 32) : 0 < dists.getD s 0 := by
  have key : ∀ s : Fin 32, 0 < dists.getD s.val 0 := by decide +kernel
  exact key ⟨s, h⟩

theorem fixed_ok (t : GT) (h : gtOk t) : tokOk lits dists (toTok t) := by
  unfold toTok
  by_cases c : t.len = 0
  · rw [if_pos c]
    have hc : t.c.toNat < 256 := t.c.toNat_lt
    exact ⟨by rw [lits_length]; show t.c.toNat < 288; omega, lits_pos _ (by show t.c.toNat < 288; omega), Or.inl hc⟩
  · rw [if_neg c]
    obtain ⟨g3, g4, g5, g6⟩ := h.resolve_left c
    obtain ⟨q1, q2, q3, _, _⟩ := len_spec t.len g3 g4
    obtain ⟨r1, r2, _, _⟩ := dist_spec t.dist g5 g6
    refine ⟨by rw [lits_length]; show lS t.len < 288; omega, lits_pos _ (by show lS t.len < 288; omega), Or.inr ⟨q1, q2, q3, r1, by rw [dists_length]; show dS t.dist < 32; omega, dists_pos _ (by show dS t.dist < 32; omega), r2⟩⟩

set_option maxRecDepth 100000 in
set_option maxHeartbeats 1000000 in
theorem fixed_any (g n cap : Nat) (ts : List GT) (w : World) (hT : TkAt w g ts) (hn : ts.length = n) (hn2 : n ≤ 30000) (hok : ∀ t ∈ ts, gtOk t) :
    Calls Tryd.prog 20 #[.slice (some ⟨g, 0, none⟩) n cap] w fun e w' => ∃ ov, e = .returned ov ∧ w'.ownsRow (w.heap.size + 1) 5 1 ov (pack (fixedBits (ts.map toTok))).length (bv8 (pack (fixedBits (ts.map toTok)))) ∧ Below w.heap.size w w' := by
  have hg := hT.lt
  go_enter Tryd.func20, Tryd.ntmps20
  go_wp2_with fail
  refine (begin_any 1 w (by omega)).mono ?_
  rintro e w1 ⟨rfl, o1, b1⟩
  have hB1 := o1.lt
  go_wp2_with fail
  refine (fixedLiterals_any w1).mono ?_
  rintro e w2 ⟨rfl, l2, b2⟩
  have i2 := IntsAt.of_heap l2
  have hs2 := i2.lt
  have L2 : Hid (w2.heap[w1.heap.size]? = some (.cells (ints (ni lits)) 3 (0, 0))) := l2; clear l2
  go_wp2_with fail
  refine (codeOf_any w1.heap.size 0 288 288 lits w2 lits_length (by omega) lits_lt i2).mono ?_
  rintro e w3 ⟨gw, rfl, l3, hgw, b3⟩
  have hgw3 := lt_of_heap l3
  have L3 : Hid (w3.heap[gw]? = some (.cells (ints (ni (tab (wordOf lits) 288))) 3 (0, 0))) := l3; clear l3
  go_wp2_with fail
  refine (fixedDistances_any w3).mono ?_
  rintro e w4 ⟨rfl, l4, b4⟩
  have i4 := IntsAt.of_heap l4
  have hs4 := i4.lt
  have L4 : Hid (w4.heap[w3.heap.size]? = some (.cells (ints (ni dists)) 3 (0, 0))) := l4; clear l4
  go_wp2_with fail
  refine (codeOf_any w3.heap.size 0 32 32 dists w4 dists_length (by omega) dists_lt i4).mono ?_
  rintro e w5 ⟨dw, rfl, l5, hdw, b5⟩
  have hb15 : Below w1.heap.size w1 w5 := ((b2.trans (b3.mono (by omega))).trans (b4.mono (by have := b2.size; have := b3.size; omega))).trans (b5.mono (by have := b2.size; have := b3.size; have := b4.size; omega))
  have o5 := o1.keepB hb15
  have hB5 : w.heap.size < w1.heap.size := hB1
  have hs23 := b3.size
  have hs34 := b4.size
  have EL : CdEnv w.heap.size w5 w1.heap.size 0 gw lits := by
    refine CdEnv.of_heap ?_ ?_ (by omega) (by omega) lits_lt (by rw [lits_length]; omega)
    · exact (b5.block _ (by omega)).trans ((b4.block _ (by omega)).trans ((b3.block _ (by omega)).trans L2.out))
    · rw [lits_length]
      exact (b5.block _ (by omega)).trans ((b4.block _ (by omega)).trans L3.out)
  have ED : CdEnv w.heap.size w5 w3.heap.size 0 dw dists := by
    refine CdEnv.of_heap ?_ ?_ (by omega) (by omega) dists_lt (by rw [dists_length]; omega)
    · exact (b5.block _ (by omega)).trans L4.out
    · rw [dists_length]; exact l5
  have hb5 : Below w.heap.size w w5 := b1.trans (hb15.mono (by omega))
  have hcall := tokens_put w.heap.size w1.heap.size 0 gw 288 288 w3.heap.size 0 dw 32 32 g n cap lits dists (headBits 1) ts w5 o5 EL ED (hT.below hb5 hg) hg hn hn2 (fun t ht => ⟨hok t ht, fixed_ok t (hok t ht)⟩) (by rw [lits_length]; omega) (by have := lits_pos 256 (by omega); show lits.getD 256 0 ≠ 0; omega) (by decide)
  rw [lits_length, dists_length] at hcall
  have HC : Hid _ := hcall
  clear hcall l5
  go_wp2_with fail
  refine Calls.mono HC.out ?_
  rintro e w6 ⟨rfl, o6, k6⟩
  obtain ⟨_, ov, q2, q3⟩ := o6
  have c0 : w6.cell? ⟨w.heap.size, 0, none⟩ = some ov := cell_of_heap q2 0
  clear q2
  go_wp2_with fail
  go_ret
  exact ⟨ov, rfl, q3, hb5.trans k6.below⟩

end Go.Proofs.YtdpobjgfnhjagaaDoor

namespace Go.Proofs.YtdpobjgfnhjagaaDoor
open Go.RowKit

theorem toksEx_snoc (ts : List Tok) (t : Tok) (out : List UInt8) : toksEx (ts ++ [t]) out = tokEx t (toksEx ts out) := by
  induction ts generalizing out with
  | nil => rfl
  | cons a r ih => simp only [List.cons_append, toksEx, ih]
theorem distsOk_snoc (ts : List Tok) (t : Tok) (out : List UInt8) (h : distsOk ts out) (ht : 256 ≤ t.s → distB t.d + t.dx ≤ (toksEx ts out).length) : distsOk (ts ++ [t]) out := by
  induction ts generalizing out with
  | nil => exact ⟨ht, trivial⟩
  | cons a r ih => exact ⟨h.1, ih _ h.2 ht⟩

/-- How many bits equal bytes take. -/
def EB (n at_ m : Nat) : Prop := (at_ = 0 ∧ m = 0) ∨ (1 ≤ at_ ∧ (at_ - 1) % 258 = 0 ∧ m ≤ 9 + 18 * ((at_ - 1) / 258)) ∨ (1 ≤ at_ ∧ n ≤ at_ + 2 ∧ m ≤ 9 + 18 * ((n - 1) / 258 + 1) + 9 * (at_ + 2 - n))

theorem lits_le (s : Nat) : lits.getD s 0 ≤ 9 ∧ (256 ≤ s → lits.getD s 0 ≤ 8) := by
  by_cases h : s < 288
  · have key : ∀ s : Fin 288, lits.getD s.val 0 ≤ 9 ∧ (256 ≤ s.val → lits.getD s.val 0 ≤ 8) := by decide +kernel
    exact key ⟨s, h⟩
  · rw [getD_big lits s (by rw [lits_length]; omega)]; omega
theorem dists_le (s : Nat) : dists.getD s 0 ≤ 5 := by
  by_cases h : s < 32
  · have key : ∀ s : Fin 32, dists.getD s.val 0 ≤ 5 := by decide +kernel
    exact key ⟨s, h⟩
  · rw [getD_big dists s (by rw [dists_length]; omega)]; omega
theorem lit_bits (c : UInt8) (d : Nat) : (tokBits lits dists (toTok ⟨c, 0, d⟩)).length ≤ 9 := by
  unfold tokBits toTok codeBits
  have h1 := (lits_le c.toNat).1
  have : c.toNat < 256 := c.toNat_lt
  rw [if_pos rfl]
  simp only [if_pos this, List.append_nil, msb_length]
  exact h1
theorem match_bits (c : UInt8) (len : Nat) (h1 : 3 ≤ len) (h2 : len ≤ 258) : (tokBits lits dists (toTok ⟨c, len, 1⟩)).length ≤ 18 := by
  obtain ⟨q1, q2, _, _, _⟩ := len_spec len h1 h2
  have h3 := (lits_le (lS len)).2 (by omega)
  have h4 := dists_le (dS 1)
  have h5 := (len_bounds (lS len) q1 q2).2.1
  have h6 : distM (dS 1) = 0 := by decide +kernel
  unfold tokBits toTok codeBits
  rw [if_neg (by show ¬ len = 0; omega)]
  show (msb (lits.getD (lS len) 0) _ ++ (if lS len < 256 then [] else lsb (lenM (lS len)) _ ++ (msb (dists.getD (dS 1) 0) _ ++ lsb (distM (dS 1)) _))).length ≤ 18
  rw [if_neg (by omega)]
  simp only [List.length_append, msb_length, lsb_length, h6]
  omega
theorem EB.step {n at_ m l x : Nat} (h : EB n at_ m) (hat : at_ < n) (hlit : l = 0 → x ≤ 9) (hmat : 3 ≤ l → x ≤ 18) (h0 : at_ = 0 → l = 0) (h1 : 1 ≤ at_ → at_ + 3 ≤ n → l = min 258 (n - at_)) (hs : 1 ≤ at_ → n < at_ + 3 → l = 0) : EB n (at_ + max 1 l) (m + x) := by
  rcases h with ⟨a, b⟩ | ⟨a, b, c⟩ | ⟨a, b, c⟩
  · have := h0 a
    subst this
    have := hlit rfl
    right; left
    subst a b
    simp; omega
  · by_cases h3 : at_ + 3 ≤ n
    · have hl := h1 a h3
      have hx := hmat (by omega)
      by_cases h4 : 258 ≤ n - at_
      · right; left
        have e1 : l = 258 := by omega
        refine ⟨by omega, by omega, ?_⟩
        rw [e1, show at_ + max 1 258 - 1 = (at_ - 1) + 258 by omega, Nat.add_div_right _ (by omega)]
        omega
      · right; right
        have e1 : at_ + max 1 l = n := by omega
        refine ⟨by omega, by omega, ?_⟩
        have : (at_ - 1) / 258 ≤ (n - 1) / 258 := Nat.div_le_div_right (by omega)
        omega
    · have hl := hs a (by omega)
      have hx := hlit hl
      right; right
      have : (at_ - 1) / 258 ≤ (n - 1) / 258 := Nat.div_le_div_right (by omega)
      refine ⟨by omega, by omega, ?_⟩
      subst hl
      omega
  · have hl : l = 0 := hs a (by omega)
    have hx := hlit hl
    right; right
    subst hl
    refine ⟨by omega, by omega, by omega⟩

/-- The tokens so far. -/
structure TsI (b : List UInt8) (at_ : Nat) (ts : List GT) : Prop where
  ok : ∀ t ∈ ts, gtOk t
  dist : distsOk (ts.map toTok) []
  ex : toksEx (ts.map toTok) [] = b.take at_
  cnt : ts.length ≤ at_
  le : at_ ≤ b.length
  eq : EqB b → EB b.length at_ (toksBits lits dists (ts.map toTok)).length

theorem TsI.snoc {b : List UInt8} {at_ : Nat} {ts : List GT} (h : TsI b at_ ts) (hb : b.length ≤ 30000) (len dist : Nat) (hat : at_ < b.length) (hT : TkI b at_ (min 258 (b.length - at_)) len dist) (hE : EqB b → 1 ≤ at_ → at_ + 3 ≤ b.length → len = min 258 (b.length - at_) ∧ dist = 1) :
    TsI b (at_ + max 1 len) (ts ++ [⟨b.getD at_ 0, len, dist⟩]) := by
  have hl : (b.take at_).length = at_ := by rw [List.length_take]; omega
  rcases hT with ⟨rfl, rfl⟩ | ⟨c1, c2, c3, c4, c5⟩
  · have htk : toTok ⟨b.getD at_ 0, 0, 0⟩ = ⟨(b.getD at_ 0).toNat, 0, 0, 0⟩ := if_pos rfl
    refine ⟨fun t ht => ?_, ?_, ?_, by simp; have := h.cnt; omega, by omega, fun e => ?_⟩
    · rcases List.mem_append.1 ht with q | q
      · exact h.ok t q
      · simp at q; subst q; exact Or.inl rfl
    · rw [List.map_append]
      refine distsOk_snoc _ _ _ h.dist (fun q => ?_)
      rw [htk] at q
      have : (b.getD at_ 0).toNat < 256 := (b.getD at_ 0).toNat_lt
      simp only at q
      omega
    · rw [List.map_append, List.map_cons, List.map_nil, toksEx_snoc, h.ex, htk, lit_take b at_ hat]
      rfl
    · rw [List.map_append, List.map_cons, List.map_nil, toksBits_snoc, List.length_append]
      refine (h.eq e).step hat (fun _ => lit_bits _ _) (fun q => by omega) (fun _ => rfl) (fun q1 q2 => (hE e q1 q2).1) (fun _ _ => rfl)
  · have htk : toTok ⟨b.getD at_ 0, len, dist⟩ = ⟨lS len, lR len, dS dist, dR dist⟩ := if_neg (by show ¬ len = 0; omega)
    obtain ⟨q1, q2, q3, q4, _⟩ := len_spec len c1 (by omega)
    obtain ⟨r1, r2, r3, _⟩ := dist_spec dist c3 (by omega)
    have hm : max 1 len = len := by omega
    rw [hm]
    refine ⟨fun t ht => ?_, ?_, ?_, by simp; have := h.cnt; omega, by omega, fun e => ?_⟩
    · rcases List.mem_append.1 ht with q | q
      · exact h.ok t q
      · simp at q; subst q; exact Or.inr ⟨c1, by show len ≤ 258; omega, c3, by show dist ≤ 32768; omega⟩
    · rw [List.map_append]
      refine distsOk_snoc _ _ _ h.dist (fun _ => ?_)
      rw [htk, h.ex, hl]
      show distB (dS dist) + dR dist ≤ at_
      omega
    · rw [List.map_append, List.map_cons, List.map_nil, toksEx_snoc, h.ex, htk]
      unfold tokEx
      rw [if_neg (by show ¬ lS len < 256; omega)]
      show copyN (distB (dS dist) + dR dist) (lenB (lS len) + lR len) (b.take at_) = _
      rw [r3, q4]
      exact copy_take b dist len at_ c3 c4 (by omega) c5
    · rw [List.map_append, List.map_cons, List.map_nil, toksBits_snoc, List.length_append]
      have hstep := (h.eq e).step (l := len) (x := (tokBits lits dists (toTok ⟨b.getD at_ 0, len, dist⟩)).length) hat (fun q => by omega) (fun _ => ?_) (fun q => by omega) (fun q1 q2 => (hE e q1 q2).1) (fun q1 q2 => by omega)
      · rw [hm] at hstep
        exact hstep
      · by_cases h3 : at_ + 3 ≤ b.length
        · obtain ⟨_, rfl⟩ := hE e (by omega) h3
          exact match_bits _ len c1 (by omega)
        · omega

end Go.Proofs.YtdpobjgfnhjagaaDoor

namespace Go.Proofs.YtdpobjgfnhjagaaDoor
open Go.RowKit

theorem own_setS {w : World} {base : Nat} {e : TypeId} {size g k cap : Nat} {ys : List Value} (h : w.ownsRow base e size (.slice (some ⟨g, 0, none⟩) k cap) k ys) (i : Nat) (v : Value) : (w.setCell ⟨g, i, none⟩ v).ownsRow base e size (.slice (some ⟨g, 0, none⟩) k cap) k (ys.set i v) := by
  refine ⟨by have := h.1; simpa using this, ?_⟩
  rcases h.2 with ⟨h3, _⟩ | ⟨g', cap', cur, hv, hb, hh, h4, h5, h6, h7⟩
  · cases h3
  · simp at hv
    obtain ⟨rfl, rfl⟩ := hv
    refine Or.inr ⟨g, cap, _, rfl, hb, heap_set hh i _, h4, h5, by simpa using h6, ?_⟩
    rw [← h7]
    simp only [Array.toList_setIfInBounds, List.take_set]
theorem own_freeS {w : World} {base : Nat} {e : TypeId} {size g k cap : Nat} {ys : List Value} (h : w.ownsRow base e size (.slice (some ⟨g, 0, none⟩) k cap) k ys) (i : Nat) : w.frozen? ⟨g, i, none⟩ = false := by
  rcases h.2 with ⟨h1, _⟩ | ⟨g', cap', cur, h1, h2, h3, h4⟩
  · cases h1
  · simp at h1
    obtain ⟨rfl, rfl⟩ := h1
    exact free_of_heap h3 i

/-- The first k bytes as tokens, empty ones behind. -/
def sgl (b : List UInt8) (k : Nat) : List GT := (List.range b.length).map fun i => if i < k then ⟨b.getD i 0, 0, 0⟩ else ⟨0, 0, 0⟩
theorem sgl_length (b : List UInt8) (k : Nat) : (sgl b k).length = b.length := by simp [sgl]
theorem tkC_setc (l : List GT) (i : Nat) (c : UInt8) (h : i < l.length) (hz : (gt l i).len = 0 ∧ (gt l i).dist = 0) : (tkC l).set (i * 3) (.int .u8 ((c.toNat : Nat) : Int)) = tkC (l.set i ⟨c, 0, 0⟩) := by
  induction l generalizing i with
  | nil => simp at h
  | cons a r ih =>
    cases i with
    | zero =>
      obtain ⟨h1, h2⟩ := hz
      have e1 : a.len = 0 := h1
      have e2 : a.dist = 0 := h2
      simp [tkC, e1, e2]
    | succ i =>
      have := ih i (by simpa using h) hz
      rw [List.set_cons_succ]
      simp only [tkC, List.flatMap_cons] at this ⊢
      rw [← this, show (i + 1) * 3 = i * 3 + 1 + 1 + 1 by omega]
      simp
theorem sgl_get (b : List UInt8) (k i : Nat) (hi : i < b.length) : gt (sgl b k) i = if i < k then ⟨b.getD i 0, 0, 0⟩ else ⟨0, 0, 0⟩ := by
  simp only [gt, sgl, List.getD, List.getElem?_map, List.getElem?_range hi, Option.map_some, Option.getD_some]
theorem sgl_set (b : List UInt8) (k : Nat) (_hk : k < b.length) : (sgl b k).set k ⟨b.getD k 0, 0, 0⟩ = sgl b (k + 1) := by
  apply List.ext_getElem
  · simp [sgl]
  · intro i h1 h2
    simp [sgl] at h2
    simp only [sgl, List.getElem_set, List.getElem_map, List.getElem_range]
    by_cases e : k = i
    · subst e; rw [if_pos rfl, if_pos (by omega)]
    · rw [if_neg e]
      by_cases c : i < k
      · rw [if_pos c, if_pos (by omega)]
      · rw [if_neg c, if_neg (by omega)]
theorem made_sgl (b : List UInt8) : (madeCells (Value.agg #[.int .u8 0, .int .i64 0, .int .i64 0]).cells (b.length * 3)).toList = tkC (sgl b 0) := by
  have hc : (Value.agg #[.int .u8 0, .int .i64 0, .int .i64 0]).cells = #[.int .u8 0, .int .i64 0, .int .i64 0] := rfl
  rw [hc]
  apply List.ext_getElem?
  intro i
  by_cases hi : i < b.length * 3
  · have hq : i / 3 < b.length := by omega
    obtain ⟨g0, g1, g2⟩ := tkC_get (sgl b 0) (i / 3) (by rw [sgl_length]; exact hq)
    rw [sgl_get b 0 (i / 3) hq, if_neg (by omega)] at g0 g1 g2
    have hm : (madeCells #[Value.int .u8 0, .int .i64 0, .int .i64 0] (b.length * 3)).toList[i]? = some (#[Value.int .u8 0, .int .i64 0, .int .i64 0][i % 3]!) := by
      simp only [madeCells, Array.getElem?_toList, Array.getElem?_map, Array.getElem?_range]
      rw [if_pos hi]
      rfl
    rw [hm]
    have h3 : i = i / 3 * 3 + i % 3 := by omega
    have hlt : i % 3 < 3 := Nat.mod_lt _ (by omega)
    generalize i / 3 = q at *
    generalize i % 3 = r at *
    subst h3
    match r, hlt with
    | 0, _ => rw [Nat.add_zero, g0]; rfl
    | 1, _ => rw [g1]; rfl
    | 2, _ => rw [g2]; rfl
  · rw [List.getElem?_eq_none (by simp [madeCells]; omega), List.getElem?_eq_none (by rw [tkC_length, sgl_length]; omega)]


theorem sgl_tsi (b : List UInt8) (k : Nat) (hk : k ≤ b.length) : toksEx ((sgl b b.length).take k |>.map toTok) [] = b.take k ∧ distsOk ((sgl b b.length).take k |>.map toTok) [] := by
  induction k with
  | zero => exact ⟨rfl, trivial⟩
  | succ k ih =>
    obtain ⟨h1, h2⟩ := ih (by omega)
    have hl : k < (sgl b b.length).length := by rw [sgl_length]; omega
    have e : (sgl b b.length).take (k + 1) = (sgl b b.length).take k ++ [⟨b.getD k 0, 0, 0⟩] := by
      rw [List.take_succ_eq_append_getElem hl]
      have := sgl_get b b.length k (by omega)
      rw [if_pos (by omega)] at this
      rw [← this]
      simp [gt, List.getD, hl]
    have htk : toTok ⟨b.getD k 0, 0, 0⟩ = ⟨(b.getD k 0).toNat, 0, 0, 0⟩ := if_pos rfl
    rw [e, List.map_append, List.map_cons, List.map_nil, toksEx_snoc, h1, htk, lit_take b k (by omega)]
    refine ⟨rfl, distsOk_snoc _ _ _ h2 (fun q => ?_)⟩
    have : (b.getD k 0).toNat < 256 := (b.getD k 0).toNat_lt
    simp only at q
    omega

set_option maxRecDepth 100000 in
set_option maxHeartbeats 1000000 in
theorem singles_any (g o cap : Nat) (b : List UInt8) (w : World) (hL : Lies w g o b) (hg : g < w.heap.size) (hb : b.length ≤ 30000) :
    Calls Tryd.prog 17 #[.slice (some ⟨g, o, none⟩) b.length cap] w fun e w' => ∃ v, e = .returned v ∧ w'.ownsRow w.heap.size 64 3 v b.length (tkC (sgl b b.length)) ∧ Below w.heap.size w w' := by
  obtain ⟨i0, hi, hz0, hz1, hz2⟩ := info_parts info64
  obtain ⟨n, hn⟩ : ∃ n, b.length = n := ⟨_, rfl⟩
  have hms : (madeCells #[Value.int .u8 0, .int .i64 0, .int .i64 0] (b.length * 3)).toList = tkC (sgl b 0) := made_sgl b
  rw [hn] at hb hms
  rw [hn]
  have HMS : Hid _ := hms
  have HN : Hid _ := hn
  clear hn hms
  go_enter Tryd.func17, Tryd.ntmps17
  go_wp2_with (at_make; refine wpList_make_full _ rfl _ _ 49 rfl w.heap.size 64 i0 (.agg #[.int .u8 0, .int .i64 0, .int .i64 0]) 3 underlying49 hi hz0 hz1 .i64 .i64 n n n rfl rfl rfl rfl ?b1 ?b2 ?b3 ?go)
  case b1 => rw [hz2]; omega
  case b2 => unfold maxLen; omega
  case b3 => simp
  case go =>
    intro w1 hown hg1
    rw [HMS.out] at hown
    have hb1 : Below w.heap.size w w1 := (Below.refl _ _).grown hg1 (Nat.le_refl _) (fun k e => by cases e)
    have HO : Hid (w1.ownsRow w.heap.size 64 3 (.slice (some ⟨w.heap.size, 0, none⟩) n n) n (tkC (sgl b 0))) := hown
    clear hown hg1
    go_wp2_with fail
    go_loopw [11] (fun i wr => ∃ k : Nat, k ≤ n ∧ i = .int .i64 k ∧ Hid (wr.ownsRow w.heap.size 64 3 (.slice (some ⟨w.heap.size, 0, none⟩) n n) n (tkC (sgl b k))) ∧ Below w.heap.size w wr) (fun i _ => n - (intOf i).toNat)
    case atStart => exact ⟨0, by omega, rfl, HO, hb1⟩
    case round =>
      obtain ⟨k, hk, rfl, hO, hbel⟩ := hrel
      by_cases hlt : k < n
      · have hl := HN.out
        have a0 : wr.cell? ⟨g, o + k, none⟩ = some (.int .u8 (((b.getD k 0).toNat : Nat) : Int)) := (hbel.cell (p := ⟨g, o + k, none⟩) hg).trans (hL k (by omega))
        have hT := (TkAt.of_owns hO.out).1
        have c0 := hT.c0 k (by rw [sgl_length]; omega)
        have fz := own_freeS hO.out
        have hset := own_setS hO.out (k * 3) (.int .u8 (((b.getD k 0).toNat : Nat) : Int))
        have hz := sgl_get b k k (by omega)
        rw [if_neg (by omega)] at hz
        rw [tkC_setc (sgl b k) k (b.getD k 0) (by rw [sgl_length]; omega) (by rw [hz]; exact ⟨rfl, rfl⟩), sgl_set b k (by omega)] at hset
        have HS : Hid _ := hset
        obtain ⟨z, hzc⟩ : ∃ z, wr.cell? ⟨w.heap.size, k * 3, none⟩ = some (.int .u8 z) := ⟨_, c0⟩
        clear hset c0 hz hT hl
        have i1 : (k : Int) < (n : Int) := by omega
        go_wp2_with fail
        go_roundw
        case rel => exact ⟨k + 1, by omega, by go_num, HS.out, hbel.setCell (p := ⟨w.heap.size, k * 3, none⟩) (Nat.le_refl _) _⟩
        case measure => simp [intOf]; omega
      · have : k = n := by omega
        subst this
        go_wp2_with fail
        go_ret
        exact ⟨_, rfl, hO.out, hbel⟩

end Go.Proofs.YtdpobjgfnhjagaaDoor

namespace Go.Proofs.YtdpobjgfnhjagaaDoor
open Go.RowKit

set_option maxRecDepth 100000 in
set_option maxHeartbeats 1000000 in
theorem cut_walk (g o n cap least : Nat) (w : World) (f : Nat → Nat) (hc : ∀ i, i < n → w.cell? ⟨g, o + i, none⟩ = some (.int .i64 ((f i : Nat) : Int))) (hn2 : n ≤ 1000) (hl : least ≤ n) (hcap : n ≤ cap) :
    Calls Tryd.prog 36 #[.slice (some ⟨g, o, none⟩) n cap, .int .i64 (least : Int)] w fun e w' => ∃ m : Nat, e = .returned (.slice (some ⟨g, o, none⟩) m cap) ∧ least ≤ m ∧ m ≤ n ∧ (∀ i, m ≤ i → i < n → f i = 0) ∧ (least < m → f (m - 1) ≠ 0) ∧ w' = w := by
  have HC : Hid (∀ i, i < n → w.cell? ⟨g, o + i, none⟩ = some (.int .i64 ((f i : Nat) : Int))) := hc
  clear hc
  go_enter Tryd.func36, Tryd.ntmps36
  go_wp2_with fail
  go_loopw [5] (fun i wr => ∃ m : Nat, i = .int .i64 m ∧ least ≤ m ∧ m ≤ n ∧ Hid (∀ i, m ≤ i → i < n → f i = 0) ∧ wr = w) (fun i _ => (intOf i).toNat)
  case atStart => exact ⟨n, rfl, hl, Nat.le_refl _, fun i h1 h2 => by omega, rfl⟩
  case round =>
    obtain ⟨m, rfl, h1, h2, hall, rfl⟩ := hrel
    by_cases hlt : least < m
    · have c1 := HC.out (m - 1) (by omega)
      obtain ⟨q, hq⟩ : ∃ q, m = q + 1 := ⟨m - 1, by omega⟩
      subst hq
      rw [Nat.add_sub_cancel] at c1
      obtain ⟨x, hx⟩ : ∃ x, f q = x := ⟨_, rfl⟩
      rw [hx] at c1
      have HX : Hid _ := hx
      clear hx
      have i1 : (least : Int) < ((q + 1 : Nat) : Int) := by omega
      have i2 : (q : Int) < (n : Int) := by omega
      have e1 : ((q + 1 : Nat) : Int) - 1 = (q : Int) := by omega
      by_cases hx0 : x = 0
      · subst hx0
        go_wp2_with fail
        go_roundw
        case rel =>
          refine ⟨q, by go_num, by omega, by omega, fun i h3 h4 => ?_, trivial⟩
          by_cases e : i = q
          · rw [e]; exact HX.out
          · exact hall.out i (by omega) h4
        case measure => simp [intOf]
      · have hxb : (((x : Nat) : Int) == 0) = false := by simp; omega
        have hq1 : q + 1 ≤ cap := by omega
        go_wp2_with fail
        go_ret
        exact ⟨q + 1, rfl, h1, h2, hall.out, fun _ => by rw [Nat.add_sub_cancel, HX.out]; exact hx0, rfl⟩
    · have : m = least := by omega
      subst this
      have hq1 : m ≤ cap := by omega
      have i1 : decide ((m : Int) < (m : Int)) = false := by simp
      go_wp2_with fail
      go_ret
      exact ⟨m, rfl, Nat.le_refl _, h2, hall.out, fun h => by omega, rfl⟩

end Go.Proofs.YtdpobjgfnhjagaaDoor

namespace Go.Proofs.YtdpobjgfnhjagaaDoor
open Go.RowKit

/-- How often a literal's symbol comes; a distance's. -/
def cntS (ts : List GT) (s : Nat) : Nat := ts.countP fun t => decide ((toTok t).s = s)
def cntD (ts : List GT) (d : Nat) : Nat := ts.countP fun t => decide (t.len ≠ 0 ∧ dS t.dist = d)
theorem tab_nilS : tab (cntS []) 286 = List.replicate 286 0 := by rw [tab_zero]; exact tab_congr _ _ _ fun _ _ => rfl
theorem tab_nilD : tab (cntD []) 30 = List.replicate 30 0 := by rw [tab_zero]; exact tab_congr _ _ _ fun _ _ => rfl
theorem cntS_succ (ts : List GT) (k : Nat) (hk : k < ts.length) (s : Nat) : cntS (ts.take (k + 1)) s = cntS (ts.take k) s + if (toTok (gt ts k)).s = s then 1 else 0 := by
  have e : gt ts k = ts[k] := by simp [gt, List.getD, hk]
  unfold cntS
  rw [List.take_succ_eq_append_getElem hk, List.countP_append, e]
  by_cases c : (toTok ts[k]).s = s
  · rw [if_pos c]; simp [c]
  · rw [if_neg c]; simp [c]
theorem cntD_succ (ts : List GT) (k : Nat) (hk : k < ts.length) (d : Nat) : cntD (ts.take (k + 1)) d = cntD (ts.take k) d + if ((gt ts k).len ≠ 0 ∧ dS (gt ts k).dist = d) then 1 else 0 := by
  have e : gt ts k = ts[k] := by simp [gt, List.getD, hk]
  unfold cntD
  rw [List.take_succ_eq_append_getElem hk, List.countP_append, e]
  by_cases c : (ts[k].len ≠ 0 ∧ dS ts[k].dist = d)
  · rw [if_pos c]; simp [c]
  · rw [if_neg c]; simp only [List.countP_singleton, decide_eq_true_eq, if_neg c]
theorem cntS_le (ts : List GT) (k s : Nat) : cntS (ts.take k) s ≤ k := by
  have h1 : cntS (ts.take k) s ≤ (ts.take k).length := List.countP_le_length
  have h2 : (ts.take k).length ≤ k := by rw [List.length_take]; omega
  omega
theorem cntD_le (ts : List GT) (k d : Nat) : cntD (ts.take k) d ≤ k := by
  have h1 : cntD (ts.take k) d ≤ (ts.take k).length := List.countP_le_length
  have h2 : (ts.take k).length ≤ k := by rw [List.length_take]; omega
  omega
theorem TkAt.frN {w w' : World} {g : Nat} {ts : List GT} (h : TkAt w g ts) (f : Fr Non w w') : TkAt w' g ts :=
  ⟨Nat.lt_of_lt_of_le h.lt f.size, fun i hi => (f.cell (p := ⟨g, i * 3, none⟩) h.lt (fun e => e)).trans (h.c0 i hi), fun i hi => (f.cell (p := ⟨g, i * 3 + 1, none⟩) h.lt (fun e => e)).trans (h.c1 i hi), fun i hi => (f.cell (p := ⟨g, i * 3 + 2, none⟩) h.lt (fun e => e)).trans (h.c2 i hi)⟩

set_option maxRecDepth 100000 in
set_option maxHeartbeats 2000000 in
theorem counts_walk (g n cap : Nat) (ts : List GT) (ZL ZD : Array Value) (w : World) (hT : TkAt w g ts) (hn : ts.length = n) (hn2 : n ≤ 30000) (hok : ∀ t ∈ ts, gtOk t) (hZL : ZL = ints (ni (List.replicate 286 0))) (hZD : ZD = ints (ni (List.replicate 30 0)))
    (m1 : ∀ W, (Instr.makeSlice 36 (.int .i64 286) (.int .i64 286)).run Tryd.prog W = .ok (.slice (some ⟨W.heap.size, 0, none⟩) 286 286) (W.alloc (.cells ZL 3)))
    (m2 : ∀ W, (Instr.makeSlice 36 (.int .i64 30) (.int .i64 30)).run Tryd.prog W = .ok (.slice (some ⟨W.heap.size, 0, none⟩) 30 30) (W.alloc (.cells ZD 3))) :
    Calls Tryd.prog 35 #[.slice (some ⟨g, 0, none⟩) n cap] w fun e w' => ∃ gl gd, e = .returned (.tuple #[.slice (some ⟨gl, 0, none⟩) 286 286, .slice (some ⟨gd, 0, none⟩) 30 30]) ∧ w'.heap[gl]? = some (.cells (ints (ni ((tab (cntS ts) 286).set 256 1))) 3 (0, 0)) ∧ w'.heap[gd]? = some (.cells (ints (ni (tab (cntD ts) 30))) 3 (0, 0)) ∧ w.heap.size ≤ gl ∧ w.heap.size ≤ gd ∧ gl ≠ gd ∧ Fr Non w w' := by
  have hg := hT.lt
  have HN : Hid (ts.length = n) := hn
  have HZL : Hid _ := hZL
  have HZD : Hid _ := hZD
  clear hn hZL hZD
  go_enter Tryd.func35, Tryd.ntmps35
  go_wp2_with fail
  go_region
  · obtain ⟨W, hW⟩ : ∃ W, W = ((w.alloc (.cells ZL 3)).alloc (.cells ZD 3)).drew := ⟨_, rfl⟩
    rw [← hW]
    have hs1 : (w.alloc (.cells ZL 3)).heap.size = w.heap.size + 1 := by simp
    have h1 : W.heap[w.heap.size]? = some (.cells ZL 3 (0, 0)) := by
      rw [hW]
      exact (heap_alloc_old (by simp) _).trans (heap_alloc_new _ _)
    have h2 : W.heap[w.heap.size + 1]? = some (.cells ZD 3 (0, 0)) := by
      rw [hW]
      have := heap_alloc_new (w.alloc (.cells ZL 3)) (.cells ZD 3)
      rw [hs1] at this
      exact this
    have f0 : Fr Non w W := by rw [hW]; exact (((Fr.refl _ w).alloc _).alloc _).drew
    clear hW hs1
    rw [HZL.out] at h1
    rw [HZD.out] at h2
    have H1 : Hid _ := h1
    have H2 : Hid _ := h2
    clear h1 h2
    go_wp2_with fail
    go_loopw [13] (fun iv wr => ∃ k : Nat, k ≤ n ∧ iv = .int .i64 k ∧ wr.heap[w.heap.size]? = some (.cells (ints (ni (tab (cntS (ts.take k)) 286))) 3 (0, 0)) ∧ wr.heap[(w.heap.size + 1)]? = some (.cells (ints (ni (tab (cntD (ts.take k)) 30))) 3 (0, 0)) ∧ Fr Non w wr) (fun iv _ => n - (intOf iv).toNat)
    case atStart => exact ⟨0, by omega, rfl, by rw [List.take_zero, tab_nilS]; exact H1.out, by rw [List.take_zero, tab_nilD]; exact H2.out, f0⟩
    case round =>
      obtain ⟨k, hk, rfl, hl, hd, hfr⟩ := hrel
      have hgw : g < wr.heap.size := Nat.lt_of_lt_of_le hg hfr.size
      have hll := lt_of_heap hl
      have hdl := lt_of_heap hd
      by_cases hlt : k < n
      · have hkt : k < ts.length := by rw [HN.out]; exact hlt
        have hTr := TkAt.frN hT hfr
        have a0 := hTr.c0 k hkt
        have a1 := hTr.c1 k hkt
        have a2 := hTr.c2 k hkt
        have hmem : gt ts k ∈ ts := by
          have : gt ts k = ts[k] := by simp [gt, List.getD, hkt]
          rw [this]; exact List.getElem_mem hkt
        have hg1 := hok _ hmem
        have eS := cntS_succ ts k hkt
        have eD := cntD_succ ts k hkt
        have hcb := cntS_le ts k
        have hdb := cntD_le ts k
        obtain ⟨⟨c, len, dist⟩, ht⟩ : ∃ t, gt ts k = t := ⟨_, rfl⟩
        rw [ht] at a0 a1 a2 hg1 eS eD
        simp only at a0 a1 a2
        clear ht hmem
        by_cases hl0 : len = 0
        · subst hl0
          have hc256 : c.toNat < 256 := c.toNat_lt
          have hts : (toTok ⟨c, 0, dist⟩).s = c.toNat := by unfold toTok; rw [if_pos rfl]
          rw [hts] at eS
          clear hts
          have hci : ((c.toNat : Nat) : Int) < 286 := by omega
          have d1 := cell_ints hl c.toNat (by rw [ni_length, tab_length]; omega)
          rw [ni_getD, show (tab (cntS (ts.take k)) 286).getD c.toNat 0 = cntS (ts.take k) c.toNat from gd_tab _ _ _ (by omega)] at d1
          have hset := set_ints hl c.toNat ((cntS (ts.take k) c.toNat + 1 : Nat) : Int)
          rw [ni_set, tab_set _ (cntS (ts.take (k + 1))) 286 c.toNat _ (by omega) (by rw [eS, if_pos rfl]) (fun i _ hne => by rw [eS, if_neg (fun e => hne e.symm)]; rfl)] at hset
          have eD2 : tab (cntD (ts.take k)) 30 = tab (cntD (ts.take (k + 1))) 30 := tab_congr _ _ _ fun i _ => by rw [eD, if_neg (fun e => e.1 rfl)]; rfl
          rw [eD2] at hd
          have hfz := free_of_heap hl
          have hcb2 := hcb c.toNat
          generalize cntS (ts.take k) c.toNat = cv at d1 hset hcb2
          have HS : Hid _ := hset
          have HD : Hid _ := hd
          clear hset hd hl eS eD eD2 hcb hdb
          generalize hcn : c.toNat = cn at *
          go_wp2_with fail
          go_roundw
          case rel => exact ⟨k + 1, by omega, by go_num, (heap_alloc_old (by simp [World.setCell]; omega) _).trans HS.out, (heap_alloc_old (by simp [World.setCell]; omega) _).trans ((heap_set_other (by omega) _ _).trans HD.out), (hfr.setNew (p := ⟨w.heap.size, cn, none⟩) (by show w.heap.size ≤ w.heap.size; omega) _).alloc _⟩
          case measure => simp [intOf]; omega
        · obtain ⟨g3, g4, g5, g6⟩ := hg1.resolve_left hl0
          have hl0b : ((len : Int) == 0) = false := by simp; omega
          have hq := (len_spec len g3 g4).2.1
          have hr := (dist_spec dist g5 g6).1
          have hts : (toTok ⟨c, len, dist⟩).s = lS len := by unfold toTok; rw [if_neg hl0]
          rw [hts] at eS
          simp only at eD
          have d1 := cell_ints hl (lS len) (by rw [ni_length, tab_length]; omega)
          rw [ni_getD, show (tab (cntS (ts.take k)) 286).getD (lS len) 0 = cntS (ts.take k) (lS len) from gd_tab _ _ _ (by omega)] at d1
          have hset := set_ints hl (lS len) ((cntS (ts.take k) (lS len) + 1 : Nat) : Int)
          rw [ni_set, tab_set _ (cntS (ts.take (k + 1))) 286 (lS len) _ (by omega) (by rw [eS, if_pos rfl]) (fun i _ hne => by rw [eS, if_neg (fun e => hne e.symm)]; rfl)] at hset
          have d2 := cell_ints hd (dS dist) (by rw [ni_length, tab_length]; omega)
          rw [ni_getD, show (tab (cntD (ts.take k)) 30).getD (dS dist) 0 = cntD (ts.take k) (dS dist) from gd_tab _ _ _ (by omega)] at d2
          have hset2 := set_ints hd (dS dist) ((cntD (ts.take k) (dS dist) + 1 : Nat) : Int)
          rw [ni_set, tab_set _ (cntD (ts.take (k + 1))) 30 (dS dist) _ (by omega) (by rw [eD, if_pos ⟨hl0, rfl⟩]) (fun i _ hne => by rw [eD, if_neg (fun e => hne e.2.symm)]; rfl)] at hset2
          have hcb2 := hcb (lS len)
          have hdb2 := hdb (dS dist)
          have hOL : Hid _ := ofLength_any len (wr.alloc (.cells #[.int .u8 ((c.toNat : Nat) : Int), .int .i64 (len : Int), .int .i64 (dist : Int)] 64)) g3 g4
          have hOD : Hid (∀ W, Calls Tryd.prog 54 #[.int .i64 (dist : Int)] W fun e w' => e = .returned (.tuple #[.int .i64 (dS dist : Nat), .int .i64 (dR dist : Nat), .int .i64 (distM (dS dist) : Nat)]) ∧ Fr Non W w') := fun W => ofDistance_any dist W g5 g6
          generalize cntS (ts.take k) (lS len) = cv at d1 hset hcb2
          generalize cntD (ts.take k) (dS dist) = dv at d2 hset2 hdb2
          generalize lS len = sl at d1 hset hq hOL
          generalize dS dist = sd at d2 hset2 hr hOD
          generalize lR len = x1 at hOL
          generalize lenM sl = x2 at hOL
          generalize dR dist = x3 at hOD
          generalize distM sd = x4 at hOD
          have HS : Hid (∀ W : World, W.heap[w.heap.size]? = wr.heap[w.heap.size]? → (W.setCell ⟨w.heap.size, sl, none⟩ (.int .i64 ((cv : Int) + 1))).heap[w.heap.size]? = some (.cells (ints (ni (tab (cntS (ts.take (k + 1))) 286))) 3 (0, 0))) := fun W hW => by
            have e9 := heap_set (hW.trans hl) sl (.int .i64 ((cv : Int) + 1))
            have e8 := heap_set hl sl (.int .i64 ((cv : Int) + 1))
            rw [e9, ← e8]
            exact hset
          have HS2 : Hid (∀ W : World, W.heap[(w.heap.size + 1)]? = wr.heap[(w.heap.size + 1)]? → (W.setCell ⟨(w.heap.size + 1), sd, none⟩ (.int .i64 ((dv : Int) + 1))).heap[(w.heap.size + 1)]? = some (.cells (ints (ni (tab (cntD (ts.take (k + 1))) 30))) 3 (0, 0))) := fun W hW => by
            have e9 := heap_set (hW.trans hd) sd (.int .i64 ((dv : Int) + 1))
            have e8 := heap_set hd sd (.int .i64 ((dv : Int) + 1))
            rw [e9, ← e8]
            exact hset2
          have KL : Hid _ := hl
          have KD : Hid _ := hd
          clear hset hset2 hl hd eS eD hcb hdb hts
          have isl : (sl : Int) < 286 := by omega
          have isd : (sd : Int) < 30 := by omega
          go_wp2_with fail
          refine Calls.mono hOL.out ?_
          rintro e w2 ⟨rfl, f2⟩
          have f2a : Fr Non wr w2 := ((Fr.refl _ wr).alloc _).trans f2
          have l2 : w2.heap[w.heap.size]? = wr.heap[w.heap.size]? := f2a.block _ hll (fun e => e)
          have b2 : w2.heap[wr.heap.size]? = some (.cells #[.int .u8 ((c.toNat : Nat) : Int), .int .i64 (len : Int), .int .i64 (dist : Int)] 64 (0, 0)) := (f2.block _ (by simp) (fun e => e)).trans (heap_alloc_new _ _)
          have e1 : w2.cell? ⟨w.heap.size, sl, none⟩ = some (.int .i64 (cv : Int)) := (World.cell?_of_block l2).trans d1
          have fz1 : ∀ i, w2.frozen? ⟨w.heap.size, i, none⟩ = false := fun i => (World.frozen?_of_block l2).trans (free_of_heap KL.out i)
          have x2c : w2.cell? ⟨wr.heap.size, 2, none⟩ = some (.int .i64 (dist : Int)) := cell_of_heap b2 2
          have B2 : Hid _ := b2
          clear b2 hOL
          go_wp2_with fail
          refine Calls.mono (hOD.out _) ?_
          rintro e w3 ⟨rfl, f3⟩
          have f3a : Fr (One w.heap.size) wr w3 := ((f2a.mono (T := One w.heap.size) fun _ _ e => e.elim).setCell (p := ⟨w.heap.size, sl, none⟩) rfl _).trans (f3.mono fun _ _ e => e.elim)
          have l3 : w3.heap[(w.heap.size + 1)]? = wr.heap[(w.heap.size + 1)]? := f3a.block _ hdl (by simp [One])
          have e3 : w3.cell? ⟨(w.heap.size + 1), sd, none⟩ = some (.int .i64 (dv : Int)) := (World.cell?_of_block l3).trans d2
          have fz3 : ∀ i, w3.frozen? ⟨(w.heap.size + 1), i, none⟩ = false := fun i => (World.frozen?_of_block l3).trans (free_of_heap KD.out i)
          have hl3 : w3.heap[w.heap.size]? = some (.cells (ints (ni (tab (cntS (ts.take (k + 1))) 286))) 3 (0, 0)) := (f3.block _ (by have := f2a.size; simp [World.setCell]; omega) (fun e => e)).trans (HS.out w2 l2)
          have HL3 : Hid _ := hl3
          have fN3 : Fr Non w w3 := ((hfr.trans f2a).setNew (p := ⟨w.heap.size, sl, none⟩) (by show w.heap.size ≤ w.heap.size; omega) _).trans f3
          clear hl3 hOD
          go_wp2_with fail
          go_roundw
          case rel => exact ⟨k + 1, by omega, by go_num, (heap_set_other (by omega) _ _).trans HL3.out, HS2.out w3 l3, fN3.setNew (p := ⟨(w.heap.size + 1), sd, none⟩) (by show w.heap.size ≤ (w.heap.size + 1); omega) _⟩
          case measure => simp [intOf]; omega
      · have : k = n := by omega
        subst this
        have hall : ts.take k = ts := List.take_of_length_le (by rw [HN.out]; omega)
        rw [hall] at hl hd
        have d1 := cell_ints hl 256 (by rw [ni_length, tab_length]; omega)
        obtain ⟨z, hz⟩ : ∃ z, wr.cell? ⟨w.heap.size, 256, none⟩ = some (.int .i64 z) := ⟨_, d1⟩
        have fz := free_of_heap hl
        have hset := set_ints hl 256 ((1 : Nat) : Int)
        rw [ni_set] at hset
        have HS : Hid _ := hset
        have KD : Hid _ := hd
        clear hset d1 hl hd
        go_wp2_with fail
        go_ret2
        exact ⟨w.heap.size, (w.heap.size + 1), rfl, HS.out, (heap_set_other (by omega) _ _).trans KD.out, by omega, by omega, by omega, hfr.setNew (p := ⟨w.heap.size, 256, none⟩) (by show w.heap.size ≤ w.heap.size; omega) _⟩
  · obtain ⟨W, hW⟩ : ∃ W, W = ((w.alloc (.cells ZD 3)).alloc (.cells ZL 3)).drew := ⟨_, rfl⟩
    rw [← hW]
    have hs1 : (w.alloc (.cells ZD 3)).heap.size = w.heap.size + 1 := by simp
    have h1 : W.heap[w.heap.size]? = some (.cells ZD 3 (0, 0)) := by
      rw [hW]
      exact (heap_alloc_old (by simp) _).trans (heap_alloc_new _ _)
    have h2 : W.heap[w.heap.size + 1]? = some (.cells ZL 3 (0, 0)) := by
      rw [hW]
      have := heap_alloc_new (w.alloc (.cells ZD 3)) (.cells ZL 3)
      rw [hs1] at this
      exact this
    have f0 : Fr Non w W := by rw [hW]; exact (((Fr.refl _ w).alloc _).alloc _).drew
    clear hW hs1
    rw [HZD.out] at h1
    rw [HZL.out] at h2
    have H1 : Hid _ := h1
    have H2 : Hid _ := h2
    clear h1 h2
    go_wp2_with fail
    go_loopw [13] (fun iv wr => ∃ k : Nat, k ≤ n ∧ iv = .int .i64 k ∧ wr.heap[(w.heap.size + 1)]? = some (.cells (ints (ni (tab (cntS (ts.take k)) 286))) 3 (0, 0)) ∧ wr.heap[w.heap.size]? = some (.cells (ints (ni (tab (cntD (ts.take k)) 30))) 3 (0, 0)) ∧ Fr Non w wr) (fun iv _ => n - (intOf iv).toNat)
    case atStart => exact ⟨0, by omega, rfl, by rw [List.take_zero, tab_nilS]; exact H2.out, by rw [List.take_zero, tab_nilD]; exact H1.out, f0⟩
    case round =>
      obtain ⟨k, hk, rfl, hl, hd, hfr⟩ := hrel
      have hgw : g < wr.heap.size := Nat.lt_of_lt_of_le hg hfr.size
      have hll := lt_of_heap hl
      have hdl := lt_of_heap hd
      by_cases hlt : k < n
      · have hkt : k < ts.length := by rw [HN.out]; exact hlt
        have hTr := TkAt.frN hT hfr
        have a0 := hTr.c0 k hkt
        have a1 := hTr.c1 k hkt
        have a2 := hTr.c2 k hkt
        have hmem : gt ts k ∈ ts := by
          have : gt ts k = ts[k] := by simp [gt, List.getD, hkt]
          rw [this]; exact List.getElem_mem hkt
        have hg1 := hok _ hmem
        have eS := cntS_succ ts k hkt
        have eD := cntD_succ ts k hkt
        have hcb := cntS_le ts k
        have hdb := cntD_le ts k
        obtain ⟨⟨c, len, dist⟩, ht⟩ : ∃ t, gt ts k = t := ⟨_, rfl⟩
        rw [ht] at a0 a1 a2 hg1 eS eD
        simp only at a0 a1 a2
        clear ht hmem
        by_cases hl0 : len = 0
        · subst hl0
          have hc256 : c.toNat < 256 := c.toNat_lt
          have hts : (toTok ⟨c, 0, dist⟩).s = c.toNat := by unfold toTok; rw [if_pos rfl]
          rw [hts] at eS
          clear hts
          have hci : ((c.toNat : Nat) : Int) < 286 := by omega
          have d1 := cell_ints hl c.toNat (by rw [ni_length, tab_length]; omega)
          rw [ni_getD, show (tab (cntS (ts.take k)) 286).getD c.toNat 0 = cntS (ts.take k) c.toNat from gd_tab _ _ _ (by omega)] at d1
          have hset := set_ints hl c.toNat ((cntS (ts.take k) c.toNat + 1 : Nat) : Int)
          rw [ni_set, tab_set _ (cntS (ts.take (k + 1))) 286 c.toNat _ (by omega) (by rw [eS, if_pos rfl]) (fun i _ hne => by rw [eS, if_neg (fun e => hne e.symm)]; rfl)] at hset
          have eD2 : tab (cntD (ts.take k)) 30 = tab (cntD (ts.take (k + 1))) 30 := tab_congr _ _ _ fun i _ => by rw [eD, if_neg (fun e => e.1 rfl)]; rfl
          rw [eD2] at hd
          have hfz := free_of_heap hl
          have hcb2 := hcb c.toNat
          generalize cntS (ts.take k) c.toNat = cv at d1 hset hcb2
          have HS : Hid _ := hset
          have HD : Hid _ := hd
          clear hset hd hl eS eD eD2 hcb hdb
          generalize hcn : c.toNat = cn at *
          go_wp2_with fail
          go_roundw
          case rel => exact ⟨k + 1, by omega, by go_num, (heap_alloc_old (by simp [World.setCell]; omega) _).trans HS.out, (heap_alloc_old (by simp [World.setCell]; omega) _).trans ((heap_set_other (by omega) _ _).trans HD.out), (hfr.setNew (p := ⟨(w.heap.size + 1), cn, none⟩) (by show w.heap.size ≤ (w.heap.size + 1); omega) _).alloc _⟩
          case measure => simp [intOf]; omega
        · obtain ⟨g3, g4, g5, g6⟩ := hg1.resolve_left hl0
          have hl0b : ((len : Int) == 0) = false := by simp; omega
          have hq := (len_spec len g3 g4).2.1
          have hr := (dist_spec dist g5 g6).1
          have hts : (toTok ⟨c, len, dist⟩).s = lS len := by unfold toTok; rw [if_neg hl0]
          rw [hts] at eS
          simp only at eD
          have d1 := cell_ints hl (lS len) (by rw [ni_length, tab_length]; omega)
          rw [ni_getD, show (tab (cntS (ts.take k)) 286).getD (lS len) 0 = cntS (ts.take k) (lS len) from gd_tab _ _ _ (by omega)] at d1
          have hset := set_ints hl (lS len) ((cntS (ts.take k) (lS len) + 1 : Nat) : Int)
          rw [ni_set, tab_set _ (cntS (ts.take (k + 1))) 286 (lS len) _ (by omega) (by rw [eS, if_pos rfl]) (fun i _ hne => by rw [eS, if_neg (fun e => hne e.symm)]; rfl)] at hset
          have d2 := cell_ints hd (dS dist) (by rw [ni_length, tab_length]; omega)
          rw [ni_getD, show (tab (cntD (ts.take k)) 30).getD (dS dist) 0 = cntD (ts.take k) (dS dist) from gd_tab _ _ _ (by omega)] at d2
          have hset2 := set_ints hd (dS dist) ((cntD (ts.take k) (dS dist) + 1 : Nat) : Int)
          rw [ni_set, tab_set _ (cntD (ts.take (k + 1))) 30 (dS dist) _ (by omega) (by rw [eD, if_pos ⟨hl0, rfl⟩]) (fun i _ hne => by rw [eD, if_neg (fun e => hne e.2.symm)]; rfl)] at hset2
          have hcb2 := hcb (lS len)
          have hdb2 := hdb (dS dist)
          have hOL : Hid _ := ofLength_any len (wr.alloc (.cells #[.int .u8 ((c.toNat : Nat) : Int), .int .i64 (len : Int), .int .i64 (dist : Int)] 64)) g3 g4
          have hOD : Hid (∀ W, Calls Tryd.prog 54 #[.int .i64 (dist : Int)] W fun e w' => e = .returned (.tuple #[.int .i64 (dS dist : Nat), .int .i64 (dR dist : Nat), .int .i64 (distM (dS dist) : Nat)]) ∧ Fr Non W w') := fun W => ofDistance_any dist W g5 g6
          generalize cntS (ts.take k) (lS len) = cv at d1 hset hcb2
          generalize cntD (ts.take k) (dS dist) = dv at d2 hset2 hdb2
          generalize lS len = sl at d1 hset hq hOL
          generalize dS dist = sd at d2 hset2 hr hOD
          generalize lR len = x1 at hOL
          generalize lenM sl = x2 at hOL
          generalize dR dist = x3 at hOD
          generalize distM sd = x4 at hOD
          have HS : Hid (∀ W : World, W.heap[(w.heap.size + 1)]? = wr.heap[(w.heap.size + 1)]? → (W.setCell ⟨(w.heap.size + 1), sl, none⟩ (.int .i64 ((cv : Int) + 1))).heap[(w.heap.size + 1)]? = some (.cells (ints (ni (tab (cntS (ts.take (k + 1))) 286))) 3 (0, 0))) := fun W hW => by
            have e9 := heap_set (hW.trans hl) sl (.int .i64 ((cv : Int) + 1))
            have e8 := heap_set hl sl (.int .i64 ((cv : Int) + 1))
            rw [e9, ← e8]
            exact hset
          have HS2 : Hid (∀ W : World, W.heap[w.heap.size]? = wr.heap[w.heap.size]? → (W.setCell ⟨w.heap.size, sd, none⟩ (.int .i64 ((dv : Int) + 1))).heap[w.heap.size]? = some (.cells (ints (ni (tab (cntD (ts.take (k + 1))) 30))) 3 (0, 0))) := fun W hW => by
            have e9 := heap_set (hW.trans hd) sd (.int .i64 ((dv : Int) + 1))
            have e8 := heap_set hd sd (.int .i64 ((dv : Int) + 1))
            rw [e9, ← e8]
            exact hset2
          have KL : Hid _ := hl
          have KD : Hid _ := hd
          clear hset hset2 hl hd eS eD hcb hdb hts
          have isl : (sl : Int) < 286 := by omega
          have isd : (sd : Int) < 30 := by omega
          go_wp2_with fail
          refine Calls.mono hOL.out ?_
          rintro e w2 ⟨rfl, f2⟩
          have f2a : Fr Non wr w2 := ((Fr.refl _ wr).alloc _).trans f2
          have l2 : w2.heap[(w.heap.size + 1)]? = wr.heap[(w.heap.size + 1)]? := f2a.block _ hll (fun e => e)
          have b2 : w2.heap[wr.heap.size]? = some (.cells #[.int .u8 ((c.toNat : Nat) : Int), .int .i64 (len : Int), .int .i64 (dist : Int)] 64 (0, 0)) := (f2.block _ (by simp) (fun e => e)).trans (heap_alloc_new _ _)
          have e1 : w2.cell? ⟨(w.heap.size + 1), sl, none⟩ = some (.int .i64 (cv : Int)) := (World.cell?_of_block l2).trans d1
          have fz1 : ∀ i, w2.frozen? ⟨(w.heap.size + 1), i, none⟩ = false := fun i => (World.frozen?_of_block l2).trans (free_of_heap KL.out i)
          have x2c : w2.cell? ⟨wr.heap.size, 2, none⟩ = some (.int .i64 (dist : Int)) := cell_of_heap b2 2
          have B2 : Hid _ := b2
          clear b2 hOL
          go_wp2_with fail
          refine Calls.mono (hOD.out _) ?_
          rintro e w3 ⟨rfl, f3⟩
          have f3a : Fr (One (w.heap.size + 1)) wr w3 := ((f2a.mono (T := One (w.heap.size + 1)) fun _ _ e => e.elim).setCell (p := ⟨(w.heap.size + 1), sl, none⟩) rfl _).trans (f3.mono fun _ _ e => e.elim)
          have l3 : w3.heap[w.heap.size]? = wr.heap[w.heap.size]? := f3a.block _ hdl (by simp [One])
          have e3 : w3.cell? ⟨w.heap.size, sd, none⟩ = some (.int .i64 (dv : Int)) := (World.cell?_of_block l3).trans d2
          have fz3 : ∀ i, w3.frozen? ⟨w.heap.size, i, none⟩ = false := fun i => (World.frozen?_of_block l3).trans (free_of_heap KD.out i)
          have hl3 : w3.heap[(w.heap.size + 1)]? = some (.cells (ints (ni (tab (cntS (ts.take (k + 1))) 286))) 3 (0, 0)) := (f3.block _ (by have := f2a.size; simp [World.setCell]; omega) (fun e => e)).trans (HS.out w2 l2)
          have HL3 : Hid _ := hl3
          have fN3 : Fr Non w w3 := ((hfr.trans f2a).setNew (p := ⟨(w.heap.size + 1), sl, none⟩) (by show w.heap.size ≤ (w.heap.size + 1); omega) _).trans f3
          clear hl3 hOD
          go_wp2_with fail
          go_roundw
          case rel => exact ⟨k + 1, by omega, by go_num, (heap_set_other (by omega) _ _).trans HL3.out, HS2.out w3 l3, fN3.setNew (p := ⟨w.heap.size, sd, none⟩) (by show w.heap.size ≤ w.heap.size; omega) _⟩
          case measure => simp [intOf]; omega
      · have : k = n := by omega
        subst this
        have hall : ts.take k = ts := List.take_of_length_le (by rw [HN.out]; omega)
        rw [hall] at hl hd
        have d1 := cell_ints hl 256 (by rw [ni_length, tab_length]; omega)
        obtain ⟨z, hz⟩ : ∃ z, wr.cell? ⟨(w.heap.size + 1), 256, none⟩ = some (.int .i64 z) := ⟨_, d1⟩
        have fz := free_of_heap hl
        have hset := set_ints hl 256 ((1 : Nat) : Int)
        rw [ni_set] at hset
        have HS : Hid _ := hset
        have KD : Hid _ := hd
        clear hset d1 hl hd
        go_wp2_with fail
        go_ret2
        exact ⟨(w.heap.size + 1), w.heap.size, rfl, HS.out, (heap_set_other (by omega) _ _).trans KD.out, by omega, by omega, by omega, hfr.setNew (p := ⟨(w.heap.size + 1), 256, none⟩) (by show w.heap.size ≤ (w.heap.size + 1); omega) _⟩

end Go.Proofs.YtdpobjgfnhjagaaDoor

namespace Go.Proofs.YtdpobjgfnhjagaaDoor
open Go.RowKit

/-- The lengths in the order in which they are told. -/
def toldL (L : List Nat) (i : Nat) : Nat := gd L (ordL.getD i 0)

set_option maxRecDepth 100000 in
set_option maxHeartbeats 1000000 in
theorem ordered_any (g o cap : Nat) (L : List Nat) (w : World) (hL : IntsAt w g o (ni L)) (hn : L.length = 19) (hO : OrdAt w) :
    Calls Tryd.prog 62 #[.slice (some ⟨g, o, none⟩) 19 cap] w fun e w' => e = .returned (.slice (some ⟨w.heap.size, 0, none⟩) 19 19) ∧ w'.heap[w.heap.size]? = some (.cells (ints (ni (tab (toldL L) 19))) 3 (0, 0)) ∧ Below w.heap.size w w' := by
  obtain ⟨i0, hi, hz0, hz1, hz2⟩ := info_parts info3
  have hg := hL.lt
  have hpos : 0 < w.heap.size := by omega
  have HN : Hid (L.length = 19) := hn
  clear hn
  go_enter Tryd.func62, Tryd.ntmps62
  go_wp2_with (at_make; refine wpList_make_full _ rfl _ _ 36 rfl w.heap.size 3 i0 (.int .i64 0) 1 underlying36 hi hz0 hz1 .i64 .i64 19 19 19 rfl rfl rfl rfl ?b1 ?b2 ?b3 ?go)
  case b1 => rw [hz2]; omega
  case b2 => unfold maxLen; omega
  case b3 => simp
  case go =>
    intro w1 hown hg1
    have hh := owns_full hown
    have hfr : Below w.heap.size w w1 := (Below.refl _ _).grown hg1 (Nat.le_refl _) (fun k e => by cases e)
    clear hown hg1
    rw [made_zero 19] at hh
    have hz0N : (List.replicate 19 (0 : Int)) = ni (List.replicate 19 0) := by simp [ni]
    have hh2 : w1.heap[w.heap.size]? = some (.cells (ints (ni (tab (fun i => if i < 0 then toldL L i else 0) 19))) 3 (0, 0)) := by
      rw [hh]; rw [tab_congr (fun i => if i < 0 then toldL L i else 0) (fun _ => 0) 19 (fun i _ => by rw [if_neg (by omega)]), ← tab_zero, ← hz0N]
    clear hh hz0N
    have HH : Hid _ := hh2; clear hh2
    go_wp2_with fail
    go_loopw [10] (fun kv wr => ∃ k : Nat, k ≤ 19 ∧ kv = .int .i64 k ∧ wr.heap[w.heap.size]? = some (.cells (ints (ni (tab (fun i => if i < k then toldL L i else 0) 19))) 3 (0, 0)) ∧ Below w.heap.size w wr) (fun kv _ => 19 - (intOf kv).toNat)
    case atStart => exact ⟨0, by omega, rfl, HH.out, hfr⟩
    case round =>
      obtain ⟨k, hk, rfl, hh, hf⟩ := hrel
      by_cases hlt : k < 19
      · have hOr := hO.below hf hpos
        have hoc := Ordered_any k
        have hol := ord_lt k
        have htk : toldL L k = gd L (ordL.getD k 0) := rfl
        obtain ⟨q, hq⟩ : ∃ q, Hid (ordL.getD k 0 = q) := ⟨_, rfl⟩
        rw [hq.out] at hol htk
        have hql : q < 19 := hol
        have hqi : (q : Int) < 19 := by omega
        have hgc : wr.cell? ⟨g, o + q, none⟩ = some (.int .i64 ((gd L q : Nat) : Int)) := by
          have := (hL.below hf hg).cell q (by rw [ni_length, HN.out]; exact hql)
          rw [ni_getD] at this
          exact this
        obtain ⟨cv, hcv⟩ : ∃ cv, wr.cell? ⟨w.heap.size, k, none⟩ = some (.int .i64 cv) := ⟨_, cell_ints hh k (by rw [ni_length, tab_length]; exact hlt)⟩
        have hset := set_ints hh k ((gd L q : Nat) : Int)
        rw [ni_set, tab_set _ (fun i => if i < k + 1 then toldL L i else 0) 19 k _ hlt (by rw [if_pos (by omega), htk]) (fun i _ hne => by
          by_cases c : i < k
          · rw [if_pos c, if_pos (by omega)]
          · rw [if_neg c, if_neg (by omega)])] at hset
        have hz := free_of_heap hh
        clear htk
        generalize gd L q = x at hgc hset
        have HS : Hid _ := hset; clear hset
        have HK : Hid _ := hh; clear hh
        have HOC : Hid (∀ w, OrdAt w → k < 19 → Calls Tryd.prog 80 #[.int .i64 k] w fun e w' => e = .returned (.int .i64 (ordL.getD k 0 : Nat)) ∧ w' = w) := hoc; clear hoc hol
        have hki : (k : Int) < 19 := by omega
        go_wp2_with fail
        refine Calls.mono (HOC.out _ (by exact hOr) (by omega)) ?_
        rintro e w' ⟨rfl, rfl⟩
        rw [hq.out]
        go_wp2_with fail
        go_roundw
        case rel => exact ⟨k + 1, by omega, by go_num, HS.out, hf.setCell (p := ⟨w.heap.size, k, none⟩) (Nat.le_refl _) _⟩
        case measure => simp [intOf]; omega
      · have : k = 19 := by omega
        subst this
        rw [tab_congr (fun i => if i < 19 then toldL L i else 0) (toldL L) 19 (fun i hi => by rw [if_pos hi])] at hh
        have HK : Hid _ := hh; clear hh
        go_wp2_with fail
        go_ret
        exact ⟨rfl, HK.out, hf⟩
end Go.Proofs.YtdpobjgfnhjagaaDoor

namespace Go.Proofs.YtdpobjgfnhjagaaDoor
open Go.RowKit

set_option maxRecDepth 100000 in
set_option maxHeartbeats 1000000 in
theorem grow_nil (n : Nat) (w : World) (h0 : 0 < n) (hn : n ≤ 1000) :
    Calls Tryd.prog 63 #[.slice none 0 0, .int .i64 (n : Int)] w fun e w' => ∃ c, n ≤ c ∧ c ≤ maxLen ∧ e = .returned (.slice (some ⟨w.heap.size, 0, none⟩) 0 c) ∧ w'.heap[w.heap.size]? = some (.cells (ints (List.replicate c 0)) 3 (0, 0)) ∧ Below w.heap.size w w' := by
  obtain ⟨i0, hi, hz0, hz1, hz2⟩ := info_parts info3
  have hr : ∀ ty, (Builtin.append_ #[36, 3] ty #[.slice none 0 0, .int .i64 (n : Int)]).run Tryd.prog w = .ok (.slice (some ⟨w.heap.size, 0, none⟩) n (grownCap w n 0 3)) (w.drew.alloc (.cells (Builtin.zeroCells (Value.int .i64 0).cells n ++ Builtin.zeroCells (Value.int .i64 0).cells (grownCap w n 0 3 - n)) 3)) := fun ty =>
    Lib.run_append_nil_zeros (P := Tryd.prog) w 36 3 ty 3 i0 (.int .i64 0) .i64 .i64 underlying36 Tryd.underlying3 hi hz0 n h0 (by omega) (by omega) (by rw [hz2]; omega)
  have hge : n ≤ grownCap w n 0 3 := grownCap_ge w _ 0 3
  have hle : grownCap w n 0 3 ≤ maxLen := grownCap_le_maxLen w _ 0 3 (by unfold maxLen; omega)
  have hZ : Builtin.zeroCells (Value.int .i64 0).cells n ++ Builtin.zeroCells (Value.int .i64 0).cells (grownCap w n 0 3 - n) = ints (List.replicate (grownCap w n 0 3) 0) := by
    generalize grownCap w n 0 3 = c at hge
    apply Array.ext
    · simp [size_zeroCells, Value.cells, ints]; omega
    · intro i h1 h2
      simp [Builtin.zeroCells, Value.cells, ints, Array.getElem_append, Nat.mod_one]
  rw [hZ] at hr
  clear hZ
  generalize grownCap w n 0 3 = c at hr hge hle
  have hcm : c ≤ 9223372036854775807 := by unfold maxLen at hle; omega
  have HL : Hid (c ≤ maxLen) := hle
  clear hle
  go_enter Tryd.func63, Tryd.ntmps63
  go_wp2_with (at_builtin; refine Lib.wpList_append_run _ rfl _ _ _ _ rfl _ _ rfl rfl _ _ (hr _) ?_)
  go_ret
  refine ⟨c, hge, HL.out, rfl, ?_, ?_⟩
  · exact heap_alloc_new w.drew _
  · exact ((Below.refl _ w).drew).alloc (Nat.le_refl _) _
end Go.Proofs.YtdpobjgfnhjagaaDoor

namespace Go.Proofs.YtdpobjgfnhjagaaDoor
open Go.RowKit

/-- The first k rows, one behind the other. -/
def catK (R : Nat → List Nat) : Nat → List Nat
  | 0 => []
  | k + 1 => catK R k ++ R k

theorem owns_grown {w : World} {g c : Nat} (h : w.heap[g]? = some (.cells (ints (List.replicate c 0)) 3 (0, 0))) (hc : c ≤ maxLen) : w.ownsRow g 3 1 (.slice (some ⟨g, 0, none⟩) 0 c) 0 (iv []) := by
  refine ⟨rfl, Or.inr ⟨g, c, ints (List.replicate c 0), rfl, Nat.le_refl _, h, by omega, hc, by simp [ints], ?_⟩⟩
  simp [iv, ni]

set_option maxRecDepth 100000 in
set_option maxHeartbeats 1000000 in
theorem concat_any (p : Nat) (G O N C : Nat → Nat) (R : Nat → List Nat) (w : World) (hp : p < w.heap.size) (hc : ∀ k, k < 2 → w.cell? ⟨p, k, none⟩ = some (.slice (some ⟨G k, O k, none⟩) (N k) (C k)))
    (hl : ∀ k, (R k).length = N k) (hN : ∀ k, N k ≤ 400) (h0 : 0 < N 0) (hR : ∀ k, k < 2 → IntsAt w (G k) (O k) (ni (R k))) :
    Calls Tryd.prog 39 #[.slice (some ⟨p, 0, none⟩) 2 2] w fun e w' => ∃ v, e = .returned v ∧ w'.ownsRow w.heap.size 3 1 v (catK R 2).length (iv (catK R 2)) ∧ Below w.heap.size w w' := by
  obtain ⟨i0, hi, hz0, hz1, hz2⟩ := info_parts info3
  have hlen : ∀ k, (catK R (k + 1)).length = (catK R k).length + N k := fun k => by
    show (catK R k ++ R k).length = _
    rw [List.length_append, hl]
  have hz : (catK R 0).length = 0 := rfl
  have l1 : (catK R 1).length = (catK R 0).length + N 0 := hlen 0
  have l2 : (catK R 2).length = (catK R 1).length + N 1 := hlen 1
  have m0 := hN 0
  have m1 := hN 1
  have hle : ∀ k, k ≤ 2 → (catK R k).length ≤ 800 := fun k hk => by
    rcases (show k = 0 ∨ k = 1 ∨ k = 2 by omega) with rfl | rfl | rfl <;> omega
  have hpos : 0 < (catK R 2).length := by omega
  clear l1 l2 m0 m1 hz
  go_enter Tryd.func39, Tryd.ntmps39
  go_wp2_with fail
  go_loopw [3, 11] (fun sv kv wr => ∃ k : Nat, k ≤ 2 ∧ kv = .int .i64 k ∧ sv = .int .i64 ((catK R k).length : Nat) ∧ w = wr) (fun _ kv _ => 2 - (intOf kv).toNat)
  case atStart => exact ⟨0, by omega, rfl, rfl, rfl⟩
  case round =>
    obtain ⟨k, hk, rfl, rfl, rfl⟩ := hrel
    by_cases hlt : k < 2
    · have hck := hc k hlt
      have hlk := hlen k
      have hl1 := hle (k + 1) (by omega)
      have hki : (k : Int) < 2 := by omega
      have hn0 : ¬ ((((catK R k).length : Nat) : Int) + ((N k : Nat) : Int) < 0) := by omega
      generalize hq : (catK R k).length = q at hlk hn0
      have hw1 : IntKind.i64.wrap ((q : Int) + ((N k : Nat) : Int)) = (q : Int) + ((N k : Nat) : Int) := by rw [IntKind.wrap_i64]; omega
      go_wp2_with fail
      go_roundw
      case rel => exact ⟨k + 1, by omega, by go_num, by rw [hlk]; go_num, trivial⟩
      case measure => simp [intOf]; omega
    · have : k = 2 := by omega
      subst this
      have hl2 := hle 2 (by omega)
      generalize hT : (catK R 2).length = T at hl2 hpos
      have HT : Hid _ := hT; clear hT
      go_wp2_with fail
      refine Calls.mono (grow_nil T _ hpos (by omega)) ?_
      rintro e w1 ⟨c, hc1, hc2, rfl, hh, hb1⟩
      have hown := owns_grown hh hc2
      clear hh
      have HO : Hid (w1.ownsRow w.heap.size 3 1 (.slice (some ⟨w.heap.size, 0, none⟩) 0 c) (catK R 0).length (iv (catK R 0))) := hown; clear hown
      have HC : Hid (∀ k, k < 2 → w.cell? ⟨p, k, none⟩ = some (.slice (some ⟨G k, O k, none⟩) (N k) (C k))) := hc
      clear hc
      go_wp2_with fail
      go_loopw [6, 27] (fun sv kv w2 => ∃ k : Nat, k ≤ 2 ∧ kv = .int .i64 k ∧ Hid (w2.ownsRow w.heap.size 3 1 sv (catK R k).length (iv (catK R k))) ∧ Below w.heap.size w w2) (fun _ kv _ => 2 - (intOf kv).toNat)
      case atStart => exact ⟨0, by omega, rfl, HO, hb1⟩
      case round =>
        obtain ⟨k, hk, rfl, hO, hbel⟩ := hrel
        obtain ⟨ao, cp, rfl⟩ := owns_slice hO.out
        by_cases hlt : k < 2
        · have hck : wr.cell? ⟨p, k, none⟩ = some (.slice (some ⟨G k, O k, none⟩) (N k) (C k)) := (hbel.cell (p := ⟨p, k, none⟩) hp).trans (HC.out k hlt)
          have hRk := hR k hlt
          have hgk := hRk.lt
          have hRw := hRk.below hbel hgk
          have hl1 := hle (k + 1) (by omega)
          have hlk := hlen k
          have hki : (k : Int) < 2 := by omega
          have hbs := hbel.size
          have HL : Hid ((R k).length = N k) := hl k
          have HA : Hid (iv (catK R (k + 1)) = iv (catK R k) ++ iv (R k)) := iv_append _ _
          have HW : Hid _ := hRw; clear hRw hRk
          generalize hq : (catK R k).length = q at hlk hO
          generalize hq2 : (catK R (k + 1)).length = q2 at hlk hl1
          go_wp2_with (at_builtin; refine wpList_append_own _ rfl (.tmp 31) (.tmp 32) 36 rfl w.heap.size 3 i0 (.int .i64 0) 1 8 underlying36 hi hz0 hz1 hz2 rfl (by decide) (.slice ao q cp) q (iv (catK R k)) rfl ?own ⟨G k, O k, none⟩ (N k) (C k) (iv (R k)) rfl ?len ?c1 ?c2 ?b1 ?b2 ?b3 ?grow)
          case own => exact hO.out
          case len => rw [Nat.mul_one, iv_length]; exact HL.out
          case c1 =>
            intro j u hj
            have hjl : j < (R k).length := by
              by_cases hj2 : j < (R k).length
              · exact hj2
              · rw [List.getElem?_eq_none (by rw [iv_length]; omega)] at hj; cases hj
            have hcj := HW.out.cell j (by rw [ni_length]; exact hjl)
            rw [ni_getD] at hcj
            have e : (iv (R k))[j]? = some (.int .i64 (((R k).getD j 0 : Nat) : Int)) := by simp [iv, ni, List.getD, hjl]
            rw [e] at hj
            have ea : (⟨G k, O k, none⟩ : Addr).add j = ⟨G k, O k + j, none⟩ := by simp [Addr.add]
            rw [ea, ← Option.some.inj hj]
            exact hcj
          case c2 =>
            intro u hu
            simp only [iv, List.mem_map] at hu
            obtain ⟨_, _, rfl⟩ := hu
            rfl
          case b1 => unfold maxLen; omega
          case b2 => omega
          case b3 => omega
          case grow =>
            intro v' w5 ho5 hg5 _
            have hb5 : Below w.heap.size w w5 := hbel.grown hg5 (by omega) (fun q e => by have := (owns_block hO.out e).1; omega)
            rw [← HA.out, ← hlk, ← hq2] at ho5
            have HO5 : Hid _ := ho5; clear ho5
            go_wp2_with fail
            go_roundw
            case rel => exact ⟨k + 1, by omega, by go_num, HO5, hb5⟩
            case measure => simp [intOf]; omega
        · have : k = 2 := by omega
          subst this
          go_wp2_with fail
          go_ret
          exact ⟨_, rfl, hO.out, hbel⟩
end Go.Proofs.YtdpobjgfnhjagaaDoor

namespace Go.Proofs.YtdpobjgfnhjagaaDoor
open Go.RowKit

theorem rowCell {w : World} {g o : Nat} {L : List Nat} (h : IntsAt w g o (ni L)) (i : Nat) (hi : i < L.length) : w.cell? ⟨g, o + i, none⟩ = some (.int .i64 ((gd L i : Nat) : Int)) := by
  have := h.cell i (by rw [ni_length]; exact hi)
  rw [ni_getD] at this
  exact this

set_option maxRecDepth 100000 in
set_option maxHeartbeats 1000000 in
theorem alikeFrom_walk (g o n cap at_ : Nat) (w : World) (f : Nat → Nat) (hc : ∀ i, i < n → w.cell? ⟨g, o + i, none⟩ = some (.int .i64 ((f i : Nat) : Int))) (hn2 : n ≤ 1000) (hat : at_ < n) :
    Calls Tryd.prog 89 #[.slice (some ⟨g, o, none⟩) n cap, .int .i64 (at_ : Int)] w fun e w' => ∃ s : Nat, e = .returned (.int .i64 (s : Int)) ∧ 1 ≤ s ∧ at_ + s ≤ n ∧ (∀ k, k < s → f (at_ + k) = f at_) ∧ (at_ + s < n → f (at_ + s) ≠ f at_) ∧ ∃ nq, w' = w.drewN nq := by
  have c0 := hc at_ hat
  have HC : Hid (∀ i, i < n → w.cell? ⟨g, o + i, none⟩ = some (.int .i64 ((f i : Nat) : Int))) := hc
  clear hc
  go_enter Tryd.func89, Tryd.ntmps89
  go_wp2_with fail
  go_loopw [5] (fun i wr => ∃ s nq : Nat, i = .int .i64 s ∧ 1 ≤ s ∧ at_ + s ≤ n ∧ Hid (∀ k, k < s → f (at_ + k) = f at_) ∧ wr = w.drewN nq) (fun i _ => n - (intOf i).toNat)
  case atStart => exact ⟨1, 0, rfl, by omega, by omega, fun k hk => by rw [show k = 0 by omega, Nat.add_zero], rfl⟩
  case round =>
    obtain ⟨s, nq, rfl, h1, h2, hall, rfl⟩ := hrel
    have wr1 : IntKind.i64.wrap ((at_ : Int) + (s : Int)) = (at_ : Int) + (s : Int) := by rw [IntKind.wrap_i64]; omega
    have i0 : (at_ : Int) < (n : Int) := by omega
    by_cases hlt : at_ + s < n
    · have c1 := HC.out (at_ + s) hlt
      obtain ⟨x, hx⟩ : ∃ x, f at_ = x := ⟨_, rfl⟩
      obtain ⟨y, hy⟩ : ∃ y, f (at_ + s) = y := ⟨_, rfl⟩
      rw [hx] at c0
      rw [hy] at c1
      have HX : Hid _ := hx
      have HY : Hid _ := hy
      clear hx hy
      have i1 : (at_ : Int) + (s : Int) < (n : Int) := by omega
      have i1b : decide ((at_ : Int) + (s : Int) < (n : Int)) = true := decide_eq_true i1
      by_cases hxy : y = x
      · subst hxy
        go_wp2_with fail
        go_quiet (fail)
        go_wp2_with fail
        go_roundw
        case rel =>
          refine ⟨s + 1, _, by go_num, by omega, by omega, fun k hk => ?_, rfl⟩
          by_cases e : k = s
          · rw [e, HX.out, HY.out]
          · exact hall.out k (by omega)
        case measure => simp [intOf]; omega
      · have hne : (((y : Nat) : Int) == ((x : Nat) : Int)) = false := by simp; omega
        go_wp2_with fail
        go_quiet (fail)
        go_wp2_with fail
        go_ret
        exact ⟨s, rfl, h1, h2, hall.out, fun _ => by rw [HX.out, HY.out]; exact hxy, _, World.drewN_drewN ..⟩
    · have i1b : decide ((at_ : Int) + (s : Int) < (n : Int)) = false := decide_eq_false (by omega)
      go_wp2_with fail
      go_quiet (fail)
      go_wp2_with fail
      go_ret
      exact ⟨s, rfl, h1, h2, hall.out, fun h => absurd h hlt, _, World.drewN_drewN ..⟩


/-- A symbol that tells lengths of a row, from a place on. -/
structure RunOk (f : Nat → Nat) (n at_ s ex t : Nat) : Prop where
  t1 : 1 ≤ t
  fits : at_ + t ≤ n
  told : t = (if s = 16 then 3 + ex else if s = 17 then 3 + ex else if s = 18 then 11 + ex else 1)
  exl : ex < 2 ^ (if s = 16 then 2 else if s = 17 then 3 else if s = 18 then 7 else 0)
  sl : s < 19
  s16 : s = 16 → 0 < at_
  val : ∀ k, k < t → f (at_ + k) = (if s = 16 then f (at_ - 1) else if s = 17 then 0 else if s = 18 then 0 else s)
  gr : f at_ = 0 → ∃ S, 1 ≤ S ∧ at_ + S ≤ n ∧ (∀ k, k < S → f (at_ + k) = 0) ∧ (at_ + S < n → f (at_ + S) ≠ 0) ∧ ((t = 138 ∧ 138 ≤ S) ∨ t = S ∨ (t = 1 ∧ S = 2))

theorem results_row_tmp {P : Program} {fn : Func} {p u : Tmp} {ty : TypeId} (h : fn.results = #[.cell p ty, .tmp u]) (tmps : Array Value) (w : World) (g : Nat) (t : TypeId) (cs : Array Value) (fr : Nat × Nat) (d : TypeDesc)
    (hp : tmps.getD p undef = .pointer (some ⟨g, 0, none⟩)) (hg : w.heap[g]? = some (.cells cs t fr))
    (hu : P.underlying ty = some d) (hd : (match d with | .struct _ | .array _ _ => true | _ => false) = true) (hi : (P.info? ty).map (·.size) = some cs.size) :
    (results fn tmps).run P w = .ok (.tuple #[.agg cs, tmps.getD u undef]) w := by
  have hp' : tmps[p]?.getD undef = .pointer (some ⟨g, 0, none⟩) := by simpa using hp
  simp [results, h, hp', asAddr, run_loadVar_row w g t ty cs fr d hg hu hd hi]

set_option maxRecDepth 100000 in
set_option maxHeartbeats 600000 in
theorem runAt_walk (g o n cap at_ : Nat) (w : World) (f : Nat → Nat) (hc : ∀ i, i < n → w.cell? ⟨g, o + i, none⟩ = some (.int .i64 ((f i : Nat) : Int))) (hg : g < w.heap.size) (hn2 : n ≤ 1000) (hat : at_ < n) (h16 : f at_ < 16) :
    Calls Tryd.prog 79 #[.slice (some ⟨g, o, none⟩) n cap, .int .i64 (at_ : Int)] w fun e w' => ∃ s ex more t : Nat, e = .returned (.tuple #[.agg #[.int .i64 (s : Int), .int .i64 (ex : Int), .int .i64 (more : Int)], .int .i64 (t : Int)]) ∧ RunOk f n at_ s ex t ∧ more = (if s = 16 then 2 else if s = 17 then 3 else if s = 18 then 7 else 0) ∧ Fr Non w w' := by
  have c0 := hc at_ hat
  have hal : Calls Tryd.prog 89 #[.slice (some ⟨g, o, none⟩) n cap, .int .i64 (at_ : Int)] (w.alloc (.cells #[.int .i64 0, .int .i64 0, .int .i64 0] 100)) fun e w' => ∃ s : Nat, e = .returned (.int .i64 (s : Int)) ∧ 1 ≤ s ∧ at_ + s ≤ n ∧ (∀ k, k < s → f (at_ + k) = f at_) ∧ (at_ + s < n → f (at_ + s) ≠ f at_) ∧ ∃ nq, w' = (w.alloc (.cells #[.int .i64 0, .int .i64 0, .int .i64 0] 100)).drewN nq :=
    alikeFrom_walk g o n cap at_ _ f (fun i hi => (World.cell?_of_block (heap_alloc_old hg _)).trans (hc i hi)) hn2 hat
  have HC : Hid (∀ i, i < n → w.cell? ⟨g, o + i, none⟩ = some (.int .i64 ((f i : Nat) : Int))) := hc
  have HAL : Hid _ := hal
  obtain ⟨x, hx⟩ : ∃ x, f at_ = x := ⟨_, rfl⟩
  rw [hx] at c0 h16
  have HX : Hid _ := hx
  clear hc hal hx
  have i0 : (at_ : Int) < (n : Int) := by omega
  go_enter Tryd.func79, Tryd.ntmps79
  go_wp2_with fail
  refine Calls.mono HAL.out ?_
  rintro e w1 ⟨s, rfl, h1, h2, hall, hmax, nq, hw1⟩
  have HALL : Hid _ := hall
  have HZ : Hid (x = 0 → ∀ t : Nat, ((t = 138 ∧ 138 ≤ s) ∨ t = s ∨ (t = 1 ∧ s = 2)) → f at_ = 0 → ∃ S, 1 ≤ S ∧ at_ + S ≤ n ∧ (∀ k, k < S → f (at_ + k) = 0) ∧ (at_ + S < n → f (at_ + S) ≠ 0) ∧ ((t = 138 ∧ 138 ≤ S) ∨ t = S ∨ (t = 1 ∧ S = 2))) := fun _ t ht h0 => ⟨s, h1, h2, fun k hk => (hall k hk).trans h0, fun hlt => by have := hmax hlt; rw [h0] at this; exact this, ht⟩
  have HB : Hid (w1.heap[w.heap.size]? = some (.cells #[.int .i64 0, .int .i64 0, .int .i64 0] 100 (0, 0))) := by rw [hw1]; exact heap_alloc_new _ _
  have fr1 : Fr Non w w1 := by rw [hw1]; exact ((Fr.refl Non w).alloc _).trans (fr_drewN _ nq)
  have hcw : Hid (∀ i, i < n → w1.cell? ⟨g, o + i, none⟩ = some (.int .i64 ((f i : Nat) : Int))) := fun i hi => (fr1.cell (p := ⟨g, o + i, none⟩) hg (fun e => e)).trans (HC.out i hi)
  have c1 : w1.cell? ⟨g, o + at_, none⟩ = some (.int .i64 ((x : Nat) : Int)) := by rw [← HX.out]; exact hcw.out at_ hat
  have e0 : w1.cell? ⟨w.heap.size, 0, none⟩ = some (.int .i64 0) := cell_of_heap HB.out 0
  have e1 : w1.cell? ⟨w.heap.size, 1, none⟩ = some (.int .i64 0) := cell_of_heap HB.out 1
  have e2 : w1.cell? ⟨w.heap.size, 2, none⟩ = some (.int .i64 0) := cell_of_heap HB.out 2
  have fz := free_of_heap HB.out
  have hgl1 : g < w1.heap.size := Nat.lt_of_lt_of_le hg fr1.size
  have hne : ¬ g = w.heap.size := by omega
  clear hall hmax HAL hw1 c0
  have big : x = 0 → 11 ≤ s → ∀ t : Nat, t = min s 138 → RunOk f n at_ 18 (t - 11) t := fun hx h t ht => ⟨by omega, by omega, by simp; omega, by simp; omega, by omega, fun h => by omega, fun k hk => by rw [HALL.out k (by omega), HX.out, hx]; rfl, HZ.out hx t (by omega)⟩
  have mid : x = 0 → 3 ≤ s → s < 11 → RunOk f n at_ 17 (s - 3) s := fun hx h h' => ⟨by omega, by omega, by simp; omega, by simp; omega, by omega, fun h => by omega, fun k hk => by rw [HALL.out k (by omega), HX.out, hx]; rfl, HZ.out hx s (by omega)⟩
  have rep : x ≠ 0 → 0 < at_ → f (at_ - 1) = x → 3 ≤ s → ∀ t : Nat, t = min s 6 → RunOk f n at_ 16 (t - 3) t := fun hne ha hx h t ht => ⟨by omega, by omega, by simp; omega, by simp; omega, by omega, fun _ => ha, fun k hk => by rw [HALL.out k (by omega), HX.out, ← hx]; rfl, fun h0 => absurd (HX.out.symm.trans h0) hne⟩
  have one : (x = 0 → s ≤ 2) → RunOk f n at_ x 0 1 := fun hz2 => ⟨by omega, by omega, by rw [if_neg (by omega), if_neg (by omega), if_neg (by omega)], Nat.pow_pos (by omega), by omega, fun h => by omega, fun k hk => by rw [show k = 0 by omega, Nat.add_zero, HX.out, if_neg (by omega), if_neg (by omega), if_neg (by omega)], fun h0 => HZ.out (HX.out.symm.trans h0) 1 (by have := hz2 (HX.out.symm.trans h0); omega) h0⟩
  have BIG : Hid _ := big
  have MID : Hid _ := mid
  have REP : Hid _ := rep
  have ONE : Hid _ := one
  clear big mid rep one
  have lit : (x = 0 → s ≤ 2) → ∃ s ex more t : Nat, (Ending.returned (.tuple #[.agg #[.int .i64 (x : Int), .int .i64 0, .int .i64 0], .int .i64 1]) = .returned (.tuple #[.agg #[.int .i64 (s : Int), .int .i64 (ex : Int), .int .i64 (more : Int)], .int .i64 (t : Int)])) ∧ RunOk f n at_ s ex t ∧ more = (if s = 16 then 2 else if s = 17 then 3 else if s = 18 then 7 else 0) := fun hz2 => ⟨x, 0, 0, 1, rfl, ONE.out hz2, by rw [if_neg (by omega), if_neg (by omega), if_neg (by omega)]⟩
  have LIT : Hid _ := lit
  clear lit
  by_cases hx0 : x = 0
  · subst hx0
    by_cases h11 : 11 ≤ s
    · have i1 : (11 : Int) ≤ (s : Int) := by omega
      obtain ⟨t, ht⟩ : ∃ t : Nat, t = min s 138 := ⟨_, rfl⟩
      have hmin : min (s : Int) 138 = (t : Int) := by omega
      have ht2 : t ≤ s ∧ t ≤ 138 ∧ 11 ≤ t := by omega
      have HR : Hid _ := BIG.out rfl h11 t ht
      clear ht
      go_wp2_with fail
      (try simp only [Exit.inBlock, Exit.then])
      refine bodyPost_ret (results_row_tmp rfl _ _ w.heap.size 100 #[.int .i64 18, .int .i64 ((t : Int) - 11), .int .i64 7] (0, 0) _ rfl (heap_set (heap_set (heap_set HB.out 0 (.int .i64 18)) 1 (.int .i64 ((t : Int) - 11))) 2 (.int .i64 7)) Tryd.underlying100 rfl rfl) rfl ?_
      refine ⟨18, t - 11, 7, t, ?_, HR.out, rfl, ((fr1.setNew (p := ⟨w.heap.size, 0, none⟩) (Nat.le_refl _) _).setNew (p := ⟨w.heap.size, 1, none⟩) (Nat.le_refl _) _).setNew (p := ⟨w.heap.size, 2, none⟩) (Nat.le_refl _) _⟩
      rw [show ((t - 11 : Nat) : Int) = (t : Int) - 11 by omega]; rfl
    · have i1 : ¬ (11 : Int) ≤ (s : Int) := by omega
      have i1b : decide ((11 : Int) ≤ (s : Int)) = false := decide_eq_false i1
      by_cases h3 : 3 ≤ s
      · have i2 : (3 : Int) ≤ (s : Int) := by omega
        have HR : Hid _ := MID.out rfl h3 (by omega)
        go_wp2_with fail
        (try simp only [Exit.inBlock, Exit.then])
        refine bodyPost_ret (results_row_tmp rfl _ _ w.heap.size 100 #[.int .i64 17, .int .i64 ((s : Int) - 3), .int .i64 3] (0, 0) _ rfl (heap_set (heap_set (heap_set HB.out 0 (.int .i64 17)) 1 (.int .i64 ((s : Int) - 3))) 2 (.int .i64 3)) Tryd.underlying100 rfl rfl) rfl ?_
        refine ⟨17, s - 3, 3, s, ?_, HR.out, rfl, ((fr1.setNew (p := ⟨w.heap.size, 0, none⟩) (Nat.le_refl _) _).setNew (p := ⟨w.heap.size, 1, none⟩) (Nat.le_refl _) _).setNew (p := ⟨w.heap.size, 2, none⟩) (Nat.le_refl _) _⟩
        rw [show ((s - 3 : Nat) : Int) = (s : Int) - 3 by omega]; rfl
      · have i2b : decide ((3 : Int) ≤ (s : Int)) = false := decide_eq_false (by omega)
        by_cases ha : 0 < at_
        · have ia : (0 : Int) < (at_ : Int) := by omega
          have iab : decide ((0 : Int) < (at_ : Int)) = true := decide_eq_true ia
          have cp := hcw.out (at_ - 1) (by omega)
          obtain ⟨pa, hpa⟩ : ∃ pa, at_ - 1 = pa := ⟨_, rfl⟩
          have hsub : ((at_ : Int) - 1) = (pa : Int) := by omega
          have hpn : (pa : Int) < (n : Int) := by omega
          have hwp : IntKind.i64.wrap (pa : Int) = (pa : Int) := by rw [IntKind.wrap_i64]; omega
          rw [hpa] at cp
          obtain ⟨y, hy⟩ : ∃ y, f pa = y := ⟨_, rfl⟩
          rw [hy] at cp
          have HY : Hid (f (at_ - 1) = y) := by rw [hpa]; exact hy
          clear hy hpa
          by_cases hyx : y = 0
          · subst hyx
            go_wp2_with fail
            go_quiet (fail)
            go_wp2_with fail
            (try simp only [Exit.inBlock, Exit.then])
            refine bodyPost_ret (results_row_tmp rfl _ _ w.heap.size 100 #[.int .i64 0, .int .i64 0, .int .i64 0] (0, 0) _ rfl (heap_set (heap_set (heap_set HB.out 0 (.int .i64 0)) 1 (.int .i64 0)) 2 (.int .i64 0)) Tryd.underlying100 rfl rfl) rfl ?_
            obtain ⟨s', ex, more, t, q1, q2, q3⟩ := LIT.out (fun _ => by omega)
            exact ⟨s', ex, more, t, q1, q2, q3, (((fr1.setNew (p := ⟨w.heap.size, 0, none⟩) (Nat.le_refl _) _).setNew (p := ⟨w.heap.size, 1, none⟩) (Nat.le_refl _) _).setNew (p := ⟨w.heap.size, 2, none⟩) (Nat.le_refl _) _).trans (fr_drewN _ _)⟩
          · have hyb : ((0 : Int) == ((y : Nat) : Int)) = false := by simp; omega
            go_wp2_with fail
            go_quiet (fail)
            go_wp2_with fail
            (try simp only [Exit.inBlock, Exit.then])
            refine bodyPost_ret (results_row_tmp rfl _ _ w.heap.size 100 #[.int .i64 0, .int .i64 0, .int .i64 0] (0, 0) _ rfl (heap_set (heap_set (heap_set HB.out 0 (.int .i64 0)) 1 (.int .i64 0)) 2 (.int .i64 0)) Tryd.underlying100 rfl rfl) rfl ?_
            obtain ⟨s', ex, more, t, q1, q2, q3⟩ := LIT.out (fun _ => by omega)
            exact ⟨s', ex, more, t, q1, q2, q3, (((fr1.setNew (p := ⟨w.heap.size, 0, none⟩) (Nat.le_refl _) _).setNew (p := ⟨w.heap.size, 1, none⟩) (Nat.le_refl _) _).setNew (p := ⟨w.heap.size, 2, none⟩) (Nat.le_refl _) _).trans (fr_drewN _ _)⟩
        · have iab : decide ((0 : Int) < (at_ : Int)) = false := decide_eq_false (by omega)
          go_wp2_with fail
          go_quiet (fail)
          go_wp2_with fail
          (try simp only [Exit.inBlock, Exit.then])
          refine bodyPost_ret (results_row_tmp rfl _ _ w.heap.size 100 #[.int .i64 0, .int .i64 0, .int .i64 0] (0, 0) _ rfl (heap_set (heap_set (heap_set HB.out 0 (.int .i64 0)) 1 (.int .i64 0)) 2 (.int .i64 0)) Tryd.underlying100 rfl rfl) rfl ?_
          obtain ⟨s', ex, more, t, q1, q2, q3⟩ := LIT.out (fun _ => by omega)
          exact ⟨s', ex, more, t, q1, q2, q3, (((fr1.setNew (p := ⟨w.heap.size, 0, none⟩) (Nat.le_refl _) _).setNew (p := ⟨w.heap.size, 1, none⟩) (Nat.le_refl _) _).setNew (p := ⟨w.heap.size, 2, none⟩) (Nat.le_refl _) _).trans (fr_drewN _ _)⟩
  · have hx0b : (((x : Nat) : Int) == 0) = false := by simp; omega
    by_cases ha : 0 < at_
    · have ia : (0 : Int) < (at_ : Int) := by omega
      have iab : decide ((0 : Int) < (at_ : Int)) = true := decide_eq_true ia
      have cp := hcw.out (at_ - 1) (by omega)
      obtain ⟨pa, hpa⟩ : ∃ pa, at_ - 1 = pa := ⟨_, rfl⟩
      have hsub : ((at_ : Int) - 1) = (pa : Int) := by omega
      have hpn : (pa : Int) < (n : Int) := by omega
      have hwp : IntKind.i64.wrap (pa : Int) = (pa : Int) := by rw [IntKind.wrap_i64]; omega
      rw [hpa] at cp
      obtain ⟨y, hy⟩ : ∃ y, f pa = y := ⟨_, rfl⟩
      rw [hy] at cp
      have HY : Hid (f (at_ - 1) = y) := by rw [hpa]; exact hy
      clear hy hpa
      by_cases hyx : y = x
      · rw [hyx] at cp HY
        clear hyx
        by_cases h3 : 3 ≤ s
        · have i3 : (3 : Int) ≤ (s : Int) := by omega
          have i3b : decide ((3 : Int) ≤ (s : Int)) = true := decide_eq_true i3
          obtain ⟨t, ht⟩ : ∃ t : Nat, t = min s 6 := ⟨_, rfl⟩
          have hmin : min (s : Int) 6 = (t : Int) := by omega
          have ht2 : t ≤ s ∧ t ≤ 6 ∧ 3 ≤ t := by omega
          have HR : Hid _ := REP.out hx0 ha HY.out h3 t ht
          clear ht
          go_wp2_with fail
          go_quiet (fail)
          go_wp2_with fail
          (try simp only [Exit.inBlock, Exit.then])
          refine bodyPost_ret (results_row_tmp rfl _ _ w.heap.size 100 #[.int .i64 16, .int .i64 ((t : Int) - 3), .int .i64 2] (0, 0) _ rfl (heap_set (heap_set (heap_set HB.out 0 (.int .i64 16)) 1 (.int .i64 ((t : Int) - 3))) 2 (.int .i64 2)) Tryd.underlying100 rfl rfl) rfl ?_
          refine ⟨16, t - 3, 2, t, ?_, HR.out, rfl, (((fr1.setNew (p := ⟨w.heap.size, 0, none⟩) (Nat.le_refl _) _).setNew (p := ⟨w.heap.size, 1, none⟩) (Nat.le_refl _) _).setNew (p := ⟨w.heap.size, 2, none⟩) (Nat.le_refl _) _).trans (fr_drewN _ _)⟩
          rw [show ((t - 3 : Nat) : Int) = (t : Int) - 3 by omega]; rfl
        · have i3b : decide ((3 : Int) ≤ (s : Int)) = false := decide_eq_false (by omega)
          go_wp2_with fail
          go_quiet (fail)
          go_wp2_with fail
          (try simp only [Exit.inBlock, Exit.then])
          refine bodyPost_ret (results_row_tmp rfl _ _ w.heap.size 100 #[.int .i64 ((x : Nat) : Int), .int .i64 0, .int .i64 0] (0, 0) _ rfl (heap_set (heap_set (heap_set HB.out 0 (.int .i64 ((x : Nat) : Int))) 1 (.int .i64 0)) 2 (.int .i64 0)) Tryd.underlying100 rfl rfl) rfl ?_
          obtain ⟨s', ex, more, t, q1, q2, q3⟩ := LIT.out (fun h => absurd h hx0)
          exact ⟨s', ex, more, t, q1, q2, q3, (((fr1.setNew (p := ⟨w.heap.size, 0, none⟩) (Nat.le_refl _) _).setNew (p := ⟨w.heap.size, 1, none⟩) (Nat.le_refl _) _).setNew (p := ⟨w.heap.size, 2, none⟩) (Nat.le_refl _) _).trans (fr_drewN _ _)⟩
      · have hyb : (((x : Nat) : Int) == ((y : Nat) : Int)) = false := by simp; omega
        go_wp2_with fail
        go_quiet (fail)
        go_wp2_with fail
        (try simp only [Exit.inBlock, Exit.then])
        refine bodyPost_ret (results_row_tmp rfl _ _ w.heap.size 100 #[.int .i64 ((x : Nat) : Int), .int .i64 0, .int .i64 0] (0, 0) _ rfl (heap_set (heap_set (heap_set HB.out 0 (.int .i64 ((x : Nat) : Int))) 1 (.int .i64 0)) 2 (.int .i64 0)) Tryd.underlying100 rfl rfl) rfl ?_
        obtain ⟨s', ex, more, t, q1, q2, q3⟩ := LIT.out (fun h => absurd h hx0)
        exact ⟨s', ex, more, t, q1, q2, q3, (((fr1.setNew (p := ⟨w.heap.size, 0, none⟩) (Nat.le_refl _) _).setNew (p := ⟨w.heap.size, 1, none⟩) (Nat.le_refl _) _).setNew (p := ⟨w.heap.size, 2, none⟩) (Nat.le_refl _) _).trans (fr_drewN _ _)⟩
    · have iab : decide ((0 : Int) < (at_ : Int)) = false := decide_eq_false (by omega)
      go_wp2_with fail
      go_quiet (fail)
      go_wp2_with fail
      (try simp only [Exit.inBlock, Exit.then])
      refine bodyPost_ret (results_row_tmp rfl _ _ w.heap.size 100 #[.int .i64 ((x : Nat) : Int), .int .i64 0, .int .i64 0] (0, 0) _ rfl (heap_set (heap_set (heap_set HB.out 0 (.int .i64 ((x : Nat) : Int))) 1 (.int .i64 0)) 2 (.int .i64 0)) Tryd.underlying100 rfl rfl) rfl ?_
      obtain ⟨s', ex, more, t, q1, q2, q3⟩ := LIT.out (fun h => absurd h hx0)
      exact ⟨s', ex, more, t, q1, q2, q3, (((fr1.setNew (p := ⟨w.heap.size, 0, none⟩) (Nat.le_refl _) _).setNew (p := ⟨w.heap.size, 1, none⟩) (Nat.le_refl _) _).setNew (p := ⟨w.heap.size, 2, none⟩) (Nat.le_refl _) _).trans (fr_drewN _ _)⟩

end Go.Proofs.YtdpobjgfnhjagaaDoor

