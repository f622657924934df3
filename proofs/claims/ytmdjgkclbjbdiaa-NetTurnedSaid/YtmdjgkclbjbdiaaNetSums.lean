/- The statement NetSums: all that is over comes to 0, and the cost is within its bound; no condition. -/
import Derived.Test.YtmdjgkclbjbdiaaNtWorks
namespace Go.Proofs.Ytmdjgkclbjbdiaa
open Go.RowKit

theorem vast_any (n : Int) (es : List Ed) (fl : List Int) (w : World) {v x : Value} (he : Es w v es) (hf : Fs w x fl) :
    Calls Try.prog 9 #[netV n v, x] w fun e w' => e = .returned (.bool (decide (2000 < es.length ∨ 2000 < fl.length))) ∧ Below w.heap.size w w' := by
  obtain ⟨va, vc, rfl, -, -⟩ := he.shape
  obtain ⟨xa, xc, rfl, -, -⟩ := hf.shape
  clear he hf
  generalize es.length = L
  generalize fl.length = M
  have hb : Below w.heap.size w (w.alloc (.cells #[.int .i64 n, .slice va L vc] 24)) := (Below.refl _ _).alloc (Nat.le_refl _) _
  by_cases h1 : 2000 < L
  · rw [decide_eq_true (Or.inl h1)]
    have h1i : (2000 : Int) < (L : Int) := by omega
    have HB := Lib.hid hb
    clear hb h1
    go_enter Try.func9, Try.ntmps9
    go_wp2
    go_ret
    exact ⟨rfl, HB.out⟩
  by_cases h2 : 2000 < M
  · rw [decide_eq_true (Or.inr h2)]
    have h1i : ¬ (2000 : Int) < (L : Int) := by omega
    have h2i : (2000 : Int) < (M : Int) := by omega
    have HB := Lib.hid hb
    clear hb h1 h2
    go_enter Try.func9, Try.ntmps9
    go_wp2
    go_ret
    exact ⟨rfl, HB.out⟩
  rw [decide_eq_false (fun h => h.elim h1 h2)]
  have h1i : ¬ (2000 : Int) < (L : Int) := by omega
  have h2i : ¬ (2000 : Int) < (M : Int) := by omega
  have HB := Lib.hid hb
  clear hb h1 h2
  go_enter Try.func9, Try.ntmps9
  go_wp2
  go_ret
  exact ⟨rfl, HB.out⟩

/-- What comes to the first k nodes, less what goes. -/
def preT (k : Nat) (p : Ed × Int) : Int := (if p.1.to < (k : Int) then p.2 else 0) - (if p.1.fr < (k : Int) then p.2 else 0)
def pre (ls : Load) (k : Nat) : Int := (ls.map (preT k)).sum
theorem pre_zero : ∀ {ls : Load}, (∀ p ∈ ls, 0 ≤ p.1.to ∧ 0 ≤ p.1.fr) → pre ls 0 = 0
  | [], _ => rfl
  | p :: r, h => by
    have h1 := h p (by simp)
    have h2 := pre_zero (ls := r) (fun q hq => h q (List.mem_cons_of_mem _ hq))
    unfold pre at *
    simp only [List.map_cons, List.sum_cons, h2]
    unfold preT
    rw [if_neg (by omega), if_neg (by omega)]
    rfl
theorem pre_all {m : Nat} : ∀ {ls : Load}, (∀ p ∈ ls, p.1.to < (m : Int) ∧ p.1.fr < (m : Int)) → pre ls m = 0
  | [], _ => rfl
  | p :: r, h => by
    have h1 := h p (by simp)
    have h2 := pre_all (ls := r) (fun q hq => h q (List.mem_cons_of_mem _ hq))
    unfold pre at *
    simp only [List.map_cons, List.sum_cons, h2]
    unfold preT
    rw [if_pos h1.1, if_pos h1.2]
    omega
theorem pre_more (k : Nat) : ∀ (ls : Load), pre ls (k + 1) = pre ls k + ovr ls k
  | [] => rfl
  | p :: r => by
    have h2 := pre_more k r
    unfold pre ovr at *
    simp only [List.map_cons, List.sum_cons, h2]
    have : preT (k + 1) p = preT k p + ovT k p := by
      unfold preT ovT
      split <;> split <;> split <;> split <;> split <;> split <;> omega
    omega
theorem pre_le (k : Nat) : ∀ {ls : Load} (_ : ∀ p ∈ ls, SmallT p), -(ls.length * 4503599627370496 : Int) ≤ pre ls k ∧ pre ls k ≤ (ls.length * 4503599627370496 : Int)
  | [], _ => by simp [pre]
  | p :: r, h => by
    have h1 := h p (by simp)
    have h3 := pre_le k (ls := r) (fun q hq => h q (List.mem_cons_of_mem _ hq))
    have h2 : -4503599627370496 ≤ preT k p ∧ preT k p ≤ 4503599627370496 := by
      have := h1.1
      have := h1.2.1
      unfold preT
      constructor <;> split <;> split <;> omega
    unfold pre at *
    simp only [List.map_cons, List.sum_cons, List.length_cons]
    have : ((r.length + 1 : Nat) : Int) * 4503599627370496 = (r.length : Int) * 4503599627370496 + 4503599627370496 := by omega
    omega
instance (l : List Int) (k : Nat) : Decidable (NoneTo l k) := by unfold NoneTo; infer_instance
theorem NoneTo.iff {l : List Int} {k : Nat} {x : Int} (hx : l[k]? = some x) : NoneTo l (k + 1) ↔ NoneTo l k ∧ x = 0 := by
  unfold NoneTo
  rw [List.take_add_one, hx]
  constructor
  · intro h
    exact ⟨fun y hy => h y (by simp [hy]), h x (by simp)⟩
  · rintro ⟨h1, h2⟩ y hy
    rcases List.mem_append.1 hy with hy | hy
    · exact h1 y hy
    · have : y = x := by simpa using hy
      rw [this, h2]

/-- What stands while a statement goes on: a net and its flow. -/
structure NF (w : World) (c : Nat) (n : Int) (v x : Value) (es : List Ed) (fl : List Int) (W : World) : Prop where
  under : Below w.heap.size w W
  net : Cel W c [.int .i64 n, v] 24
  es : Es W v es
  fl : Fs W x fl
theorem NF.go {w : World} {c : Nat} {n : Int} {v x : Value} {es : List Ed} {fl : List Int} {W W' : World} (h : NF w c n v x es fl W) (hb : Below W.heap.size W W') : NF w c n v x es fl W' :=
  ⟨h.under.trans (hb.mono h.under.size), h.net.below hb h.net.lt, h.es.below hb, h.fl.below hb⟩
theorem NF.box {w : World} (n : Int) {v x : Value} {es : List Ed} {fl : List Int} (he : Es w v es) (hf : Fs w x fl) : NF w w.heap.size n v x es fl (w.alloc (.cells #[.int .i64 n, v] 24)) :=
  have hb : Below w.heap.size w (w.alloc (.cells #[.int .i64 n, v] 24)) := (Below.refl _ _).alloc (Nat.le_refl _) _
  ⟨hb, Cel.new w _ _, he.below hb, hf.below hb⟩

set_option maxRecDepth 100000 in
set_option maxHeartbeats 8000000 in
theorem netSums_any (n : Int) (w : World) {v x : Value} {es : List Ed} {fl : List Int} (he : Es w v es) (hf : Fs w x fl) : Calls Try.prog 4 #[netV n v, x] w fun e w' => e = .returned (.bool true) ∧ Below w.heap.size w w' := by
  obtain ⟨va, vc, rfl, -, -⟩ := he.shape
  obtain ⟨xa, xc, rfl, -, -⟩ := hf.shape
  have hK := NF.box n he hf
  clear he hf
  obtain ⟨n0, n1⟩ := hK.net.net
  have P := vast_any n es fl _ hK.es hK.fl
  have HK := Lib.hid hK
  clear hK
  go_enter Try.func4, Try.ntmps4
  go_wp2_with fail
  generalize w.alloc (.cells #[.int .i64 n, .slice va es.length vc] 24) = w1 at *
  refine P.mono ?_
  rintro e w2 ⟨rfl, b⟩
  have h2 := HK.out.go b
  clear P HK b n0 n1
  by_cases hv : 2000 < es.length ∨ 2000 < fl.length
  case pos =>
    rw [decide_eq_true hv]
    have HV := Lib.hid (And.intro hv h2)
    clear hv h2
    go_wp2_with fail
    refine (works_any w2).mono ?_
    rintro e w3 ⟨rfl, b⟩
    go_wp2
    go_ret
    exact ⟨rfl, (HV.out.2.go b).under⟩
  rw [decide_eq_false hv]
  have P := within_any n es fl w2 h2.es h2.fl
  obtain ⟨n0, n1⟩ := h2.net.net
  have HK := Lib.hid h2
  have HV := Lib.hid hv
  clear hv h2
  go_wp2_with fail
  refine P.mono ?_
  rintro e w3 ⟨rfl, b⟩
  have h3 := HK.out.go b
  clear P HK b n0 n1
  by_cases hw : WithinP n es fl
  case neg =>
    rw [decide_eq_false hw]
    have HV := Lib.hid (And.intro hw h3)
    clear hw h3
    go_wp2_with fail
    refine (works_any w3).mono ?_
    rintro e w4 ⟨rfl, b⟩
    go_wp2
    go_ret
    exact ⟨rfl, (HV.out.2.go b).under⟩
  rw [decide_eq_true hw]
  obtain ⟨m, rfl⟩ : ∃ m : Nat, n = (m : Int) := ⟨n.toNat, by have := hw.1.1; omega⟩
  have P := over_any m es fl w3 h3.es h3.fl
  obtain ⟨Z, hZ⟩ : ∃ Z, Z = overP m es fl := ⟨_, rfl⟩
  have hZ2 : Z = overL m (es.zip fl) := by rw [hZ]; unfold overP; rw [if_pos hw]
  rw [← hZ] at P
  have hzl : Z.length = m := by rw [hZ2, overL_length]; simp
  obtain ⟨n0, n1⟩ := h3.net.net
  have HK := Lib.hid h3
  have HW := Lib.hid (And.intro hw (And.intro hZ2 hzl))
  clear hw h3 hZ hZ2 hzl
  go_wp2_with fail
  refine P.mono ?_
  rintro e w4 ⟨r, rfl, hr, b⟩
  have h4 := HK.out.go b
  obtain ⟨ra, rc, rfl, -, -⟩ := hr.shape
  rw [HW.out.2.2] at hr ⊢
  clear P HK b n0 n1
  obtain ⟨n0, n1⟩ := h4.net.net
  have HK := Lib.hid (And.intro h4 hr)
  clear h4 hr
  go_wp2
  go_loopw [6, 7, 8] (fun s b j wr => ∃ k : Nat, j = .int .i64 (k : Int) ∧ k ≤ m ∧ s = .int .i64 (pre (es.zip fl) k) ∧ b = .bool (decide (NoneTo Z k)) ∧ wr = w4) (fun _ _ j _ => m - (intOf j).toNat)
  case atStart =>
    refine ⟨0, rfl, Nat.zero_le _, ?_, ?_, rfl⟩
    · rw [pre_zero fun p hp => ?_]
      have := HW.out.1.1.2.2.2.1 _ (List.of_mem_zip hp).1
      exact ⟨this.2.2.1, this.1⟩
    · rw [decide_eq_true (NoneTo.zero Z)]
  case round =>
    obtain ⟨k, rfl, hk, rfl, rfl, rfl⟩ := hrel
    have hls : ∀ p ∈ es.zip fl, SmallT p := zip_small HW.out.1.1.2.2.2.1 HW.out.1.2.2
    have hlen : (es.zip fl).length ≤ 200 := by have := HW.out.1.1.2.2.1; rw [List.length_zip]; omega
    rcases Nat.lt_or_ge k m with hlt | hge
    · have hy : Z[k]? = some (ovr (es.zip fl) k) := by rw [HW.out.2.1]; exact overL_at (by omega)
      have hp1 := pre_le (k + 1) hls
      have hp2 := pre_more k (es.zip fl)
      obtain ⟨g, o, cap, e0, hg, f0⟩ := fs_at HK.out.2 hy
      rw [HW.out.2.2] at e0
      simp only [Value.slice.injEq] at e0
      obtain ⟨rfl, -, rfl⟩ := e0
      have hiff := NoneTo.iff (k := k) hy
      generalize ovr (es.zip fl) k = y at *
      obtain ⟨s, hs⟩ : ∃ s, s = pre (es.zip fl) k := ⟨_, rfl⟩
      rw [← hs] at hp2 ⊢
      have hwr : wrap64 (s + y) = s + y := by unfold wrap64; omega
      have hm40 : m ≤ 40 := by have := HW.out.1.1.2.1; omega
      have hki : (k : Int) < (m : Int) := by omega
      have hk1 : (k : Int) ≤ 9223372036854775806 := by omega
      have hk0 : (0 : Int) ≤ (k : Int) := by omega
      by_cases hN : NoneTo Z k
      · rw [decide_eq_true hN]
        by_cases hy0 : y = 0
        · subst hy0
          have HL := Lib.hid (And.intro hlt (And.intro hp2.symm (decide_eq_true (hiff.2 ⟨hN, rfl⟩))))
          rw [Int.add_zero] at HL hwr
          clear hlt hp2 hiff hy hp1 hls hlen hs hm40 hk
          clear hN
          go_wp2
          go_roundw
          case rel => exact ⟨k + 1, by go_num, HL.out.1, by rw [hwr, HL.out.2.1], by rw [HL.out.2.2], trivial⟩
          case measure =>
            have := HL.out.1
            simp only [intOf]
            omega
        · have HL := Lib.hid (And.intro hlt (And.intro hp2.symm (decide_eq_false (fun h => hy0 (hiff.1 h).2))))
          clear hlt hp2 hiff hy hp1 hls hlen hs hm40 hk
          have hq : (y == 0) = false := by simpa using hy0
          have HQ := Lib.hid hy0
          clear hy0
          clear hN
          go_wp2
          go_roundw
          case rel => exact ⟨k + 1, by go_num, HL.out.1, by rw [hwr, HL.out.2.1], by rw [HL.out.2.2], trivial⟩
          case measure =>
            have := HL.out.1
            simp only [intOf]
            omega
      · rw [decide_eq_false hN]
        have HL := Lib.hid (And.intro hlt (And.intro hp2.symm (decide_eq_false (fun h => hN (hiff.1 h).1))))
        clear hlt hp2 hiff hy hp1 hls hlen hs hm40 hk
        clear hN
        go_wp2
        go_roundw
        case rel => exact ⟨k + 1, by go_num, HL.out.1, by rw [hwr, HL.out.2.1], by rw [HL.out.2.2], trivial⟩
        case measure =>
          have := HL.out.1
          simp only [intOf]
          omega
    · obtain rfl : k = m := by omega
      have hpm : pre (es.zip fl) k = 0 := pre_all fun p hp => by
        have := HW.out.1.1.2.2.2.1 _ (List.of_mem_zip hp).1
        exact ⟨this.2.2.2.1, this.2.1⟩
      rw [hpm]
      have hfl : decide (NoneTo Z k) = decide (FlowsP k es fl) := by
        apply decide_eq_decide.2
        unfold FlowsP NoneTo
        rw [← HW.out.2.1, List.take_of_length_le (by rw [HW.out.2.2]; omega)]
        exact ⟨fun h => ⟨HW.out.1, h⟩, fun h => h.2⟩
      rw [hfl]
      have hc := HW.out.1.cost
      have hcb : -4611686018427387904 ≤ costP k es fl ∧ costP k es fl ≤ 4611686018427387904 := by
        unfold costP
        rw [if_pos HW.out.1, hc.2.2]
        omega
      have P := cost_any k es fl wr HK.out.1.es HK.out.1.fl
      have P2 := fun W (h : NF w w.heap.size (k : Int) (.slice va es.length vc) (.slice xa fl.length xc) es fl W) => flows_any k es fl W h.es h.fl
      generalize costP k es fl = C at *
      generalize decide (FlowsP k es fl) = B at *
      obtain ⟨hc1, hc2⟩ := hcb
      have HP := Lib.hid P2
      have hki : ¬ (k : Int) < (k : Int) := by omega
      clear hpm hfl hc hls hlen hge hk P2
      go_wp2_with fail
      refine P.mono ?_
      rintro e w5 ⟨rfl, b⟩
      have h5 := HK.out.1.go b
      clear P HK b n0 n1
      have P := HP.out _ h5
      obtain ⟨n0, n1⟩ := h5.net.net
      have HK := Lib.hid h5
      clear h5 HP
      go_wp2_with fail
      refine P.mono ?_
      rintro e w6 ⟨rfl, b⟩
      have h6 := HK.out.go b
      have HK := Lib.hid h6
      clear P b n0 n1 h6
      go_wp2_with fail
      refine (works_any w6).mono ?_
      rintro e w7 ⟨rfl, b⟩
      go_wp2
      go_ret
      exact ⟨rfl, (HK.out.go b).under⟩
end Go.Proofs.Ytmdjgkclbjbdiaa
