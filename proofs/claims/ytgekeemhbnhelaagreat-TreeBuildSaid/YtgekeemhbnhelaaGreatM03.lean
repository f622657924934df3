/- Small functions of package tree: what may be, what stands ahead, a node's keys and ends, sizes; each answers so, and writes nothing that was there; condition: what is handed in lies in memory. · Rows of entries laid one behind the other, in new memory: the walks of Grow and Concat; conditions: fewer than 2^31 entries in all. · Entries in one node, or halved between two: the walk of halved; condition: no key or value is longer than a byte string may be. · A region that draws its order, reads and calls in whatever order, and writes by its last operation: what reads alike in every world that meets S, till the last one, is taken first; condition: the last one waits for it. · A region that draws its order, reads and calls, and writes by one operation beside which others may still come: what reads alike in every world that meets S, till that one, is taken first; what is alike in every world at all is taken when it is ready; condition: the one that writes waits for the first kind. -/
import Derived.Test.YtgekeemhbnhelaaGreatM02
import Derived.Lib.AppendZeros
import Derived.StillTailTactics
import Derived.Deep.RegionHeld3
import Derived.OrdersIn
import Derived.TacticsIn
import Derived.RangeFuncCalls
namespace Go.Proofs.YtgekeemhbnhelaaGreat
open Go.RowKit


theorem order_cmp {a b : Value} {l m : Bytes} (w : World) (ha : Bs w a l) (hb : Bs w b m) :
    Calls Tryz.prog 56 #[a, b] w fun e w' => e = .returned (.int .i64 (cmp l m)) ∧ w = w' := order_any w ha hb
theorem cmp3 (l m : Bytes) : cmp l m = -1 ∨ cmp l m = 0 ∨ cmp l m = 1 := cmp_three l m

def mayK (l : Bytes) : Bool := decide (1 ≤ l.length ∧ l.length ≤ 32)
def mayV (l : Bytes) : Bool := decide (l.length ≤ 128)
theorem mayKey_any {v : Value} {l : Bytes} (w : World) (h : Bs w v l) : Calls Tryz.prog 43 #[v] w fun e w' => e = .returned (.bool (mayK l)) ∧ w = w' := by
  obtain ⟨a, c, rfl, _⟩ := h.shape
  have hl := h.len
  clear h
  unfold mayK
  by_cases h1 : l.length < 1
  · have e1 : decide (1 ≤ l.length ∧ l.length ≤ 32) = false := by simp; omega
    have hi : (l.length : Int) < 1 := by omega
    rw [e1]
    clear h1 e1
    go_enter Tryz.func43, Tryz.ntmps43
    go_wp2
    go_ret
    exact ⟨rfl, rfl⟩
  · have e1 : decide (1 ≤ l.length ∧ l.length ≤ 32) = decide ((l.length : Int) ≤ 32) := by rw [decide_eq_decide]; omega
    have hi : (1 : Int) ≤ (l.length : Int) := by omega
    rw [e1]
    clear h1 e1
    go_enter Tryz.func43, Tryz.ntmps43
    go_wp2
    go_ret
    exact ⟨rfl, rfl⟩
theorem mayValue_any {v : Value} {l : Bytes} (w : World) (h : Bs w v l) : Calls Tryz.prog 55 #[v] w fun e w' => e = .returned (.bool (mayV l)) ∧ w = w' := by
  obtain ⟨a, c, rfl, _⟩ := h.shape
  clear h
  have e1 : mayV l = decide ((l.length : Int) ≤ 128) := by unfold mayV; rw [decide_eq_decide]; omega
  rw [e1]
  go_enter Tryz.func55, Tryz.ntmps55
  go_wp2
  go_ret
  exact ⟨rfl, rfl⟩

def aheadB (k e : Bytes) : Bool := decide (e.length = 0) || decide (cmp k e < 0)
theorem ahead_any {v x : Value} {l m : Bytes} (w : World) (h : Bs w v l) (hx : Bs w x m) : Calls Tryz.prog 72 #[v, x] w fun e w' => e = .returned (.bool (aheadB l m)) ∧ w = w' := by
  have O := order_cmp w h hx
  obtain ⟨a, c, rfl, _⟩ := h.shape
  obtain ⟨b, d, rfl, _⟩ := hx.shape
  unfold aheadB
  by_cases h0 : m.length = 0
  · have hi : ((m.length : Int) == 0) = true := by rw [h0]; rfl
    rw [decide_eq_true h0, Bool.true_or]
    clear h hx h0 O
    go_enter Tryz.func72, Tryz.ntmps72
    go_wp2
    go_ret
    exact ⟨rfl, rfl⟩
  · have hi : ((m.length : Int) == 0) = false := by rw [beq_eq_false_iff_ne]; omega
    rw [decide_eq_false h0, Bool.false_or]
    clear h hx h0
    go_enter Tryz.func72, Tryz.ntmps72
    go_wp2_with fail
    refine O.mono ?_
    rintro e w1 ⟨rfl, rfl⟩
    clear O
    go_wp2
    go_ret
    exact ⟨rfl, rfl⟩

theorem find1_any {k v : Value} {p : Int} {l m : Bytes} {x : Value} (w : World) (h : Bs w k l) (hx : Bs w x m) :
    Calls Tryz.prog 75 #[.agg #[k, v, .int .i64 p], x] w fun e w' => e = .returned (.int .i64 (cmp l m)) ∧ Below w.heap.size w w' := by
  have hb : Below w.heap.size w (w.alloc (.cells #[k, v, .int .i64 p] 93)) := (Below.refl _ _).alloc (Nat.le_refl _) _
  have O := order_cmp _ (h.below hb) (hx.below hb)
  have HB := Lib.hid hb
  clear hb h hx
  go_enter Tryz.func75, Tryz.ntmps75
  go_wp2_with fail
  refine O.mono ?_
  rintro e w1 ⟨rfl, rfl⟩
  clear O
  go_wp2
  go_ret
  exact ⟨rfl, HB.out⟩

theorem least_any {p l : Int} {ev tv : Value} {S : Nat → Prop} {es : List En} {a : En} (w : World) (h : Rd kdEn w S ev es) (ha : es[0]? = some a) :
    Calls Tryz.prog 71 #[ndv p l ev tv] w fun e w' => ∃ v, e = .returned v ∧ Bsf w' S v a.key ∧ Below w.heap.size w w' := by
  obtain ⟨g, o, cap, ka, kc, va, vc, rfl, hg, c0, c1, c2, hk, hv⟩ := h.ent ha
  have hlt := (List.getElem?_eq_some_iff.1 ha).1
  have hl : (0 : Int) < (es.length : Int) := by omega
  rw [Nat.zero_mul, Nat.add_zero] at c0
  have hb : Below w.heap.size w (w.alloc (.cells #[.int .i64 p, .int .i64 l, .slice (some ⟨g, o, none⟩) es.length cap, tv] 85)) := (Below.refl _ _).alloc (Nat.le_refl _) _
  have HH := Lib.hid (And.intro hk hb)
  clear h hk hv ha hb c1 c2
  go_enter Tryz.func71, Tryz.ntmps71
  go_wp2
  go_ret
  exact ⟨_, rfl, HH.out.1.step (Step.of_below HH.out.2 S), HH.out.2⟩

theorem greatest_any {p l : Int} {ev tv : Value} {S : Nat → Prop} {es : List En} {k : Nat} {a : En} (w : World) (h : Rd kdEn w S ev es) (hk : es.length = k + 1) (ha : es[k]? = some a) :
    Calls Tryz.prog 73 #[ndv p l ev tv] w fun e w' => ∃ v, e = .returned v ∧ Bsf w' S v a.key ∧ Below w.heap.size w w' := by
  obtain ⟨g, o, cap, ka, kc, va, vc, rfl, hg, c0, c1, c2, hka, hv⟩ := h.ent ha
  have hle := h.len
  rw [hk] at hle
  have hi : ((k : Int) + 1) - 1 = k := by omega
  have h1 : (k : Int) < (k : Int) + 1 := by omega
  have hb : Below w.heap.size w (w.alloc (.cells #[.int .i64 p, .int .i64 l, .slice (some ⟨g, o, none⟩) es.length cap, tv] 85)) := (Below.refl _ _).alloc (Nat.le_refl _) _
  rw [hk] at hb ⊢
  have HH := Lib.hid (And.intro hka hb)
  clear h hka hv ha hb c1 c2 hk
  go_enter Tryz.func73, Tryz.ntmps73
  go_wp2
  go_ret
  exact ⟨_, rfl, HH.out.1.step (Step.of_below HH.out.2 S), HH.out.2⟩

/-- The least key of what stands behind child i. -/
def endK (es : List En) (to : Bytes) (i : Nat) : Bytes := match es[i + 1]? with | some e => e.key | none => to
theorem end_any {p l : Int} {ev tv : Value} {S : Nat → Prop} {es : List En} {to : Bytes} (i : Nat) (w : World) (h : Rd kdEn w S ev es) (ht : Bsf w S tv to) (hi : i < es.length) :
    Calls Tryz.prog 70 #[ndv p l ev tv, .int .i64 (i : Int)] w fun e w' => ∃ v, e = .returned v ∧ Bsf w' S v (endK es to i) ∧ Below w.heap.size w w' := by
  have hle := h.len
  unfold endK
  rcases he : es[i + 1]? with _ | a
  · have h1 := List.getElem?_eq_none_iff.1 he
    obtain ⟨ea, ec, rfl, _⟩ := h.shape
    obtain ⟨ta, tc, rfl, _⟩ := ht.1.shape
    have hd : decide ((i : Int) + 1 < (es.length : Int)) = false := by simp; omega
    have hii : (i : Int) + 1 ≤ 9223372036854775807 := by omega
    have hb : Below w.heap.size w (w.alloc (.cells #[.int .i64 p, .int .i64 l, .slice ea es.length ec, .slice ta to.length tc] 85)) := (Below.refl _ _).alloc (Nat.le_refl _) _
    have HH := Lib.hid (And.intro ht hb)
    clear h ht he hb h1
    go_enter Tryz.func70, Tryz.ntmps70
    go_wp2
    go_ret
    exact ⟨_, rfl, HH.out.1.step (Step.of_below HH.out.2 S), HH.out.2⟩
  · have h1 := (List.getElem?_eq_some_iff.1 he).1
    obtain ⟨g, o, cap, ka, kc, va, vc, rfl, hg, c0, c1, c2, hka, hv⟩ := h.ent he
    have hd : (i : Int) + 1 < (es.length : Int) := by omega
    have hii : (i : Int) + 1 ≤ 9223372036854775807 := by omega
    have hb : Below w.heap.size w (w.alloc (.cells #[.int .i64 p, .int .i64 l, .slice (some ⟨g, o, none⟩) es.length cap, tv] 85)) := (Below.refl _ _).alloc (Nat.le_refl _) _
    have HH := Lib.hid (And.intro hka hb)
    clear h ht he hb h1 hka hv c1 c2
    go_enter Tryz.func70, Tryz.ntmps70
    go_wp2
    go_ret
    exact ⟨_, rfl, HH.out.1.step (Step.of_below HH.out.2 S), HH.out.2⟩

def loneB (lvl n : Nat) : Bool := decide (0 < lvl) && decide (n < 2)
theorem lone_any {p : Int} {lvl : Nat} {ev tv : Value} {S : Nat → Prop} {es : List En} (w : World) (h : Rd kdEn w S ev es) :
    Calls Tryz.prog 84 #[ndv p (lvl : Int) ev tv] w fun e w' => e = .returned (.bool (loneB lvl es.length)) ∧ Below w.heap.size w w' := by
  obtain ⟨ea, ec, rfl, _⟩ := h.shape
  have hb : Below w.heap.size w (w.alloc (.cells #[.int .i64 p, .int .i64 (lvl : Int), .slice ea es.length ec, tv] 85)) := (Below.refl _ _).alloc (Nat.le_refl _) _
  have HB := Lib.hid hb
  clear hb h
  unfold loneB
  rcases Nat.eq_zero_or_pos lvl with e | e
  · subst e
    go_enter Tryz.func84, Tryz.ntmps84
    go_wp2
    go_ret
    exact ⟨rfl, HB.out⟩
  · have h1 : (0 : Int) < (lvl : Int) := by omega
    rw [decide_eq_true e, Bool.true_and, show decide (es.length < 2) = decide ((es.length : Int) < 2) by rw [decide_eq_decide]; omega]
    clear e
    go_enter Tryz.func84, Tryz.ntmps84
    go_wp2
    go_ret
    exact ⟨rfl, HB.out⟩

theorem esize_any {k v : Value} {p : Int} {lvl : Nat} (en : En) (w : World) (hk : Bs w k en.key) (hv : Bs w v en.val) (h1 : en.key.length ≤ 65535) (h2 : en.val.length ≤ 65535) :
    Calls Tryz.prog 85 #[.agg #[k, v, .int .i64 p], .int .i64 (lvl : Int)] w fun e w' => e = .returned (.int .i64 (esize lvl en : Nat)) ∧ Below w.heap.size w w' := by
  obtain ⟨a, c, rfl, _⟩ := hk.shape
  obtain ⟨b, d, rfl, _⟩ := hv.shape
  have hb : Below w.heap.size w (w.alloc (.cells #[.slice a en.key.length c, .slice b en.val.length d, .int .i64 p] 93)) := (Below.refl _ _).alloc (Nat.le_refl _) _
  have HB := Lib.hid hb
  clear hb hk hv
  unfold esize
  by_cases hl : lvl = 0
  · subst hl
    rw [if_pos rfl]
    generalize en.key.length = x at *
    generalize en.val.length = y at *
    have e1 : ((4 + x + y : Nat) : Int) = 4 + (x : Int) + (y : Int) := by omega
    rw [e1]
    clear e1
    go_enter Tryz.func85, Tryz.ntmps85
    go_wp2
    go_ret
    exact ⟨rfl, HB.out⟩
  · have h0 : ((lvl : Int) == 0) = false := by rw [beq_eq_false_iff_ne]; omega
    rw [if_neg hl]
    generalize en.key.length = x at *
    generalize en.val.length = y at *
    have e1 : ((6 + x : Nat) : Int) = 6 + (x : Int) := by omega
    rw [e1]
    clear e1 hl
    go_enter Tryz.func85, Tryz.ntmps85
    go_wp2
    go_ret
    exact ⟨rfl, HB.out⟩

theorem nowhere_any (w : World) : Calls Tryz.prog 57 #[] w fun e w' => e = .returned (ndv (-1) 0 (.slice none 0 0) (.slice none 0 0)) ∧ Below w.heap.size w w' := by
  go_enter Tryz.func57, Tryz.ntmps57
  go_wp2
  refine bodyPost_ret (results_cell1 (g := w.heap.size) rfl rfl (heap_alloc_new _ _) Tryz.underlying85 rfl (by kernel_rfl)) rfl ⟨rfl, (Below.refl _ _).alloc (Nat.le_refl _) _⟩

abbrev spv (fv tv : Value) : Value := .agg #[fv, tv]
def hasB (k f t : Bytes) : Bool := decide (0 ≤ cmp k f) && aheadB k t
theorem has_any {fv tv v : Value} {k f t : Bytes} (w : World) (hf : Bs w fv f) (ht : Bs w tv t) (hk : Bs w v k) :
    Calls Tryz.prog 78 #[spv fv tv, v] w fun e w' => e = .returned (.bool (hasB k f t)) ∧ Below w.heap.size w w' := by
  have hb : Below w.heap.size w (w.alloc (.cells #[fv, tv] 101)) := (Below.refl _ _).alloc (Nat.le_refl _) _
  have O := order_cmp _ (hk.below hb) (hf.below hb)
  have A := ahead_any _ (hk.below hb) (ht.below hb)
  have HB := Lib.hid hb
  clear hb hf ht hk
  unfold hasB
  have h3 := cmp3 k f
  by_cases h : 0 ≤ cmp k f
  · have hi : (0 : Int) ≤ cmp k f := h
    rw [decide_eq_true h, Bool.true_and]
    clear h h3
    generalize cmp k f = c at *
    generalize aheadB k t = d at *
    go_enter Tryz.func78, Tryz.ntmps78
    go_wp2_with fail
    refine O.mono ?_
    rintro e w1 ⟨rfl, rfl⟩
    clear O
    go_wp2_with fail
    refine A.mono ?_
    rintro e w1 ⟨rfl, rfl⟩
    clear A
    go_wp2
    go_ret
    exact ⟨rfl, HB.out⟩
  · rw [decide_eq_false h, Bool.false_and]
    have hi : cmp k f = -1 := by omega
    rw [hi] at O
    clear h h3 hi A
    go_enter Tryz.func78, Tryz.ntmps78
    go_wp2_with fail
    refine O.mono ?_
    rintro e w1 ⟨rfl, rfl⟩
    clear O
    go_wp2
    go_ret
    exact ⟨rfl, HB.out⟩

theorem nsize_upto {lvl : Nat} {es : List En} {n : Nat} (h : ∀ e ∈ es, esize lvl e ≤ n) : nsize lvl es ≤ es.length * n := by
  induction es with
  | nil => simp [nsize]
  | cons a r ih =>
    have h1 := h a (by simp)
    have h2 := ih fun e he => h e (by simp [he])
    rw [nsize_cons, List.length_cons, Nat.succ_mul]
    omega
/-- All keys and values are such as octet's byte strings may be. -/
def Few (es : List En) : Prop := ∀ e ∈ es, e.key.length ≤ 65535 ∧ e.val.length ≤ 65535
theorem Few.esize {lvl : Nat} {es : List En} (h : Few es) : ∀ e ∈ es, esize lvl e ≤ 131080 := by
  intro e he
  have := h e he
  unfold Go.Proofs.YtgekeemhbnhelaaGreat.esize
  split <;> omega
set_option maxHeartbeats 400000 in
theorem size_any' {p : Int} {lvl : Nat} {ev tv : Value} {S : Nat → Prop} {es : List En} (w : World) (h : Rd kdEn w S ev es) (hf : Few es) (hn : es.length ≤ 4294967296) :
    Calls Tryz.prog 139 #[ndv p (lvl : Int) ev tv] w fun e w' => e = .returned (.int .i64 (nsize lvl es : Nat)) ∧ Below w.heap.size w w' := by
  obtain ⟨ea, ec, rfl, _⟩ := h.shape
  have hb : Below w.heap.size w (w.alloc (.cells #[.int .i64 p, .int .i64 (lvl : Int), .slice ea es.length ec, tv] 85)) := (Below.refl _ _).alloc (Nat.le_refl _) _
  have cl : (w.alloc (.cells #[.int .i64 p, .int .i64 (lvl : Int), .slice ea es.length ec, tv] 85)).cell? ⟨w.heap.size, 1, none⟩ = some (.int .i64 (lvl : Int)) := by simp
  have HH := Lib.hid (And.intro h (And.intro hf (And.intro hb cl)))
  clear h hf hb cl
  go_enter Tryz.func139, Tryz.ntmps139
  go_wp2
  go_loopw [3, 9] (fun s i wr => ∃ j : Nat, j ≤ es.length ∧ i = .int .i64 j ∧ s = .int .i64 (nsize lvl (es.take j) : Nat) ∧ Below (w.heap.size + 1) (w.alloc (.cells #[.int .i64 p, .int .i64 (lvl : Int), .slice ea es.length ec, tv] 85)) wr) (fun _ i _ => es.length - (intOf i).toNat)
  case atStart => exact ⟨0, Nat.zero_le _, rfl, rfl, Below.refl _ _⟩
  case round =>
    obtain ⟨j, hj, rfl, rfl, hbw⟩ := hrel
    have z : (w.alloc (.cells #[.int .i64 p, .int .i64 (lvl : Int), .slice ea es.length ec, tv] 85)).heap.size = w.heap.size + 1 := by simp
    have bw := HH.out.2.2.1.trans (hbw.mono (Nat.le_succ _))
    by_cases hlt : j < es.length
    · obtain ⟨a, ha⟩ : ∃ a, es[j]? = some a := ⟨_, List.getElem?_eq_getElem hlt⟩
      have hr := HH.out.1.step (Step.of_below bw S)
      obtain ⟨g, o, cap, ka, kc, va, vc, e0, hg, c0, c1, c2, hk, hv⟩ := hr.ent ha
      simp only [Value.slice.injEq] at e0
      obtain ⟨rfl, _, rfl⟩ := e0
      have hs := nsize_take_succ lvl es j a ha
      have hle : nsize lvl (es.take j) ≤ 562984313159680 := by
        have h1 := nsize_upto (lvl := lvl) (es := es.take j) (n := 131080) (fun e he => (HH.out.2.1.esize (lvl := lvl)) e (List.mem_of_mem_take he))
        have h2 : (es.take j).length ≤ 4294967296 := by rw [List.length_take]; omega
        have := Nat.le_trans h1 (Nat.mul_le_mul_right 131080 h2)
        omega
      have hle2 := HH.out.2.1.esize (lvl := lvl) a (List.mem_of_getElem? ha)
      have c3 : wr.cell? ⟨w.heap.size, 1, none⟩ = some (.int .i64 (lvl : Int)) := (hbw.cell (p := ⟨w.heap.size, 1, none⟩) (by simp)).trans HH.out.2.2.2
      have hil : (j : Int) < (es.length : Int) := by omega
      have hw1 : Below wr.heap.size wr (wr.alloc (.cells #[.slice ka a.key.length kc, .slice va a.val.length vc, .int .i64 (a.page : Nat)] 93)) := (Below.refl _ _).alloc (Nat.le_refl _) _
      have E := esize_any (k := .slice ka a.key.length kc) (v := .slice va a.val.length vc) (p := (a.page : Nat)) (lvl := lvl) a _ (hk.1.below hw1) (hv.1.below hw1) (HH.out.2.1 a (List.mem_of_getElem? ha)).1 (HH.out.2.1 a (List.mem_of_getElem? ha)).2
      have hsz : w.heap.size < wr.heap.size := by have := hbw.size; rw [z] at this; omega
      have H2 := Lib.hid (And.intro hs (And.intro hbw (And.intro hw1 hsz)))
      clear hr ha hs hk hv hbw bw hw1
      go_wp2_with fail
      refine E.mono ?_
      rintro e w1 ⟨rfl, hb1⟩
      clear E
      have H3 := Lib.hid hb1
      clear hb1
      generalize nsize lvl (es.take j) = m at *
      generalize esize lvl a = n at *
      go_wp2
      go_roundw
      case rel =>
        refine ⟨j + 1, by omega, by go_num, by rw [H2.out.1]; go_num, ?_⟩
        exact (H2.out.2.1.trans (H2.out.2.2.1.mono H2.out.2.2.2)).trans (H3.out.mono (by have := H2.out.2.2.1.size; omega))
      case measure => simp [intOf]; omega
    · obtain rfl : j = es.length := by omega
      rw [List.take_length]
      go_wp2
      go_ret
      exact ⟨rfl, bw⟩
end Go.Proofs.YtgekeemhbnhelaaGreat
namespace Go.Proofs.YtgekeemhbnhelaaGreat
open Go.RowKit

/-- A row of the call's own, empty, with room or nil. -/
def Grows (w : World) (e : Ending) (w' : World) : Prop := ∃ v, e = .returned v ∧ w'.ownsRow 0 93 3 v 0 [] ∧ Below w.heap.size w w' ∧ ∀ q, v.ownBlock = some q → w.heap.size ≤ q

set_option maxHeartbeats 400000 in
theorem grow_any (n : Nat) (w : World) (hn : n ≤ 2147483648) : Calls Tryz.prog 92 #[.slice none 0 0, .int .i64 (n : Int)] w (Grows w) := by
  rcases Nat.eq_zero_or_pos n with h0 | h0
  · subst h0
    go_enter Tryz.func92, Tryz.ntmps92
    go_wp2
    go_ret
    exact ⟨_, rfl, World.ownsRow_nil _ _ _ _, Below.refl _ _, fun q h => by cases h⟩
  · obtain ⟨i, z, hi, hz, hsz, hzs, hby⟩ := ent_ty.info
    have hsz : i.size = 3 := hsz
    have hzs : z.cells.size = 3 := hzs
    have hr : ∀ ty, (Builtin.append_ #[83, 3] ty #[.slice none 0 0, .int .i64 (n : Int)]).run Tryz.prog w = _ := fun ty => Lib.run_append_nil_zeros w 83 3 ty 93 i z .i64 .i64 Tryz.underlying83 Tryz.underlying3 hi hz n h0 (by omega) (by omega) (by
      have := Nat.mul_le_mul hn hby
      omega)
    have hge := grownCap_ge w n 0 93
    have hle := grownCap_le_maxLen w n 0 93 (by unfold maxLen; omega)
    have hcs : (Builtin.zeroCells z.cells n ++ Builtin.zeroCells z.cells (grownCap w n 0 93 - n)).size = grownCap w n 0 93 * 3 := by
      simp [Builtin.zeroCells, hzs]
      omega
    have own := World.ownsRow_made (base := 0) (e := 93) (size := 3) w.drew _ (grownCap w n 0 93) (Nat.zero_le _) hle hcs
    have hb : Below w.heap.size w (w.drew.alloc (.cells (Builtin.zeroCells z.cells n ++ Builtin.zeroCells z.cells (grownCap w n 0 93 - n)) 93)) := ((Below.refl _ _).drew).alloc (Nat.le_refl _) _
    generalize grownCap w n 0 93 = c at *
    generalize w.drew.alloc (.cells (Builtin.zeroCells z.cells n ++ Builtin.zeroCells z.cells (c - n)) 93) = w1 at *
    have hni : (0 : Int) < (n : Int) := by omega
    have hn2 : (n : Int) ≤ 2147483648 := by omega
    have H := Lib.hid (And.intro own hb)
    clear own hb hi hz hsz hzs hby hcs h0
    go_enter Tryz.func92, Tryz.ntmps92
    go_wp2_with (at_builtin; refine Lib.wpList_append_run _ rfl _ _ _ _ rfl _ _ rfl rfl _ _ (hr _) ?_)
    go_ret
    refine ⟨_, rfl, H.out.1, H.out.2, fun q h => ?_⟩
    cases h
    exact Nat.le_refl _

def lenE (l : List (List En)) : Nat := (l.map List.length).sum
theorem lenE_take_succ {l : List (List En)} {j : Nat} {e : List En} (h : l[j]? = some e) : lenE (l.take (j + 1)) = lenE (l.take j) + e.length := by
  unfold lenE
  rw [List.take_add_one, h]
  simp
theorem lenE_take_le (l : List (List En)) (j : Nat) : lenE (l.take j) ≤ lenE l := by
  have h : lenE l = lenE (l.take j) + lenE (l.drop j) := by
    unfold lenE
    rw [← List.sum_append, ← List.map_append, List.take_append_drop]
  omega
theorem lenE_flatten (l : List (List En)) : l.flatten.length = lenE l := by simp [lenE, List.length_flatten]
theorem flatten_take_succ {l : List (List En)} {j : Nat} {e : List En} (h : l[j]? = some e) : (l.take (j + 1)).flatten = (l.take j).flatten ++ e := by
  rw [List.take_add_one, h]
  simp
/-- A row of rows. -/
theorem Rd.row {w : World} {S : Nat → Prop} {v : Value} {l : List (List En)} (h : Rd kdEs w S v l) {i : Nat} {es : List En} (he : l[i]? = some es) : ∃ g o cap ea ec, v = .slice (some ⟨g, o, none⟩) l.length cap ∧ g < w.heap.size ∧
    w.cell? ⟨g, o + i, none⟩ = some (.slice ea es.length ec) ∧ Rd kdEn w S (.slice ea es.length ec) es := by
  obtain ⟨g, o, cap, ⟨⟨ea, en, ec⟩, l'⟩, h1, h2, h3, h4, h5, _⟩ := h.at he
  have h2 : l' = es := h2
  subst h2
  obtain ⟨_, _, e1, _⟩ := Rd.shape h3
  simp only [Sl.v, Value.slice.injEq] at e1
  obtain ⟨_, rfl, _⟩ := e1
  refine ⟨g, o, cap, ea, ec, h1, h4, ?_, h3⟩
  have := h5 0 _ rfl
  simpa [kdEs, Sl.v] using this

/-- What Concat answers: a row of the call's own. -/
def Concats (w : World) (S : Nat → Prop) (l : List En) (e : Ending) (w' : World) : Prop :=
  ∃ v, e = .returned v ∧ Rd kdEn w' S v l ∧ Below w.heap.size w w' ∧ ∀ q, v.ownBlock = some q → w.heap.size ≤ q

/-- Own rows and what is handed in, as the second loop has them. -/
structure CcR (w : World) (S : Nat → Prop) (lss : List (List En)) (av : Value) (wr : World) (j : Nat) (r : Value) (Sx : Nat → Prop) : Prop where
  ro : Ro kdEn 93 wr Sx r (lss.take j).flatten
  rd : Rd kdEs wr Sx av lss
  bel : Below w.heap.size w wr
  own : ∀ q, r.ownBlock = some q → w.heap.size ≤ q
  incl : ∀ q, S q → Sx q

set_option maxHeartbeats 1000000 in
theorem concat_any {av : Value} {S : Nat → Prop} {lss : List (List En)} (w : World) (h : Rd kdEs w S av lss) (hS : ∀ q, S q → q < w.heap.size) (hl : lss.length ≤ 1000) (hn : lenE lss ≤ 2147483648) :
    Calls Tryz.prog 66 #[av] w (Concats w S lss.flatten) := by
  have G := grow_any (lenE lss) w hn
  obtain ⟨aa, ac, rfl, _⟩ := h.shape
  have HH := Lib.hid (And.intro h hS)
  clear h hS
  go_enter Tryz.func66, Tryz.ntmps66
  go_wp2
  go_loopw [3, 11] (fun s i wr => ∃ j : Nat, j ≤ lss.length ∧ i = .int .i64 j ∧ s = .int .i64 (lenE (lss.take j) : Nat) ∧ wr = w) (fun _ i _ => lss.length - (intOf i).toNat)
  case atStart => exact ⟨0, Nat.zero_le _, rfl, rfl, rfl⟩
  case round =>
    obtain ⟨j, hj, rfl, rfl, rfl⟩ := hrel
    by_cases hlt : j < lss.length
    · obtain ⟨es, hes⟩ : ∃ es, lss[j]? = some es := ⟨_, List.getElem?_eq_getElem hlt⟩
      obtain ⟨g, o, cap, ea, ec, e0, hg, c0, hr⟩ := HH.out.1.row hes
      simp only [Value.slice.injEq] at e0
      obtain ⟨rfl, _, rfl⟩ := e0
      have hil : (j : Int) < (lss.length : Int) := by omega
      have hs := lenE_take_succ hes
      have hle := lenE_take_le lss (j + 1)
      have HS := Lib.hid hs
      have h1 : (lenE (lss.take j) : Int) + (es.length : Int) ≤ 2147483648 := by omega
      have h0 : ¬ (lenE (lss.take j) : Int) + (es.length : Int) < 0 := by omega
      have h00 : decide ((lenE (lss.take j) : Int) + (es.length : Int) < 0) = false := by simp; omega
      clear hs hr hes hle
      generalize lenE (lss.take j) = m at *
      generalize es.length = k at *
      go_wp2
      go_roundw
      case rel => exact ⟨j + 1, by omega, by go_num, by rw [HS.out]; go_num, by trivial⟩
      case measure => simp [intOf]; omega
    · obtain rfl : j = lss.length := by omega
      rw [List.take_length]
      go_wp2_with fail
      refine G.mono ?_
      rintro e w1 ⟨v, rfl, ho, hb1, hv⟩
      clear G
      have hstart : CcR wr S lss (.slice aa lss.length ac) w1 0 v (Sv S v) := by
        have st : Step S wr w1 (Sv S v) := ⟨Only.of_below hb1 S, fun q hq => hq.elim .inl fun h => .inr (hv q h)⟩
        exact ⟨⟨[], rfl, ho, (fun _ h => by cases h), fun q h => .inr h⟩, HH.out.1.step st, hb1, hv, fun q h => .inl h⟩
      have H1 := Lib.hid hstart
      clear ho hb1 hv hstart
      go_wp2
      go_loopw [6, 27] (fun r i w2 => ∃ (j : Nat) (Sx : Nat → Prop), j ≤ lss.length ∧ i = .int .i64 j ∧ CcR wr S lss (.slice aa lss.length ac) w2 j r Sx) (fun _ i _ => lss.length - (intOf i).toNat)
      case atStart => exact ⟨0, _, Nat.zero_le _, rfl, H1.out⟩
      case round =>
        obtain ⟨j, Sx, hj, rfl, hR⟩ := hrel
        by_cases hlt : j < lss.length
        · obtain ⟨es, hes⟩ : ∃ es, lss[j]? = some es := ⟨_, List.getElem?_eq_getElem hlt⟩
          obtain ⟨g, o, cap, ea, ec, e0, hg, c0, hr⟩ := hR.rd.row hes
          simp only [Value.slice.injEq] at e0
          obtain ⟨rfl, _, rfl⟩ := e0
          have hil : (j : Int) < (lss.length : Int) := by omega
          have hlen : ((lss.take j).flatten).length + es.length ≤ 4294967296 := by
            rw [lenE_flatten]
            have := lenE_take_succ hes
            have := lenE_take_le lss (j + 1)
            omega
          have H2 := Lib.hid (And.intro hR (And.intro hes hlen))
          have hro := hR.ro
          clear hR hes
          go_wp2_with (at_builtin; refine wpList_append_ro ent_ty rfl _ _ rfl rfl rfl hro hr hlen ?_; intro v' w6 ro6 st6 gr6 lo6)
          go_roundw
          case rel =>
            obtain ⟨hR, hes, _⟩ := H2.out
            refine ⟨j + 1, _, by omega, by go_num, ⟨?_, hR.rd.step st6, ?_, fun q hq => ?_, fun q h => .inl (hR.incl q h)⟩⟩
            · rw [flatten_take_succ hes]
              exact ro6
            · exact hR.bel.grown gr6 hR.bel.size fun k hk => hR.own k hk
            · rcases lo6 with h | h
              · exact hR.own q (h ▸ hq)
              · rw [h] at hq
                cases hq
                exact hR.bel.size
          case measure => simp [intOf]; omega
        · obtain rfl : j = lss.length := by omega
          have H2 := Lib.hid hR
          clear hR
          go_wp2
          go_ret
          obtain hR := H2.out
          have hro := hR.ro
          rw [List.take_length] at hro
          exact ⟨_, rfl, hro.rd hR.incl (fun q hq hs => by have := hR.own q hq; have := HH.out.2 q hs; omega), hR.bel, hR.own⟩
end Go.Proofs.YtgekeemhbnhelaaGreat
namespace Go.Proofs.YtgekeemhbnhelaaGreat
open Go.RowKit

/-- How entries are parted: none, one node, or two of about one size. -/
def Halved (lvl : Nat) (es : List En) (L : List (List En)) : Prop :=
  (es = [] ∧ L = []) ∨ (es ≠ [] ∧ nsize lvl es ≤ 503 ∧ L = [es]) ∨
  (503 < nsize lvl es ∧ ∃ k, 0 < k ∧ k ≤ es.length ∧ L = [es.take k, es.drop k] ∧ nsize lvl es / 2 ≤ nsize lvl (es.take k) ∧ nsize lvl (es.take (k - 1)) < nsize lvl es / 2)
/-- A node of these entries, as it is made. -/
def mkN (lvl : Nat) (es : List En) : Nd := ⟨0, lvl, es, []⟩
/-- What halved answers. -/
def Halves (w : World) (S : Nat → Prop) (lvl : Nat) (es : List En) (e : Ending) (w' : World) : Prop :=
  ∃ v L, e = .returned v ∧ Halved lvl es L ∧ Rd kdNd w' S v (L.map (mkN lvl)) ∧ Below w.heap.size w w'

set_option maxHeartbeats 1000000 in
theorem halved_any {ev : Value} {S : Nat → Prop} {lvl : Nat} {es : List En} (w : World) (h : Rd kdEn w S ev es) (hf : Few es) (hn : es.length ≤ 1000000) (hS : ∀ q, S q → q < w.heap.size) :
    Calls Tryz.prog 116 #[.int .i64 (lvl : Int), ev] w (Halves w S lvl es) := by
  have hb : Below w.heap.size w (w.alloc (.cells #[.int .i64 0, .int .i64 (lvl : Int), ev, .slice none 0 0] 85)) := (Below.refl _ _).alloc (Nat.le_refl _) _
  have Z := size_any' (p := 0) (lvl := lvl) (tv := .slice none 0 0) _ (h.step (Step.of_below hb S)) hf (by omega)
  have hsz : nsize lvl es ≤ 1000000 * 131080 := Nat.le_trans (nsize_upto fun e he => hf.esize (lvl := lvl) e he) (Nat.mul_le_mul_right _ hn)
  have hpos := fun hne => nsize_pos lvl (l := es) hne
  obtain ⟨ea, ec, rfl, _⟩ := h.shape
  have HH := Lib.hid (And.intro h (And.intro hf (And.intro hb (And.intro hpos hS))))
  have hb1 : ∀ j, nsize lvl (es.take j) ≤ nsize lvl es := nsize_take_le lvl es
  have HB := Lib.hid hb1
  clear h hf hb hpos hS hb1
  generalize hsize : nsize lvl es = size at *
  by_cases h0 : size = 0
  · have he : es = [] := by
      rcases es with _ | ⟨a, r⟩
      · rfl
      · have := HH.out.2.2.2.1 (by simp); omega
    subst h0
    have HE := Lib.hid he
    clear he
    go_enter Tryz.func116, Tryz.ntmps116
    go_wp2_with fail
    refine Z.mono ?_
    rintro e w1 ⟨rfl, hb1⟩
    clear Z
    have H1 := Lib.hid hb1
    clear hb1
    go_wp2
    go_ret
    exact ⟨_, [], rfl, .inl ⟨HE.out, rfl⟩, Rd.nil _ _ _, HH.out.2.2.1.trans (H1.out.mono HH.out.2.2.1.size)⟩
  · have hne : es ≠ [] := fun e => by subst e; exact h0 hsize.symm
    have hb0 : ((size : Int) == 0) = false := by rw [beq_eq_false_iff_ne]; omega
    have HN := Lib.hid (And.intro hne hsize)
    clear h0 hne
    by_cases h5 : size ≤ 503
    · have hi5 : (size : Int) ≤ 503 := by omega
      have H5 := Lib.hid h5
      clear h5 hsize
      go_enter Tryz.func116, Tryz.ntmps116
      go_wp2_with fail
      refine Z.mono ?_
      rintro e w1 ⟨rfl, hb1⟩
      clear Z
      obtain ⟨h, hf, hb, hpos, hS⟩ := HH.out
      have hz : (w.alloc (.cells #[.int .i64 0, .int .i64 (lvl : Int), .slice ea es.length ec, .slice none 0 0] 85)).heap.size = w.heap.size + 1 := by simp
      have C1 := (Cel.new w #[.int .i64 0, .int .i64 (lvl : Int), .slice ea es.length ec, .slice none 0 0] 85).below hb1 (by omega)
      have c0 : w1.cell? ⟨w.heap.size, 0, none⟩ = some (.int .i64 0) := C1.cell 0
      have c1 : w1.cell? ⟨w.heap.size, 1, none⟩ = some (.int .i64 (lvl : Int)) := C1.cell 1
      have c2 : w1.cell? ⟨w.heap.size, 2, none⟩ = some (.slice ea es.length ec) := C1.cell 2
      have c3 : w1.cell? ⟨w.heap.size, 3, none⟩ = some (.slice none 0 0) := C1.cell 3
      have H1 := Lib.hid hb1
      clear h hf hb hpos hS C1 hb1 hz
      go_wp2
      go_ret
      obtain ⟨h, hf, hb, hpos, hS⟩ := HH.out
      have hbw := hb.trans (H1.out.mono hb.size)
      refine ⟨_, [es], rfl, .inr (.inl ⟨HN.out.1, by rw [HN.out.2]; exact H5.out, rfl⟩), ?_, hbw.alloc hbw.size _⟩
      exact rd_lit kdNd w1 85 S (fun q hq => Nat.lt_of_lt_of_le (hS q hq) hbw.size) [⟨⟨ea, es.length, ec⟩, ⟨none, 0, 0⟩, mkN lvl es⟩] _ rfl (fun t ht => by
        simp only [List.mem_singleton] at ht
        subst ht
        exact ⟨h.step (Step.of_below hbw S), Bsf.nil _ _⟩) (by simp) rfl
    · have hi5 : decide ((size : Int) ≤ 503) = false := by simp; omega
      have hi6 : (503 : Int) < (size : Int) := by omega
      have H5 := Lib.hid h5
      clear h5 hsize
      go_enter Tryz.func116, Tryz.ntmps116
      go_wp2_with fail
      refine Z.mono ?_
      rintro e w1 ⟨rfl, hb1⟩
      clear Z
      have hbw := HH.out.2.2.1.trans (hb1.mono HH.out.2.2.1.size)
      have H1 := Lib.hid hbw
      clear hb1 hbw
      go_wp2
      go_loopw [7, 8] (fun i s wr => ∃ j : Nat, j ≤ es.length ∧ i = .int .i64 j ∧ s = .int .i64 (nsize lvl (es.take j) : Nat) ∧ (0 < j → nsize lvl (es.take (j - 1)) < size / 2) ∧ Below w.heap.size w wr) (fun i _ _ => es.length - (intOf i).toNat)
      case atStart => exact ⟨0, Nat.zero_le _, rfl, rfl, fun h => absurd h (Nat.not_lt_zero _), H1.out⟩
      case round =>
        obtain ⟨j, hj, rfl, rfl, hbef, hbr⟩ := hrel
        by_cases hlt : nsize lvl (es.take j) < size / 2
        · have hjl : j < es.length := by
            rcases Nat.lt_or_ge j es.length with h | h
            · exact h
            · rw [List.take_of_length_le h, HN.out.2] at hlt
              omega
          obtain ⟨a, ha⟩ : ∃ a, es[j]? = some a := ⟨_, List.getElem?_eq_getElem hjl⟩
          have hr := HH.out.1.step (Step.of_below hbr S)
          obtain ⟨g, o, cap, ka, kc, va, vc, e0, hg, c0, c1, c2, hk, hv⟩ := hr.ent ha
          simp only [Value.slice.injEq] at e0
          obtain ⟨rfl, _, rfl⟩ := e0
          have hil : (j : Int) < (es.length : Int) := by omega
          have hs := nsize_take_succ lvl es j a ha
          have hle := HB.out (j + 1)
          have hcond : (nsize lvl (es.take j) : Int) < (size : Int) / 2 := by omega
          have hfa := HH.out.2.1 a (List.mem_of_getElem? ha)
          have E := esize_any (k := .slice ka a.key.length kc) (v := .slice va a.val.length vc) (p := (a.page : Nat)) (lvl := lvl) a wr hk.1 hv.1 hfa.1 hfa.2
          have hbound : (nsize lvl (es.take j) : Int) + (esize lvl a : Int) ≤ 131080000000 := by omega
          have H2 := Lib.hid (And.intro hs (And.intro hlt hbr))
          clear hr ha hs hk hv hbr hfa hbef hle hlt
          go_wp2_with fail
          refine E.mono ?_
          rintro e w2 ⟨rfl, hb2⟩
          clear E
          have H3 := Lib.hid hb2
          clear hb2
          generalize hm : nsize lvl (es.take j) = m at *
          generalize esize lvl a = n at *
          go_wp2
          go_roundw
          case rel => exact ⟨j + 1, by omega, by go_num, by rw [H2.out.1]; go_num, fun _ => by rw [Nat.add_sub_cancel, hm]; exact H2.out.2.1, H2.out.2.2.trans (H3.out.mono H2.out.2.2.size)⟩
          case measure => simp [intOf]; omega
        · have hcond : ¬ (nsize lvl (es.take j) : Int) < (size : Int) / 2 := by omega
          have hj0 : 0 < j := by
            rcases Nat.eq_zero_or_pos j with e | e
            · subst e
              exact absurd (show nsize lvl (es.take 0) < size / 2 by simp [nsize]; omega) hlt
            · exact e
          have H2 := Lib.hid (And.intro hbr (And.intro (hbef hj0) (And.intro hlt hj0)))
          have hji : (j : Int) ≤ (es.length : Int) := by omega
          have hj0i : (0 : Int) ≤ (j : Int) := by omega
          have hcapi : (es.length : Int) ≤ (ec : Int) := by
            obtain ⟨_, _, e, h1, _⟩ := HH.out.1.shape
            simp only [Value.slice.injEq] at e
            obtain ⟨_, _, rfl⟩ := e
            omega
          clear hbr hbef hlt hj0
          generalize hm : nsize lvl (es.take j) = m at *
          have HM := Lib.hid hm
          clear hm
          go_wp2_with fail
          go_region
          generalize hda : (if ec = j then ea else Option.map (fun x => x.add (j * 3)) ea) = da
          have HD := Lib.hid hda
          clear hda
          go_wp2
          go_ret
          obtain ⟨hbr, hbef, hge, hj0⟩ := H2.out
          obtain ⟨h, hf, hb, hpos, hS⟩ := HH.out
          have hrd := h.step (Step.of_below hbr S)
          refine ⟨_, [es.take j, es.drop j], rfl, .inr (.inr ⟨by rw [HN.out.2]; omega, j, hj0, hj, rfl, by rw [HN.out.2, HM.out]; omega, by rw [HN.out.2]; exact hbef⟩), ?_, (hbr.alloc hbr.size _).drew⟩
          have h1 := hrd.upto j hj
          have h2 : Rd kdEn wr S (.slice (if ec = j then ea else Option.map (fun x => x.add (j * 3)) ea) (es.length - j) (ec - j)) (es.drop j) := hrd.from j hj
          rw [HD.out] at h2
          suffices hx : Rd kdNd (wr.alloc _) S (.slice (some ⟨wr.heap.size, 0, none⟩) 2 2) ([es.take j, es.drop j].map (mkN lvl)) from hx.step (Step.refl S _).drew
          refine rd_lit kdNd wr 85 S (fun q hq => Nat.lt_of_lt_of_le (hS q hq) hbr.size) [⟨⟨ea, j, ec⟩, ⟨none, 0, 0⟩, mkN lvl (es.take j)⟩, ⟨⟨da, es.length - j, ec - j⟩, ⟨none, 0, 0⟩, mkN lvl (es.drop j)⟩] _ rfl (fun t ht => ?_) (by simp) rfl
          rcases List.mem_cons.1 ht with rfl | ht
          · exact ⟨h1, Bsf.nil _ _⟩
          · simp only [List.mem_singleton] at ht
            subst ht
            exact ⟨h2, Bsf.nil _ _⟩
end Go.Proofs.YtgekeemhbnhelaaGreat
namespace Go.Proofs.YtgekeemhbnhelaaGreat

section
variable {P : Program} {ops : Array Oper} {Q : Exit → Act → World → Prop} {md : Region.Mode} {S : World → Prop} {t : Nat}

/-- Whatever order is picked; S holds behind each operation but number t. -/
def AnyTill (P : Program) (md : Region.Mode) (ops : Array Oper) (Q : Exit → Act → World → Prop) (S : World → Prop) (t : Nat) : Nat → Array Bool → Act → World → Prop
  | 0, listed, a, w => Region.ready md ops listed = [] ∧ Q .normal a w
  | n + 1, listed, a, w => (Region.ready md ops listed = [] → Q .normal a w) ∧
      ∀ i ∈ Region.ready md ops listed, wpOp P ops Q i (fun a' w' => (i ≠ t → S w') ∧ AnyTill P md ops Q S t n (listed.setIfInBounds i true) a' w') a w

theorem AnyTill.any : ∀ (n : Nat) (listed : Array Bool) (a : Act) (w : World), AnyTill P md ops Q S t n listed a w → wpAny P md ops Q n listed a w
  | 0, _, _, _, h => h
  | n + 1, _, _, _, h => ⟨h.1, fun i hi => wpOp_mono (fun a' w' hh => AnyTill.any n _ a' w' hh.2) (h.2 i hi)⟩

/-- No operation that is ready waits for one that has not come up. -/
theorem ready_waits {listed : Array Bool} {i j : Nat} {oj : Oper} (hi : i ∈ Region.ready md ops listed) (hj : j ∈ Region.ready md ops listed) (hoj : ops[j]? = some oj) : ∀ e ∈ oj.after, Region.binds md e = true → e.on ≠ i := by
  intro e he hb heq
  obtain ⟨_, o', ho', hall⟩ := mem_ready.1 hj
  obtain rfl : oj = o' := Option.some.inj (hoj.symm.trans ho')
  have h1 := hall e he hb
  have h0 := (mem_ready.1 hi).1
  rw [heq] at h1
  by_cases hl : i < listed.size
  · rw [Array.getD_eq_getD_getElem?, Array.getElem?_eq_getElem hl] at h0 h1
    simp only [Option.getD_some] at h0 h1
    rw [h0] at h1
    cases h1
  · rw [Array.getD_eq_getD_getElem?, Array.getElem?_eq_none (by omega)] at h1
    cases h1

theorem AnyTill.first {i : Nat} {oi : Oper} {v : Value} (hi : ops[i]? = some oi) (hwait : ∀ ot, ops[t]? = some ot → ∃ e ∈ ot.after, Region.binds md e = true ∧ e.on = i)
    (hsel : ∀ (j : Nat) (o : Oper) cs b, ops[j]? = some o → o.op ≠ .select cs b) (hQ : ∀ c a w, Q (.panic c) (a.put oi.dst v) w → Q (.panic c) a w) :
    ∀ (n : Nat) (listed : Array Bool) (a : Act) (w : World),
      (∀ j oj, ops[j]? = some oj → j ≠ i → listed.getD j true = false → (∀ e ∈ oj.after, Region.binds md e = true → e.on ≠ i) → oi.apart ops oj = true) →
      i ∈ Region.ready md ops listed → YieldsIf P ops S oi v a → S w → i ≠ t →
      AnyTill P md ops Q S t n (listed.setIfInBounds i true) (a.put oi.dst v) w → AnyTill P md ops Q S t (n + 1) listed a w := by
  intro n
  induction n with
  | zero =>
    intro listed a w _ hr hy hS hit H
    refine ⟨fun h => absurd hr (by rw [h]; simp), fun j hj => ?_⟩
    rcases Decidable.em (j = i) with rfl | hji
    · exact hy.wpOp hi hS ⟨fun _ => hS, H⟩
    · exact absurd (ready_mono hj hji) (by rw [H.1]; simp)
  | succ n ih =>
    intro listed a w hfree hr hy hS hit H
    refine ⟨fun h => absurd hr (by rw [h]; simp), fun j hj => ?_⟩
    rcases Decidable.em (j = i) with rfl | hji
    · exact hy.wpOp hi hS ⟨fun _ => hS, H⟩
    obtain ⟨hun, oj, hoj, _⟩ := mem_ready.1 hj
    have hno := ready_waits hr hj hoj
    have hjt : j ≠ t := by
      rintro rfl
      obtain ⟨e, he, hb, hon⟩ := hwait oj hoj
      exact hno e he hb hon
    have step := wpOp_putIf hoj (hfree j oj hoj hji hun hno) (fun cs b => hsel i oi cs b hi) (fun cs b => hsel j oj cs b hoj) hQ hy (H.2 j (ready_mono hj hji))
    refine wpOp_mono (fun a' w' ⟨hy', hS', hrest⟩ => ⟨hS', ih _ a' w' (fun k ok hk hki hunk hnk => ?_) (ready_mono hr (fun e => hji e.symm)) hy' (hS' hjt) hit ?_⟩) step
    · refine hfree k ok hk hki ?_ hnk
      rcases Decidable.em (j = k) with rfl | hjk
      · exact hun
      · rwa [getD_set_ne true hjk] at hunk
    · rw [Array.setIfInBounds_comm _ _ hji]
      exact hrest

/-- Does the last operation wait for number i? (If there is no number t: yes.) -/
def waitsB (md : Region.Mode) (ops : Array Oper) (t i : Nat) : Bool :=
  match ops[t]? with
  | some o => o.after.any fun e => Region.binds md e && e.on == i
  | none => true

/-- Number i is taken first; its slot is d. -/
theorem take_till {i : Nat} {oi : Oper} (d : Option Tmp) (v : Value) {n : Nat} {listed : Array Bool} {a : Act} {w : World} (hi : ops[i]? = some oi) (hd : oi.dst = d) (hs : Region.noSelect ops = true) (hf : Region.free md ops listed i = true)
    (hr : (Region.ready md ops listed).contains i = true) (hwt : waitsB md ops t i = true) (hit : i ≠ t) (hQ : ∀ c a w, Q (.panic c) (a.put d v) w → Q (.panic c) a w)
    (hw : Region.wanted oi (yielded ops a.tmps) = true) (hy : ∀ w, S w → (execOp a.eval oi).run P w = .ok (.value v) w) (hS : S w)
    (h : AnyTill P md ops Q S t n (listed.setIfInBounds i true) (a.put d v) w) : AnyTill P md ops Q S t (n + 1) listed a w := by
  subst hd
  refine AnyTill.first hi (fun ot hot => ?_) (Region.noSelect_spec hs) hQ n listed a w (Region.free_spec hi hf) (by simpa using hr) (.inl ⟨hw, hy⟩) hS hit h
  unfold waitsB at hwt
  rw [hot] at hwt
  obtain ⟨e, he, hb⟩ := Array.any_eq_true'.1 hwt
  simp only [Bool.and_eq_true, beq_iff_eq] at hb
  exact ⟨e, he, hb.1, hb.2⟩

/-- Number i's guard is against it. -/
theorem skip_till {i : Nat} {oi : Oper} (d : Option Tmp) {n : Nat} {listed : Array Bool} {a : Act} {w : World} (hi : ops[i]? = some oi) (hd : oi.dst = d) (hs : Region.noSelect ops = true) (hf : Region.free md ops listed i = true)
    (hr : (Region.ready md ops listed).contains i = true) (hwt : waitsB md ops t i = true) (hit : i ≠ t) (hQ : ∀ c a w, Q (.panic c) (a.put d undef) w → Q (.panic c) a w)
    (hw : Region.wanted oi (yielded ops a.tmps) = false) (hS : S w)
    (h : AnyTill P md ops Q S t n (listed.setIfInBounds i true) (a.put d undef) w) : AnyTill P md ops Q S t (n + 1) listed a w := by
  subst hd
  refine AnyTill.first hi (fun ot hot => ?_) (Region.noSelect_spec hs) hQ n listed a w (Region.free_spec hi hf) (by simpa using hr) (.inr ⟨hw, rfl⟩) hS hit h
  unfold waitsB at hwt
  rw [hot] at hwt
  obtain ⟨e, he, hb⟩ := Array.any_eq_true'.1 hwt
  simp only [Bool.and_eq_true, beq_iff_eq] at hb
  exact ⟨e, he, hb.1, hb.2⟩

/-- The one that is ready comes up next. -/
theorem next_till (i : Nat) {o : Oper} {n : Nat} {listed : Array Bool} {a : Act} {w : World} (hr : Region.ready md ops listed = [i]) (ho : ops[i]? = some o)
    (h : ∀ K : Act → World → Prop, Shut (∀ a w, (i ≠ t → S w) → AnyTill P md ops Q S t n (listed.setIfInBounds i true) a w → K a w) → if Region.wanted o (yielded ops a.tmps) = true then Oper.wp P o a w K Q else K (a.put o.dst undef) w) :
    AnyTill P md ops Q S t (n + 1) listed a w := by
  refine ⟨fun h0 => (by rw [hr] at h0; cases h0), fun j hj => ?_⟩
  rw [hr] at hj
  obtain rfl : j = i := by simpa using hj
  exact wpOp_step ho (fun K hK => h K (fun a w hS hW => hK a w ⟨hS, hW⟩))

/-- Two are ready. -/
theorem two_till (i j : Nat) {oi oj : Oper} {n : Nat} {listed : Array Bool} {a : Act} {w : World} (hr : Region.ready md ops listed = [i, j]) (hi : ops[i]? = some oi) (hj : ops[j]? = some oj)
    (h1 : ∀ K : Act → World → Prop, Shut (∀ a w, (i ≠ t → S w) → AnyTill P md ops Q S t n (listed.setIfInBounds i true) a w → K a w) → if Region.wanted oi (yielded ops a.tmps) = true then Oper.wp P oi a w K Q else K (a.put oi.dst undef) w)
    (h2 : ∀ K : Act → World → Prop, Shut (∀ a w, (j ≠ t → S w) → AnyTill P md ops Q S t n (listed.setIfInBounds j true) a w → K a w) → if Region.wanted oj (yielded ops a.tmps) = true then Oper.wp P oj a w K Q else K (a.put oj.dst undef) w) :
    AnyTill P md ops Q S t (n + 1) listed a w := by
  refine ⟨fun h0 => (by rw [hr] at h0; cases h0), fun x hx => ?_⟩
  rw [hr] at hx
  rcases List.mem_cons.1 hx with rfl | hx
  · exact wpOp_step hi (fun K hK => h1 K (fun a w hS hW => hK a w ⟨hS, hW⟩))
  · obtain rfl := List.mem_singleton.1 hx
    exact wpOp_step hj (fun K hK => h2 K (fun a w hS hW => hK a w ⟨hS, hW⟩))

theorem done_till {listed : Array Bool} {a : Act} {w : World} (hr : Region.ready md ops listed = []) (h : Q .normal a w) : ∀ n, AnyTill P md ops Q S t n listed a w
  | 0 => ⟨hr, h⟩
  | _ + 1 => ⟨fun _ => h, by rw [hr]; simp⟩

theorem region_till {id : Nat} {a : Act} {w : World} (t : Nat) (S : World → Prop) (hm : P.follows .mixedOrders = true) (hS : S w.drew)
    (h : S w.drew → AnyTill P .any ops Q S t ops.size (Array.replicate ops.size false) a w.drew) : (Code.region id ops true).wp P Q a w :=
  wp_region_any hm (AnyTill.any _ _ _ _ (h hS))

/-- A built-in append whose run is known. -/
theorem wp_append_run {o : Oper} {a : Act} {w w' : World} {v x v' : Value} {K : Act → World → Prop} (sl xl : Operand) (ty : TypeId) (ho : o.op = .call { callee := .builtin .append, args := #[sl, xl], argTypes := #[ty, ty] }) (hs : a.eval sl = v) (hx : a.eval xl = x)
    (hr : (Builtin.append_ #[ty, ty] o.type #[v, x]).run P w = .ok v' w') (h : K (a.put o.dst v') w') : Oper.wp P o a w K Q := by
  unfold Oper.wp execOp
  simp only [ho, resolve, invoke, builtin, Sem.run_bind, Sem.run_pure, Result.andThen_ok, List.map_toArray, List.map_cons, List.map_nil, hs, hx, hr]
  exact h

/-! ### in a round of a range over a function -/
theorem rows_wide {n : Nat} {row : String} {args : Array Value} {w : World} {R : Value → World → Prop} (h : Rows P row args w R) : RowsIn Fence.wide n P row args w R :=
  fun c cs _ => let ⟨v, w', r, s⟩ := h c cs; ⟨v, w', r, stepsIn_wide.2 s⟩

theorem oper_round {l n : Nat} {o : Oper} {a : Act} {w : World} {K : Act → World → Prop} (hnd : ∀ c, o.op ≠ .defer c) (h : Oper.wp P o a w K Q) : o.wpIn (Fence.wide.inRound l) n P a w K Q := by
  refine ⟨fun _ _ => trivial, ?_⟩
  unfold Oper.wp at h
  have e : o.semAt (Fence.wide.inRound l).round a.eval = execOp a.eval o := Oper.semAt_some l a.eval o hnd
  rw [e]
  generalize (execOp a.eval o).run P w = r at h ⊢
  cases r with
  | ok x w' =>
    cases x
    case enter f args => exact ⟨fun hh => (by cases hh), CallsIn.inRound l (callsIn_wide.2 (Calls.mono h (fun e w'' he => (by cases e <;> exact he))))⟩
    case row row args => exact ⟨fun hh => (by cases hh), rows_wide h⟩
    all_goals first | exact h | exact h.elim
  | halt x w' => cases x <;> first | exact h | exact h.elim

theorem any_round {l n : Nat} (hnd : ∀ (i : Nat) (o : Oper), ops[i]? = some o → ∀ c, o.op ≠ .defer c) (hlo : ¬ LetsOut Q) : ∀ (k : Nat) (listed : Array Bool) (a : Act) (w : World), wpAny P md ops Q k listed a w → wpAnyIn (Fence.wide.inRound l) n P md ops Q k listed a w
  | 0, _, _, _, h => h
  | k + 1, listed, a, w, h => by
    refine ⟨h.1, fun i hi => ?_⟩
    have hop := h.2 i hi
    unfold wpOp at hop
    unfold wpOpIn
    split
    · rename_i ho
      simp only [ho] at hop
      exact any_round hnd hlo k _ a w hop
    · rename_i o ho
      simp only [ho] at hop
      split
      · rename_i hw
        simp only [hw, if_true] at hop
        rcases hop with hop | hop
        · exact oper_round (hnd i o ho) (Oper.wp_mono (fun a w hh => any_round hnd hlo k _ a w hh) hop)
        · exact absurd hop.2 hlo
      · rename_i hw
        simp only [hw] at hop
        exact ⟨fun _ _ => trivial, any_round hnd hlo k _ _ w hop⟩

/-- No operation of a region is a defer statement. -/
def noDeferB (ops : Array Oper) : Bool := ops.all fun o => match o.op with | .defer _ => false | _ => true
theorem noDefer_spec (h : noDeferB ops = true) : ∀ (i : Nat) (o : Oper), ops[i]? = some o → ∀ c, o.op ≠ .defer c := by
  intro i o hi c hc
  obtain ⟨hl, e⟩ := Array.getElem?_eq_some_iff.1 hi
  have := Array.all_eq_true.1 h i hl
  rw [e, hc] at this
  cases this

/-- The region in a round. -/
theorem region_till_round {l n id : Nat} {a : Act} {w : World} (t : Nat) (S : World → Prop) (hm : P.follows .mixedOrders = true) (hnd : noDeferB ops = true) (hlo : ¬ LetsOut Q) (hS : S w.drew)
    (h : S w.drew → AnyTill P .any ops Q S t ops.size (Array.replicate ops.size false) a w.drew) : (Code.region id ops true).wpIn (Fence.wide.inRound l) n P Q a w :=
  wpIn_region_any hm (any_round (noDefer_spec hnd) hlo _ _ _ _ (AnyTill.any _ _ _ _ (h hS)))
end
end Go.Proofs.YtgekeemhbnhelaaGreat
namespace Go.Proofs.YtgekeemhbnhelaaGreat

section
variable {P : Program} {ops : Array Oper} {Q : Exit → Act → World → Prop} {md : Region.Mode} {S : World → Prop} {t : Nat}

/-- Whatever order is picked; S holds till number t has come up. -/
def AnyUpto (P : Program) (md : Region.Mode) (ops : Array Oper) (Q : Exit → Act → World → Prop) (S : World → Prop) (t : Nat) : Nat → Array Bool → Act → World → Prop
  | 0, listed, a, w => Region.ready md ops listed = [] ∧ Q .normal a w
  | n + 1, listed, a, w => (Region.ready md ops listed = [] → Q .normal a w) ∧
      ∀ i ∈ Region.ready md ops listed, wpOp P ops Q i (fun a' w' => ((listed.setIfInBounds i true).getD t true = false → S w') ∧ AnyUpto P md ops Q S t n (listed.setIfInBounds i true) a' w') a w

theorem AnyUpto.any : ∀ (n : Nat) (listed : Array Bool) (a : Act) (w : World), AnyUpto P md ops Q S t n listed a w → wpAny P md ops Q n listed a w
  | 0, _, _, _, h => h
  | n + 1, _, _, _, h => ⟨h.1, fun i hi => wpOp_mono (fun a' w' hh => AnyUpto.any n _ a' w' hh.2) (h.2 i hi)⟩

theorem AnyUpto.first {i : Nat} {oi : Oper} {v : Value} (hi : ops[i]? = some oi) (hwait : ∀ ot, ops[t]? = some ot → ∃ e ∈ ot.after, Region.binds md e = true ∧ e.on = i)
    (hsel : ∀ (j : Nat) (o : Oper) cs b, ops[j]? = some o → o.op ≠ .select cs b) (hQ : ∀ c a w, Q (.panic c) (a.put oi.dst v) w → Q (.panic c) a w) :
    ∀ (n : Nat) (listed : Array Bool) (a : Act) (w : World),
      (∀ j oj, ops[j]? = some oj → j ≠ i → listed.getD j true = false → (∀ e ∈ oj.after, Region.binds md e = true → e.on ≠ i) → oi.apart ops oj = true) →
      i ∈ Region.ready md ops listed → YieldsIf P ops S oi v a → S w → i ≠ t → listed.getD t true = false →
      AnyUpto P md ops Q S t n (listed.setIfInBounds i true) (a.put oi.dst v) w → AnyUpto P md ops Q S t (n + 1) listed a w := by
  intro n
  induction n with
  | zero =>
    intro listed a w _ hr hy hS hit hlt H
    refine ⟨fun h => absurd hr (by rw [h]; simp), fun j hj => ?_⟩
    rcases Decidable.em (j = i) with rfl | hji
    · exact hy.wpOp hi hS ⟨fun _ => hS, H⟩
    · exact absurd (ready_mono hj hji) (by rw [H.1]; simp)
  | succ n ih =>
    intro listed a w hfree hr hy hS hit hlt H
    refine ⟨fun h => absurd hr (by rw [h]; simp), fun j hj => ?_⟩
    rcases Decidable.em (j = i) with rfl | hji
    · exact hy.wpOp hi hS ⟨fun _ => hS, H⟩
    obtain ⟨hun, oj, hoj, _⟩ := mem_ready.1 hj
    have hno := ready_waits hr hj hoj
    have hjt : j ≠ t := by
      rintro rfl
      obtain ⟨e, he, hb, hon⟩ := hwait oj hoj
      exact hno e he hb hon
    have hl1 : (listed.setIfInBounds j true).getD t true = false := by rw [getD_set_ne true hjt]; exact hlt
    have hl2 : ((listed.setIfInBounds i true).setIfInBounds j true).getD t true = false := by rw [getD_set_ne true hjt, getD_set_ne true hit]; exact hlt
    have step := wpOp_putIf hoj (hfree j oj hoj hji hun hno) (fun cs b => hsel i oi cs b hi) (fun cs b => hsel j oj cs b hoj) hQ hy (H.2 j (ready_mono hj hji))
    refine wpOp_mono (fun a' w' ⟨hy', hS', hrest⟩ => ⟨fun _ => hS' hl2, ih _ a' w' (fun k ok hk hki hunk hnk => ?_) (ready_mono hr (fun e => hji e.symm)) hy' (hS' hl2) hit hl1 ?_⟩) step
    · refine hfree k ok hk hki ?_ hnk
      rcases Decidable.em (j = k) with rfl | hjk
      · exact hun
      · rwa [getD_set_ne true hjk] at hunk
    · rw [Array.setIfInBounds_comm _ _ hji]
      exact hrest

/-- What yields the same in every world at all. -/
theorem AnyUpto.free {i : Nat} {oi : Oper} {v : Value} (hi : ops[i]? = some oi)
    (hsel : ∀ (j : Nat) (o : Oper) cs b, ops[j]? = some o → o.op ≠ .select cs b) (hQ : ∀ c a w, Q (.panic c) (a.put oi.dst v) w → Q (.panic c) a w) :
    ∀ (n : Nat) (listed : Array Bool) (a : Act) (w : World),
      (∀ j oj, ops[j]? = some oj → j ≠ i → listed.getD j true = false → (∀ e ∈ oj.after, Region.binds md e = true → e.on ≠ i) → oi.apart ops oj = true) →
      i ∈ Region.ready md ops listed → YieldsIf P ops (fun _ => True) oi v a → (listed.getD t true = false → S w) → i ≠ t →
      AnyUpto P md ops Q S t n (listed.setIfInBounds i true) (a.put oi.dst v) w → AnyUpto P md ops Q S t (n + 1) listed a w := by
  intro n
  induction n with
  | zero =>
    intro listed a w _ hr hy hS hit H
    refine ⟨fun h => absurd hr (by rw [h]; simp), fun j hj => ?_⟩
    rcases Decidable.em (j = i) with rfl | hji
    · exact hy.wpOp hi trivial ⟨fun h => hS (by rwa [getD_set_ne true hit] at h), H⟩
    · exact absurd (ready_mono hj hji) (by rw [H.1]; simp)
  | succ n ih =>
    intro listed a w hfree hr hy hS hit H
    refine ⟨fun h => absurd hr (by rw [h]; simp), fun j hj => ?_⟩
    rcases Decidable.em (j = i) with rfl | hji
    · exact hy.wpOp hi trivial ⟨fun h => hS (by rwa [getD_set_ne true hit] at h), H⟩
    obtain ⟨hun, oj, hoj, _⟩ := mem_ready.1 hj
    have hno := ready_waits hr hj hoj
    have step := wpOp_putIf hoj (hfree j oj hoj hji hun hno) (fun cs b => hsel i oi cs b hi) (fun cs b => hsel j oj cs b hoj) hQ hy (H.2 j (ready_mono hj hji))
    have hs2 : ∀ w', (((listed.setIfInBounds i true).setIfInBounds j true).getD t true = false → S w') → (listed.setIfInBounds j true).getD t true = false → S w' := fun w' hh h => hh (by
      rw [Array.setIfInBounds_comm _ _ (fun e => hji e.symm), getD_set_ne true hit]
      exact h)
    refine wpOp_mono (fun a' w' ⟨hy', hS', hrest⟩ => ⟨hs2 w' hS', ih _ a' w' (fun k ok hk hki hunk hnk => ?_) (ready_mono hr (fun e => hji e.symm)) hy' (hs2 w' hS') hit ?_⟩) step
    · refine hfree k ok hk hki ?_ hnk
      rcases Decidable.em (j = k) with rfl | hjk
      · exact hun
      · rwa [getD_set_ne true hjk] at hunk
    · rw [Array.setIfInBounds_comm _ _ hji]
      exact hrest

/-- Number i is taken first; its slot is d. -/
theorem take_upto {i : Nat} {oi : Oper} (d : Option Tmp) (v : Value) {n : Nat} {listed : Array Bool} {a : Act} {w : World} (hi : ops[i]? = some oi) (hd : oi.dst = d) (hs : Region.noSelect ops = true) (hf : Region.free md ops listed i = true)
    (hr : (Region.ready md ops listed).contains i = true) (hwt : waitsB md ops t i = true) (hlt : listed.getD t true = false) (hit : i ≠ t) (hQ : ∀ c a w, Q (.panic c) (a.put d v) w → Q (.panic c) a w)
    (hw : Region.wanted oi (yielded ops a.tmps) = true) (hy : ∀ w, S w → (execOp a.eval oi).run P w = .ok (.value v) w) (hS : S w)
    (h : AnyUpto P md ops Q S t n (listed.setIfInBounds i true) (a.put d v) w) : AnyUpto P md ops Q S t (n + 1) listed a w := by
  subst hd
  refine AnyUpto.first hi (fun ot hot => ?_) (Region.noSelect_spec hs) hQ n listed a w (Region.free_spec hi hf) (by simpa using hr) (.inl ⟨hw, hy⟩) hS hit hlt h
  unfold waitsB at hwt
  rw [hot] at hwt
  obtain ⟨e, he, hb⟩ := Array.any_eq_true'.1 hwt
  simp only [Bool.and_eq_true, beq_iff_eq] at hb
  exact ⟨e, he, hb.1, hb.2⟩
/-- Number i is taken, and it reads nothing. -/
theorem pure_upto {i : Nat} {oi : Oper} (d : Option Tmp) (v : Value) {n : Nat} {listed : Array Bool} {a : Act} {w : World} (hi : ops[i]? = some oi) (hd : oi.dst = d) (hs : Region.noSelect ops = true) (hf : Region.free md ops listed i = true)
    (hr : (Region.ready md ops listed).contains i = true) (hit : i ≠ t) (hQ : ∀ c a w, Q (.panic c) (a.put d v) w → Q (.panic c) a w)
    (hw : Region.wanted oi (yielded ops a.tmps) = true) (hy : ∀ w, (execOp a.eval oi).run P w = .ok (.value v) w) (hS : listed.getD t true = false → S w)
    (h : AnyUpto P md ops Q S t n (listed.setIfInBounds i true) (a.put d v) w) : AnyUpto P md ops Q S t (n + 1) listed a w := by
  subst hd
  exact AnyUpto.free hi (Region.noSelect_spec hs) hQ n listed a w (Region.free_spec hi hf) (by simpa using hr) (.inl ⟨hw, fun w _ => hy w⟩) hS hit h

/-- The one that is ready comes up next. -/
theorem next_upto (i : Nat) {o : Oper} {n : Nat} {listed : Array Bool} {a : Act} {w : World} (hr : Region.ready md ops listed = [i]) (ho : ops[i]? = some o)
    (h : ∀ K : Act → World → Prop, Shut (∀ a w, ((listed.setIfInBounds i true).getD t true = false → S w) → AnyUpto P md ops Q S t n (listed.setIfInBounds i true) a w → K a w) → if Region.wanted o (yielded ops a.tmps) = true then Oper.wp P o a w K Q else K (a.put o.dst undef) w) :
    AnyUpto P md ops Q S t (n + 1) listed a w := by
  refine ⟨fun h0 => (by rw [hr] at h0; cases h0), fun j hj => ?_⟩
  rw [hr] at hj
  obtain rfl : j = i := by simpa using hj
  exact wpOp_step ho (fun K hK => h K (fun a w hS hW => hK a w ⟨hS, hW⟩))

/-- Two are ready. -/
theorem two_upto (i j : Nat) {oi oj : Oper} {n : Nat} {listed : Array Bool} {a : Act} {w : World} (hr : Region.ready md ops listed = [i, j]) (hi : ops[i]? = some oi) (hj : ops[j]? = some oj)
    (h1 : ∀ K : Act → World → Prop, Shut (∀ a w, ((listed.setIfInBounds i true).getD t true = false → S w) → AnyUpto P md ops Q S t n (listed.setIfInBounds i true) a w → K a w) → if Region.wanted oi (yielded ops a.tmps) = true then Oper.wp P oi a w K Q else K (a.put oi.dst undef) w)
    (h2 : ∀ K : Act → World → Prop, Shut (∀ a w, ((listed.setIfInBounds j true).getD t true = false → S w) → AnyUpto P md ops Q S t n (listed.setIfInBounds j true) a w → K a w) → if Region.wanted oj (yielded ops a.tmps) = true then Oper.wp P oj a w K Q else K (a.put oj.dst undef) w) :
    AnyUpto P md ops Q S t (n + 1) listed a w := by
  refine ⟨fun h0 => (by rw [hr] at h0; cases h0), fun x hx => ?_⟩
  rw [hr] at hx
  rcases List.mem_cons.1 hx with rfl | hx
  · exact wpOp_step hi (fun K hK => h1 K (fun a w hS hW => hK a w ⟨hS, hW⟩))
  · obtain rfl := List.mem_singleton.1 hx
    exact wpOp_step hj (fun K hK => h2 K (fun a w hS hW => hK a w ⟨hS, hW⟩))

theorem done_upto {listed : Array Bool} {a : Act} {w : World} (hr : Region.ready md ops listed = []) (h : Q .normal a w) : ∀ n, AnyUpto P md ops Q S t n listed a w
  | 0 => ⟨hr, h⟩
  | _ + 1 => ⟨fun _ => h, by rw [hr]; simp⟩

theorem region_upto {id : Nat} {a : Act} {w : World} (t : Nat) (S : World → Prop) (hm : P.follows .mixedOrders = true) (hS : S w.drew)
    (h : S w.drew → AnyUpto P .any ops Q S t ops.size (Array.replicate ops.size false) a w.drew) : (Code.region id ops true).wp P Q a w :=
  wp_region_any hm (AnyUpto.any _ _ _ _ (h hS))
end
end Go.Proofs.YtgekeemhbnhelaaGreat
