/- Which pairs of a node stand in a span: a child that the span does not meet has none of them; condition: the pairs' keys rise and stand under the node's end. · A row that was made with so many things, and is filled one behind the other; no condition. · The pairs of a node: the walk of pairs; no condition. · The nodes that are gone through below a node: their pairs in a span, their pages; what one that goes through them holds; no condition. -/
import Derived.Test.YtgekeemhbnhelaaGreatM06
import Derived.Test.YtgekeemhbnhelaaGreatM15
import Derived.Test.YtgekeemhbnhelaaGreatM02
import Derived.Test.YtgekeemhbnhelaaGreatM16
namespace Go.Proofs.YtgekeemhbnhelaaGreat
open Go.RowKit

/-- The pairs in a span. -/
def inSpan (f t : Bytes) (prs : List Pr) : List Pr := prs.filter fun p => hasB p.1 f t
theorem inSpan_append (f t : Bytes) (a b : List Pr) : inSpan f t (a ++ b) = inSpan f t a ++ inSpan f t b := List.filter_append ..
theorem inSpan_none {f t : Bytes} {prs : List Pr} (h : ∀ p ∈ prs, hasB p.1 f t = false) : inSpan f t prs = [] := by
  unfold inSpan
  rw [List.filter_eq_nil_iff]
  intro p hp
  rw [h p hp]
  simp
theorem hasB_all (k : Bytes) : hasB k [] [] = true := by
  unfold hasB aheadB
  rcases k with _ | ⟨a, r⟩ <;> rfl
/-- All of a child's keys are its own or behind it. -/
theorem sub_from {B : Nat → Bytes} {N l : Nat} {k : Sb} (h : Sub B N l k) (hr : RiseP k.prs) {p : Pr} (hp : p ∈ k.prs) : cmp k.key p.1 ≤ 0 := by
  obtain ⟨v, r, e⟩ := h.first
  rw [e] at hp hr
  rcases List.mem_cons.1 hp with rfl | hp
  · rw [cmp_refl]; omega
  · have := (List.pairwise_cons.1 hr).1 p hp
    exact Int.le_of_lt this
/-- A child that the span does not meet has no pair in it. -/
theorem skip_none {B : Nat → Bytes} {N l : Nat} {kids : List Sb} {to f t : Bytes} (hs : ∀ k ∈ kids, Sub B N l k) (hr : RiseP (kids.flatMap Sb.prs)) (hu : Under (kids.flatMap Sb.prs) to)
    {i : Nat} {k : Sb} (hk : kids[i]? = some k) (hm : meetsB (kids.map kidE) to i f t = false) : inSpan f t k.prs = [] := by
  have hmem := List.mem_of_getElem? hk
  have hrk := rise_kid hr hmem
  have huk := under_kid hs hr hu hk
  refine inSpan_none fun p hp => ?_
  have he : (kids.map kidE)[i]? = some (kidE k) := by rw [List.getElem?_map, hk]; rfl
  unfold meetsB at hm
  rw [he] at hm
  have hfrom := sub_from (hs k hmem) hrk hp
  unfold hasB
  rw [Bool.and_eq_false_iff]
  rcases Bool.and_eq_false_iff.1 hm with h1 | h1
  · right
    unfold aheadB at h1 ⊢
    rw [Bool.or_eq_false_iff] at h1 ⊢
    refine ⟨h1.1, decide_eq_false fun hlt => ?_⟩
    have h2 : ¬ cmp k.key t < 0 := of_decide_eq_false h1.2
    exact h2 (cmp_le_lt hfrom hlt)
  · left
    rw [Bool.or_eq_false_iff] at h1
    have h2 := of_decide_eq_false h1.1
    have h3 := of_decide_eq_false h1.2
    refine decide_eq_false fun hge => ?_
    rcases huk with h4 | h4
    · rw [h4] at h2; exact h2 rfl
    · have h5 := h4 p hp
      have h6 := cmp_lt_le h5 (by omega : cmp (endK (kids.map kidE) to i) f ≤ 0)
      omega
/-- A span without ends meets every child. -/
theorem meets_all {es : List En} {to : Bytes} {i : Nat} (hi : i < es.length) : meetsB es to i [] [] = true := by
  unfold meetsB
  rw [List.getElem?_eq_getElem hi]
  show (true && (decide ((endK es to i).length = 0) || decide (0 < cmp (endK es to i) []))) = true
  rw [Bool.true_and]
  rcases endK es to i with _ | ⟨a, r⟩ <;> rfl
end Go.Proofs.YtgekeemhbnhelaaGreat
namespace Go.Proofs.YtgekeemhbnhelaaGreat
open Go.RowKit

/-- A row of n things of the call's own, of which the first are filled; the others' cells are zs each. -/
def Md {τ α : Type} (K : Kd τ α) (e : TypeId) (w : World) (S : Nat → Prop) (v : Value) (n : Nat) (zs : List Value) (l : List α) : Prop :=
  ∃ ts : List τ, ts.map K.con = l ∧ l.length ≤ n ∧ zs.length = K.sz ∧ w.ownsRow 0 e K.sz v n (K.cells ts ++ (List.replicate (n - l.length) zs).flatten) ∧ (∀ t ∈ ts, K.ok w S t) ∧ ∀ q, v.ownBlock = some q → S q

section
variable {τ α : Type} {K : Kd τ α} {e : TypeId} {w w' : World} {S S' : Nat → Prop} {v : Value} {n : Nat} {zs : List Value} {l : List α}
theorem flat_len (n : Nat) (zs : List Value) : (List.replicate n zs).flatten.length = n * zs.length := by
  induction n with
  | zero => simp
  | succ n ih => rw [List.replicate_succ, List.flatten_cons, List.length_append, ih, Nat.succ_mul, Nat.add_comm]
theorem Md.start (h : w.ownsRow 0 e K.sz v n (List.replicate n zs).flatten) (hz : zs.length = K.sz) (hS : ∀ q, v.ownBlock = some q → S q) : Md K e w S v n zs [] :=
  ⟨[], rfl, Nat.zero_le _, hz, by simpa [Kd.cells] using h, (fun _ h => by cases h), hS⟩
theorem Md.done (h : Md K e w S v n zs l) (hl : l.length = n) : Ro K e w S v l := by
  obtain ⟨ts, h1, h2, h3, h4, h5, h6⟩ := h
  rw [← hl, Nat.sub_self, List.replicate_zero, List.flatten_nil, List.append_nil] at h4
  exact ⟨ts, h1, h4, h5, h6⟩
theorem Md.shape (h : Md K e w S v n zs l) (hn : 0 < n) : ∃ g cap, v = .slice (some ⟨g, 0, none⟩) n cap ∧ S g ∧ g < w.heap.size ∧ n ≤ cap ∧ cap ≤ maxLen := by
  obtain ⟨ts, h1, h2, h3, h4, h5, h6⟩ := h
  rcases h4.2 with ⟨_, h0⟩ | ⟨g, cap, cur, rfl, _, hg, hc, hm, _⟩
  · omega
  · exact ⟨g, cap, rfl, h6 g rfl, (Array.getElem?_eq_some_iff.1 hg).1, hc, hm⟩
theorem Md.keep (h : Md K e w S v n zs l) (hk : ∀ g, v.ownBlock = some g → w'.heap[g]? = w.heap[g]?) (hs : Step S w w' S') (hi : ∀ q, S q → S' q) : Md K e w' S' v n zs l := by
  obtain ⟨ts, h1, h2, h3, h4, h5, h6⟩ := h
  exact ⟨ts, h1, h2, h3, ownsRow_kept h4 hk, fun t ht => K.step (h5 t ht) hs, fun q hq => hi q (h6 q hq)⟩
/-- Cells of the row that is filled, written one behind the other. -/
def setAll (w : World) (g : Nat) : Nat → List Value → World
  | _, [] => w
  | o, u :: r => setAll (w.setCell ⟨g, o, none⟩ u) g (o + 1) r
theorem setAll_heap {t : TypeId} {fr : Nat × Nat} (g : Nat) : ∀ (us : List Value) (o : Nat) (w : World) (cur : Array Value), w.heap[g]? = some (.cells cur t fr) →
    ∃ cur' : Array Value, (setAll w g o us).heap[g]? = some (.cells cur' t fr) ∧ cur'.size = cur.size ∧ (o + us.length ≤ cur.size → cur'.toList = cur.toList.take o ++ us ++ cur.toList.drop (o + us.length))
  | [], o, w, cur, h => ⟨cur, h, rfl, fun _ => by simp⟩
  | u :: r, o, w, cur, h => by
    obtain ⟨cur', h1, h2, h3⟩ := setAll_heap g r (o + 1) (w.setCell ⟨g, o, none⟩ u) (cur.setIfInBounds o u) (Lib.heap_setCell_same h u)
    refine ⟨cur', h1, by simpa using h2, fun hle => ?_⟩
    rw [List.length_cons] at hle
    rw [h3 (by simp; omega), Array.toList_setIfInBounds]
    have ho : o < cur.toList.length := by simpa using (show o < cur.size by omega)
    rw [List.set_eq_take_append_cons_drop, if_pos ho]
    have hto : (cur.toList.take o).length = o := by rw [List.length_take]; omega
    have e1 : (cur.toList.take o ++ u :: cur.toList.drop (o + 1)).take (o + 1) = cur.toList.take o ++ [u] := by
      rw [List.take_append, hto, List.take_of_length_le (by omega), show o + 1 - o = 1 by omega]
      rfl
    have e2 : (cur.toList.take o ++ u :: cur.toList.drop (o + 1)).drop (o + 1 + r.length) = cur.toList.drop (o + 1 + r.length) := by
      rw [List.drop_append, hto, List.drop_eq_nil_of_le (by omega), List.nil_append, show o + 1 + r.length - o = r.length + 1 by omega, List.drop_succ_cons, List.drop_drop]
    rw [e1, e2, List.append_assoc, List.append_assoc, List.append_assoc, List.length_cons, show o + (r.length + 1) = o + 1 + r.length by omega]
    rfl
theorem setAll_step {g : Nat} (hg : S g) : ∀ (us : List Value) (o : Nat) (w : World), Step S w (setAll w g o us) S
  | [], _, w => Step.refl S w
  | u :: r, o, w => ((Step.refl S w).set (p := ⟨g, o, none⟩) hg u).trans (setAll_step hg r (o + 1) _)
/-- One more of them is filled. -/
theorem Md.put {g cap : Nat} (h : Md K e w S (.slice (some ⟨g, 0, none⟩) n cap) n zs l) (hl : l.length < n) (t : τ) (ht : K.ok w S t) :
    Md K e (setAll w g (l.length * K.sz) (K.cs t)) S (.slice (some ⟨g, 0, none⟩) n cap) n zs (l ++ [K.con t]) ∧ Step S w (setAll w g (l.length * K.sz) (K.cs t)) S := by
  obtain ⟨ts, h1, h2, h3, h4, h5, h6⟩ := h
  have hgS := h6 g rfl
  have hst := setAll_step hgS (K.cs t) (l.length * K.sz) w
  refine ⟨⟨ts ++ [t], by rw [List.map_append, h1]; rfl, by rw [List.length_append]; exact hl, h3, ?_, fun t' ht' => ?_, h6⟩, hst⟩
  · rcases h4.2 with ⟨h0, _⟩ | ⟨g', cap', cur, e0, hb, hg, hc, hm, hsz, htk⟩
    · cases h0
    · simp only [Value.slice.injEq, Option.some.injEq, Addr.mk.injEq] at e0
      obtain ⟨⟨rfl, _⟩, _, rfl⟩ := e0
      obtain ⟨cur', c1, c2, c3⟩ := setAll_heap g (K.cs t) (l.length * K.sz) w cur hg
      have htl : ts.length = l.length := by have := congrArg List.length h1; simpa using this
      have hA : (K.cells ts).length = l.length * K.sz := by rw [K.cells_length, htl]
      obtain ⟨m, hm2⟩ : ∃ m, n - l.length = m + 1 := ⟨n - l.length - 1, by omega⟩
      have hB : (List.replicate (n - l.length) zs).flatten = zs ++ (List.replicate m zs).flatten := by rw [hm2, List.replicate_succ, List.flatten_cons]
      rw [hB] at htk
      have hL : cur.toList = K.cells ts ++ (zs ++ ((List.replicate m zs).flatten ++ cur.toList.drop (n * K.sz))) := by
        conv => lhs; rw [← List.take_append_drop (n * K.sz) cur.toList, htk]
        simp only [List.append_assoc]
      have hle : l.length * K.sz + (K.cs t).length ≤ cur.size := by
        rw [K.len, hsz, ← Nat.succ_mul]
        exact Nat.mul_le_mul_right _ (by omega)
      have h7 := c3 hle
      have t1 : cur.toList.take (l.length * K.sz) = K.cells ts := by rw [hL, List.take_left' hA]
      have t2 : cur.toList.drop (l.length * K.sz + (K.cs t).length) = (List.replicate m zs).flatten ++ cur.toList.drop (n * K.sz) := by
        rw [K.len, ← List.drop_drop]
        conv => lhs; rw [hL]
        rw [List.drop_left' hA, List.drop_left' h3]
      rw [t1, t2] at h7
      have hlen : (K.cells ts ++ K.cs t ++ (List.replicate m zs).flatten).length = n * K.sz := by
        rw [List.length_append, List.length_append, hA, K.len, flat_len, h3, ← Nat.succ_mul, ← Nat.add_mul]
        congr 1
        omega
      have e9 : K.cells (ts ++ [t]) ++ (List.replicate (n - (l ++ [K.con t]).length) zs).flatten = K.cells ts ++ K.cs t ++ (List.replicate m zs).flatten := by
        rw [K.cells_append, show n - (l ++ [K.con t]).length = m by rw [List.length_append]; simp only [List.length_singleton]; omega]
        simp [Kd.cells]
      rw [e9]
      refine ⟨hlen, .inr ⟨g, cap, cur', rfl, Nat.zero_le _, c1, hc, hm, c2.trans hsz, ?_⟩⟩
      rw [h7, ← List.append_assoc, List.take_left' hlen]
  · rcases List.mem_append.1 ht' with hh | hh
    · exact K.step (h5 t' hh) hst
    · rw [List.mem_singleton.1 hh]
      exact K.step ht hst
theorem made_flat (z : Array Value) (hz : 0 < z.size) (n : Nat) : (madeCells z (n * z.size)).toList = (List.replicate n z.toList).flatten := by
  induction n with
  | zero => simp [madeCells]
  | succ n ih =>
    have e1 : (madeCells z ((n + 1) * z.size)).toList = (madeCells z (n * z.size)).toList ++ z.toList := by
      apply List.ext_getElem?
      intro j
      have hl : (madeCells z (n * z.size)).toList.length = n * z.size := by simp [madeCells]
      rcases Nat.lt_or_ge j (n * z.size) with h1 | h1
      · rw [List.getElem?_append_left (by omega)]
        have h2 : j < (n + 1) * z.size := by rw [Nat.succ_mul]; omega
        simp [madeCells, h1, h2]
      · rw [List.getElem?_append_right (by omega), hl]
        rcases Nat.lt_or_ge j ((n + 1) * z.size) with h2 | h2
        · have h3 : j - n * z.size < z.size := by rw [Nat.succ_mul] at h2; omega
          have h4 : j % z.size = j - n * z.size := by
            conv => lhs; rw [show j = (j - n * z.size) + n * z.size by omega]
            rw [Nat.add_mul_mod_self_right, Nat.mod_eq_of_lt h3]
          simp [madeCells, h2, h4, h3, getElem!_pos]
        · have h3 : z.size ≤ j - n * z.size := by rw [Nat.succ_mul] at h2; omega
          simp [madeCells, h2, h3]
    rw [e1, ih, List.replicate_succ', List.flatten_append, List.flatten_singleton]
/-- The cells that are next. -/
theorem Md.next {g cap : Nat} (h : Md K e w S (.slice (some ⟨g, 0, none⟩) n cap) n zs l) (hl : l.length < n) : (∀ (j : Nat) (u : Value), zs[j]? = some u → w.cell? ⟨g, l.length * K.sz + j, none⟩ = some u) ∧ ∀ j, w.frozen? ⟨g, j, none⟩ = false := by
  obtain ⟨ts, h1, h2, h3, h4, h5, h6⟩ := h
  rcases h4.2 with ⟨h0, _⟩ | ⟨g', cap', cur, e0, hb, hg, hc, hm, hsz, htk⟩
  · cases h0
  · simp only [Value.slice.injEq, Option.some.injEq, Addr.mk.injEq] at e0
    obtain ⟨⟨rfl, _⟩, _, rfl⟩ := e0
    refine ⟨fun j u hu => ?_, fun j => by simp [World.frozen?, hg]⟩
    have htl : ts.length = l.length := by have := congrArg List.length h1; simpa using this
    have hA : (K.cells ts).length = l.length * K.sz := by rw [K.cells_length, htl]
    obtain ⟨m, hm2⟩ : ∃ m, n - l.length = m + 1 := ⟨n - l.length - 1, by omega⟩
    have hj := (List.getElem?_eq_some_iff.1 hu).1
    have h7 : (K.cells ts ++ (List.replicate (n - l.length) zs).flatten)[l.length * K.sz + j]? = some u := by
      rw [List.getElem?_append_right (by omega), hA, show l.length * K.sz + j - l.length * K.sz = j by omega, hm2, List.replicate_succ, List.flatten_cons, List.getElem?_append_left hj]
      exact hu
    rw [← htk, List.getElem?_take] at h7
    split at h7
    · simp only [World.cell?, hg]
      simpa using h7
    · cases h7
end
end Go.Proofs.YtgekeemhbnhelaaGreat
namespace Go.Proofs.YtgekeemhbnhelaaGreat
open Go.RowKit

def prOf (e : En) : Pr := (e.key, e.val)
/-- What pairs answers: those of a leaf, of an inner node none. -/
def nodePrs (lvl : Nat) (es : List En) : List Pr := if lvl = 0 then es.map prOf else []

set_option maxRecDepth 100000 in
set_option maxHeartbeats 4000000 in
theorem npairs_any {p : Int} {lvl : Nat} {ev tv : Value} {S : Nat → Prop} {es : List En} (w : World) (h : Rd kdEn w S ev es) (hn : es.length ≤ 1000000) (hS : ∀ q, S q → q < w.heap.size) :
    Calls Tryz.prog 77 #[ndv p (lvl : Int) ev tv] w fun e w' => ∃ v, e = .returned v ∧ Rd kdPr w' S v (nodePrs lvl es) ∧ Below w.heap.size w w' := by
  obtain ⟨ea, ec, rfl, _⟩ := h.shape
  obtain ⟨en, hen⟩ : ∃ en, en = es.length := ⟨_, rfl⟩
  rw [← hen] at hn
  have hb : Below w.heap.size w (w.alloc (.cells #[.int .i64 p, .int .i64 (lvl : Int), .slice ea en ec, tv] 85)) := (Below.refl _ _).alloc (Nat.le_refl _) _
  have C : Cel (w.alloc (.cells #[.int .i64 p, .int .i64 (lvl : Int), .slice ea en ec, tv] 85)) w.heap.size [.int .i64 p, .int .i64 (lvl : Int), .slice ea en ec, tv] 85 := Cel.new w _ _
  have c1 := C.cell 1
  have c2 := C.cell 2
  rw [← hen]
  by_cases h0 : lvl = 0
  · have hres : nodePrs lvl es = es.map prOf := if_pos h0
    rw [hres]
    subst h0
    obtain ⟨inf, z, hi, hz, hsz, hzs, hby⟩ := par_ty.info
    obtain ⟨w1, hmk, o1, g1⟩ := run_make_full (P := Tryz.prog) (w.alloc (.cells #[.int .i64 p, .int .i64 ((0 : Nat) : Int), .slice ea en ec, tv] 85)) 0 28 57 inf z 2 par_ty.slice hi hz hsz .i64 .i64 en (Nat.le_trans (Nat.mul_le_mul hby hn) (by decide)) (by unfold maxLen; omega) (Nat.zero_le _)
    have hzl : z.cells.toList.length = kdPr.sz := by simpa using hzs
    have hfl : (madeCells z.cells (en * 2)).toList = (List.replicate en z.cells.toList).flatten := by
      have := made_flat z.cells (by rw [hzs]; exact kdPr.pos) en
      rwa [hzs] at this
    have hz1 : (w.alloc (.cells #[.int .i64 p, .int .i64 ((0 : Nat) : Int), .slice ea en ec, tv] 85)).heap.size = w.heap.size + 1 := by simp
    rw [hz1, show ((0 : Nat) : Int) = 0 from rfl] at hmk
    rw [hz1] at o1
    have M0 : Md kdPr 57 w1 (fun q => S q ∨ q = w.heap.size + 1) (.slice (some ⟨w.heap.size + 1, 0, none⟩) en en) en z.cells.toList [] :=
      Md.start (by rw [← hfl]; exact o1) hzl (fun q hq => .inr (by simpa [Value.ownBlock] using hq.symm))
    have hb1 : Below w.heap.size w w1 := hb.grown g1 (by omega) (fun _ h => by cases h)
    have k2 : w1.cell? ⟨w.heap.size, 2, none⟩ = some (.slice ea en ec) := by
      have hbg : Below (w.heap.size + 1) (w.alloc (.cells #[.int .i64 p, .int .i64 ((0 : Nat) : Int), .slice ea en ec, tv] 85)) w1 := by
        have := (Below.refl (w.alloc (.cells #[.int .i64 p, .int .i64 ((0 : Nat) : Int), .slice ea en ec, tv] 85)).heap.size _).grown g1 (Nat.le_refl _) (fun _ h => by cases h)
        rwa [hz1] at this
      rw [hbg.cell (p := ⟨w.heap.size, 2, none⟩) (by simp)]
      exact c2
    have HB := Lib.hid (And.intro hb1 (And.intro h (And.intro M0 (And.intro hen (And.intro hS hzl)))))
    clear hb C h hS g1 o1 M0 hi hz hsz hzs hby hres hfl hzl hen hb1 c2
    go_enter Tryz.func77, Tryz.ntmps77
    go_wp2
    go_loopw [16] (fun i wr => ∃ j : Nat, j ≤ en ∧ i = .int .i64 j ∧ Md kdPr 57 wr (fun q => S q ∨ q = w.heap.size + 1) (.slice (some ⟨w.heap.size + 1, 0, none⟩) en en) en z.cells.toList ((es.take j).map prOf) ∧ Below w.heap.size w wr) (fun i _ => en - (intOf i).toNat)
    case atStart => exact ⟨0, Nat.zero_le _, rfl, HB.out.2.2.1, HB.out.1⟩
    case round =>
      obtain ⟨j, hj, rfl, hM, hbw⟩ := hrel
      have hen := HB.out.2.2.2.1
      by_cases hlt : j < en
      · obtain ⟨a, ha⟩ : ∃ a, es[j]? = some a := ⟨_, List.getElem?_eq_getElem (by omega)⟩
        have hr := HB.out.2.1.step (S' := fun q => S q ∨ q = w.heap.size + 1) ⟨Only.of_below hbw S, fun q hq => hq.elim .inl fun e => .inr (by omega)⟩
        obtain ⟨g, o, cap, ka, kc, va, vc, e0, hg, c0, c1, c2, hk, hv⟩ := hr.ent ha
        simp only [Value.slice.injEq] at e0
        obtain ⟨rfl, he0, rfl⟩ := e0
        have hl : ((es.take j).map prOf).length = j := by rw [List.length_map, List.length_take]; omega
        have hil : (j : Int) < (en : Int) := by omega
        obtain ⟨g2, cp, e2, _, hgw, _, _⟩ := hM.shape (by omega)
        simp only [Value.slice.injEq, Option.some.injEq, Addr.mk.injEq] at e2
        obtain ⟨⟨rfl, _⟩, _, _⟩ := e2
        have hN := hM.next (by rw [hl]; exact hlt)
        have hP := hM.put (by rw [hl]; exact hlt) (⟨⟨ka, a.key.length, kc⟩, ⟨va, a.val.length, vc⟩, prOf a⟩ : PT) ⟨hk, hv⟩
        rw [hl] at hN hP
        obtain ⟨u0, hu0⟩ : ∃ u, z.cells.toList[0]? = some u := ⟨_, List.getElem?_eq_getElem (by rw [HB.out.2.2.2.2.2]; decide)⟩
        obtain ⟨u1, hu1⟩ : ∃ u, z.cells.toList[1]? = some u := ⟨_, List.getElem?_eq_getElem (by rw [HB.out.2.2.2.2.2]; decide)⟩
        have n0 : wr.cell? ⟨w.heap.size + 1, j * 2, none⟩ = some u0 := hN.1 0 u0 hu0
        have n1 : wr.cell? ⟨w.heap.size + 1, j * 2 + 1, none⟩ = some u1 := hN.1 1 u1 hu1
        have f0 := hN.2 (j * 2)
        have f1 := hN.2 (j * 2 + 1)
        have hs : (es.take (j + 1)).map prOf = (es.take j).map prOf ++ [prOf a] := by
          rw [List.take_add_one, ha, List.map_append]
          rfl
        have H2 := Lib.hid (And.intro hP.1 (And.intro hbw (And.intro hs hgw)))
        clear hM hN hP hr ha hk hv hbw hu0 hu1
        go_wp2_with fail
        go_roundw
        case rel =>
          refine ⟨j + 1, by omega, by go_num, ?_, ?_⟩
          · rw [H2.out.2.2.1]
            have hx : Below (w.heap.size + 2) ((wr.setCell ⟨w.heap.size + 1, j * 2, none⟩ (.slice ka a.key.length kc)).setCell ⟨w.heap.size + 1, j * 2 + 1, none⟩ (.slice va a.val.length vc)) (((wr.setCell ⟨w.heap.size + 1, j * 2, none⟩ (.slice ka a.key.length kc)).setCell ⟨w.heap.size + 1, j * 2 + 1, none⟩ (.slice va a.val.length vc)).alloc (.cells #[.slice ka a.key.length kc, .slice va a.val.length vc, .int .i64 (a.page : Nat)] 93)) := (Below.refl _ _).alloc (by have := H2.out.2.2.2; simp; omega) _
            exact H2.out.1.keep (fun q hq => hx.block _ (by
              have h1 : w.heap.size + 1 = q := by simpa [Value.ownBlock] using hq
              omega)) ⟨(Only.refl _ _).alloc _, fun q hq => .inl hq⟩ (fun _ h => h)
          · exact ((H2.out.2.1.setCell (by show w.heap.size ≤ w.heap.size + 1; omega) _).setCell (by show w.heap.size ≤ w.heap.size + 1; omega) _).alloc (by have := H2.out.2.2.2; simp; omega) _
        case measure => simp [intOf]; omega
      · obtain rfl : j = en := by omega
        have hR := Md.done hM (by rw [List.length_map, List.length_take]; omega)
        rw [List.take_of_length_le (by omega)] at hR
        have hS := HB.out.2.2.2.2.1
        have H := Lib.hid (And.intro hR (And.intro hbw hS))
        clear hM hR hbw hS hen
        go_wp2
        go_ret
        exact ⟨_, rfl, Ro.rd H.out.1 (fun q h => .inl h) (fun q hq h => by
          have h1 : w.heap.size + 1 = q := by simpa [Value.ownBlock] using hq
          have := H.out.2.2 q h
          omega), H.out.2.1⟩
  · have hres : nodePrs lvl es = [] := if_neg h0
    rw [hres]
    have hgt : (0 : Int) < (lvl : Int) := by omega
    have HB := Lib.hid hb
    clear hb C h hS hen hres h0
    go_enter Tryz.func77, Tryz.ntmps77
    go_wp2
    go_ret
    exact ⟨_, rfl, Rd.nil _ _ _, HB.out⟩
end Go.Proofs.YtgekeemhbnhelaaGreat
namespace Go.Proofs.YtgekeemhbnhelaaGreat
open Go.RowKit

/-- The pairs of nodes, one behind the other. -/
def ndPrs (ns : List Nd) : List Pr := ns.flatMap fun n => nodePrs n.lvl n.ents
/-- Nodes that are gone through: the pairs in the span are these; without a span the pages are these. -/
structure Went (f t : Bytes) (ns : List Nd) (prs : List Pr) (pgs : List Int) : Prop where
  pr : inSpan f t (ndPrs ns) = inSpan f t prs
  pg : f = [] → t = [] → ns.map Nd.page = pgs
  ln : ns.length ≤ pgs.length
section
variable {f t : Bytes} {ns ms : List Nd} {prs qrs : List Pr} {pgs qgs : List Int}
theorem Went.nil (f t : Bytes) : Went f t [] [] [] := ⟨rfl, fun _ _ => rfl, Nat.le_refl _⟩
theorem Went.append (h : Went f t ns prs pgs) (k : Went f t ms qrs qgs) : Went f t (ns ++ ms) (prs ++ qrs) (pgs ++ qgs) := by
  refine ⟨?_, fun h1 h2 => by rw [List.map_append, h.pg h1 h2, k.pg h1 h2], by rw [List.length_append, List.length_append]; have := h.ln; have := k.ln; omega⟩
  unfold ndPrs
  rw [List.flatMap_append, inSpan_append, inSpan_append]
  have h1 := h.pr
  have h2 := k.pr
  unfold ndPrs at h1 h2
  rw [h1, h2]
/-- What the span does not meet is not gone through. -/
theorem Went.skip (h : inSpan f t prs = []) (hne : ¬ (f = [] ∧ t = [])) (pgs : List Int) : Went f t [] prs pgs := by
  refine ⟨?_, fun h1 h2 => absurd ⟨h1, h2⟩ hne, Nat.zero_le _⟩
  rw [h]
  rfl
theorem prOf_prE (l : List Pr) : (l.map prE).map prOf = l := by
  rw [List.map_map]
  conv => rhs; rw [← List.map_id l]
  rfl
theorem Went.leaf {B : Nat → Bytes} {N : Nat} {es : List En} {gs : List Nat} {pg : Int} {to : Bytes} (h : Nb B N 0 es prs gs) : Went f t [⟨pg, 0, es, to⟩] prs (pg :: ints gs) := by
  obtain ⟨rfl, rfl⟩ := Nb.zero.1 h
  refine ⟨?_, fun _ _ => rfl, Nat.le_refl _⟩
  unfold ndPrs
  rw [List.flatMap_singleton]
  show inSpan f t (nodePrs 0 (prs.map prE)) = _
  unfold nodePrs
  rw [if_pos rfl, prOf_prE]
theorem Went.inner {l : Nat} {es : List En} {pg : Int} {to : Bytes} (f t : Bytes) : Went f t [⟨pg, l + 1, es, to⟩] [] [pg] := by
  refine ⟨?_, fun _ _ => rfl, Nat.le_refl _⟩
  unfold ndPrs
  rw [List.flatMap_singleton]
  show inSpan f t (nodePrs (l + 1) es) = _
  unfold nodePrs
  rw [if_neg (Nat.succ_ne_zero l)]
theorem ndPrs_len (h : ∀ n ∈ ns, n.ents.length ≤ 503) : (ndPrs ns).length ≤ ns.length * 503 := by
  induction ns with
  | nil => exact Nat.le_refl _
  | cons a r ih =>
    have h1 := h a List.mem_cons_self
    have h2 := ih fun n hn => h n (List.mem_cons_of_mem _ hn)
    have h3 : (nodePrs a.lvl a.ents).length ≤ a.ents.length := by
      unfold nodePrs
      split
      · rw [List.length_map]; exact Nat.le_refl _
      · exact Nat.zero_le _
    unfold ndPrs at *
    rw [List.flatMap_cons, List.length_append, List.length_cons, Nat.succ_mul]
    omega
theorem inSpan_len (f t : Bytes) (l : List Pr) : (inSpan f t l).length ≤ l.length := List.length_filter_le _ _
/-- A span without ends has all. -/
theorem inSpan_all (l : List Pr) : inSpan [] [] l = l := by
  unfold inSpan
  rw [List.filter_eq_self]
  intro p _
  exact hasB_all p.1
end

/-- A pair of a row. -/
theorem Rd.par {w : World} {S : Nat → Prop} {v : Value} {ls : List Pr} (h : Rd kdPr w S v ls) {i : Nat} {p : Pr} (hp : ls[i]? = some p) : ∃ g o cap ka kc va vc, v = .slice (some ⟨g, o, none⟩) ls.length cap ∧ g < w.heap.size ∧
    w.cell? ⟨g, o + i * 2, none⟩ = some (.slice ka p.1.length kc) ∧ w.cell? ⟨g, o + i * 2 + 1, none⟩ = some (.slice va p.2.length vc) ∧ Bsf w S (.slice ka p.1.length kc) p.1 ∧ Bsf w S (.slice va p.2.length vc) p.2 := by
  obtain ⟨g, o, cap, ⟨⟨ka, kn, kc⟩, ⟨va, vn, vc⟩, p'⟩, h1, h2, h3, h4, h5, _⟩ := h.at hp
  have h2 : p' = p := h2
  subst h2
  obtain ⟨h6, h7⟩ := h3
  obtain ⟨_, _, e1, _⟩ := h6.1.shape
  obtain ⟨_, _, e2, _⟩ := h7.1.shape
  simp only [Sl.v, Value.slice.injEq] at e1 e2
  obtain ⟨_, rfl, _⟩ := e1
  obtain ⟨_, rfl, _⟩ := e2
  exact ⟨g, o, cap, ka, kc, va, vc, h1, h4, h5 0 _ rfl, h5 1 _ rfl, h6, h7⟩
theorem inSpan_more {f t : Bytes} {a l : List Pr} {j : Nat} {p : Pr} (h : l[j]? = some p) : inSpan f t (a ++ l.take (j + 1)) = inSpan f t (a ++ l.take j) ++ if hasB p.1 f t = true then [p] else [] := by
  rw [List.take_add_one, h, ← List.append_assoc, inSpan_append]
  congr 1
  unfold inSpan
  simp [List.filter_cons]
theorem ndPrs_snoc (acc : List Nd) (n : Nd) : ndPrs (acc ++ [n]) = ndPrs acc ++ nodePrs n.lvl n.ents := by
  unfold ndPrs
  rw [List.flatMap_append, List.flatMap_singleton]
theorem nodePrs_len (lvl : Nat) (es : List En) : (nodePrs lvl es).length ≤ es.length := by
  unfold nodePrs
  split
  · rw [List.length_map]; exact Nat.le_refl _
  · exact Nat.zero_le _

/-- What one that goes through nodes, or pairs, holds: what has come, blocks that it may turn, all blocks that turn. -/
structure Holds {α : Type} (w : World) (J : List α → World → (Nat → Prop) → (Nat → Prop) → Prop) : Prop where
  base : ∀ {l W C F}, J l W C F → Below w.heap.size w W ∧ (∀ q, C q → F q) ∧ ∀ q, F q → w.heap.size ≤ q ∧ q < W.heap.size
  stay : ∀ {l W W' C F F'}, J l W C F → Step F W W' F' → (∀ q, C q → W'.heap[q]? = W.heap[q]?) → (∀ q, F q → F' q) → (∀ q, F' q → q < W'.heap.size) → J l W' C F'
section
variable {α : Type} {w W W' : World} {J : List α → World → (Nat → Prop) → (Nat → Prop) → Prop} {l : List α} {C F F' S : Nat → Prop}
theorem Holds.below (H : Holds w J) (h : J l W C F) (hb : Below W.heap.size W W') : J l W' C F := by
  obtain ⟨h1, h2, h3⟩ := H.base h
  exact H.stay h (Step.of_below hb F) (fun q hq => hb.block q (h3 q (h2 q hq)).2) (fun _ h => h) fun q hq => Nat.lt_of_lt_of_le (h3 q hq).2 hb.size
/-- What is older than all, and what turns. -/
def Su (S F : Nat → Prop) (q : Nat) : Prop := S q ∨ F q
theorem Su.step (h : Step F W W' F') (S : Nat → Prop) : Step (Su S F) W W' (Su S F') :=
  ⟨h.only.mono fun _ _ hq => .inr hq, fun q hq => hq.elim (fun h => .inl (.inl h)) fun hq => (h.more q hq).imp .inr id⟩
/-- The tree, seen from there. -/
theorem Holds.tree {tb db pb fr : Nat} {D : Dv} {ps : List Pg} (H : Holds w J) (h : J l W C F) (hT : TrS w tb db pb fr D ps S) : TrS W tb db pb fr D ps (Su S F) := by
  obtain ⟨h1, h2, h3⟩ := H.base h
  refine (hT.below h1).more (fun _ h => .inl h) (fun q hq => hq.elim (fun hs => Nat.lt_of_lt_of_le (hT.lt q hs) h1.size) fun hf => (h3 q hf).2) (fun hq => hq.elim hT.tlt.2 fun hf => ?_)
  have := hT.tlt.1
  have := (h3 tb hf).1
  omega
theorem Holds.bytes {v : Value} {b : Bytes} (H : Holds w J) (h : J l W C F) (hv : Bsf w S v b) : Bsf W (Su S F) v b :=
  hv.step ⟨Only.of_below (H.base h).1 S, fun q hq => hq.imp id fun hf => ((H.base h).2.2 q hf).1⟩
end
end Go.Proofs.YtgekeemhbnhelaaGreat
