/- The document's own answers of layer 7, on rows of pairs in memory: the walks of Get, Put, Cut, Scan, Same, MayKey and MayValue; conditions: as each says. · The document's own answers of layer 7 that make rows of pairs: the walks of Cut, Scan and Put; condition: no more than a million pairs. · The document's Put of layer 7: its walk; condition: the pairs rise, no more than a million. -/
import Derived.Test.YtgekeemhbnhelaaGreatM34
import Derived.Test.YtgekeemhbnhelaaGreatM18
import Derived.Deep.QuietTactic
import Derived.BigQuiet
namespace Go.Proofs.YtgekeemhbnhelaaGreat
open Go.RowKit

theorem bytesLess_cmp : ∀ l m : Bytes, Op.bytesLess l m = decide (cmp l m < 0) := by
  intro l
  induction l with
  | nil => intro m; cases m <;> rfl
  | cons a l ih =>
    intro m
    cases m with
    | nil => rfl
    | cons b m =>
      unfold cmp at *
      rw [Op.bytesLess, Lib.compareBytes, ih]
      by_cases h1 : a < b
      · simp [h1]
      · by_cases h2 : b < a
        · have : a ≠ b := fun e => h1 (e ▸ h2)
          simp [h1, h2, this]
        · have : a = b := UInt8.le_antisymm (by simpa using h2) (by simpa using h1)
          simp [this]

theorem rmayKey_any {v : Value} {l : Bytes} (w : World) (h : Bs w v l) : Calls Tryz.prog 15 #[v] w fun e w' => e = .returned (.bool (mayK l)) ∧ w = w' := by
  obtain ⟨a, c, rfl, _⟩ := h.shape
  have hl := h.len
  clear h
  unfold mayK
  by_cases h1 : l.length < 1
  · have e1 : decide (1 ≤ l.length ∧ l.length ≤ 32) = false := by simp; omega
    have hi : (l.length : Int) < 1 := by omega
    rw [e1]
    clear h1 e1
    go_enter Tryz.func15, Tryz.ntmps15
    go_wp2
    go_ret
    exact ⟨rfl, rfl⟩
  · have e1 : decide (1 ≤ l.length ∧ l.length ≤ 32) = decide ((l.length : Int) ≤ 32) := by rw [decide_eq_decide]; omega
    have hi : (1 : Int) ≤ (l.length : Int) := by omega
    rw [e1]
    clear h1 e1
    go_enter Tryz.func15, Tryz.ntmps15
    go_wp2
    go_ret
    exact ⟨rfl, rfl⟩
theorem rmayVal_any {v : Value} {l : Bytes} (w : World) (h : Bs w v l) : Calls Tryz.prog 31 #[v] w fun e w' => e = .returned (.bool (mayV l)) ∧ w = w' := by
  obtain ⟨a, c, rfl, _⟩ := h.shape
  clear h
  have e1 : mayV l = decide ((l.length : Int) ≤ 128) := by unfold mayV; rw [decide_eq_decide]; omega
  rw [e1]
  go_enter Tryz.func31, Tryz.ntmps31
  go_wp2
  go_ret
  exact ⟨rfl, rfl⟩

theorem lookP_at {ls : List Pr} {r : Nat} {p : Pr} {key : Bytes} (h : ∀ q ∈ ls.take r, q.1 ≠ key) (hp : ls[r]? = some p) (he : p.1 = key) : lookP ls key = some p.2 := by
  have h1 : ls = ls.take r ++ p :: ls.drop (r + 1) := by
    obtain ⟨hr, e⟩ := List.getElem?_eq_some_iff.1 hp
    rw [← e, ← List.drop_eq_getElem_cons hr, List.take_append_drop]
  have h2 : lookP ls key = lookP (ls.take r ++ p :: ls.drop (r + 1)) key := by rw [← h1]
  rw [h2, lookP_append, lookP_none h]
  unfold lookP
  simp [List.find?_cons, he]
theorem take_ne {ls : List Pr} {r : Nat} {p : Pr} {key : Bytes} (h : ∀ q ∈ ls.take r, q.1 ≠ key) (hp : ls[r]? = some p) (he : p.1 ≠ key) : ∀ q ∈ ls.take (r + 1), q.1 ≠ key := by
  intro q hq
  rw [List.take_add_one, hp] at hq
  rcases List.mem_append.1 hq with h1 | h1
  · exact h q h1
  · have h2 : q = p := by simpa using h1
    rw [h2]
    exact he

section
variable {S : Nat → Prop} {lv kv : Value} {ls : List Pr} {key : Bytes}
set_option maxRecDepth 100000 in
set_option maxHeartbeats 2000000 in
theorem rget_any (w : World) (h : Rd kdPr w S lv ls) (hk : Bs w kv key) : Calls Tryz.prog 14 #[lv, kv] w fun e w' => ∃ v, e = .returned (.tuple #[v, .bool (lookP ls key).isSome]) ∧ Bsf w' S v ((lookP ls key).getD []) ∧ Below w.heap.size w w' := by
  obtain ⟨la, lc, rfl, _⟩ := h.shape
  obtain ⟨ka, kc, rfl, _⟩ := hk.shape
  obtain ⟨n, hn⟩ : ∃ n, n = ls.length := ⟨_, rfl⟩
  obtain ⟨kn, hkn⟩ : ∃ kn, kn = key.length := ⟨_, rfl⟩
  have hle := h.len
  rw [← hn] at h hle ⊢
  rw [← hkn] at hk ⊢
  have HH := Lib.hid (And.intro h (And.intro hk hn))
  clear h hk hn hkn
  go_enter Tryz.func14, Tryz.ntmps14
  go_wp2
  go_loopw [6] (fun i wr => ∃ r : Nat, r ≤ n ∧ i = .int .i64 (r : Int) ∧ (∀ q ∈ ls.take r, q.1 ≠ key) ∧ Below w.heap.size w wr) (fun i _ => n - (intOf i).toNat)
  case atStart => exact ⟨0, Nat.zero_le _, rfl, (fun q hq => by simp at hq), Below.refl _ _⟩
  case round =>
    obtain ⟨r, hr, rfl, hne, hb⟩ := hrel
    obtain ⟨h, hk, hn⟩ := HH.out
    by_cases hlt : r < n
    · obtain ⟨p, hp⟩ : ∃ p, ls[r]? = some p := ⟨_, List.getElem?_eq_getElem (by omega)⟩
      obtain ⟨g, o, cap, pa, pc, va, vc, e0, hg, k0, k1, bk, bv⟩ := (h.step (Step.of_below hb S)).par hp
      simp only [Value.slice.injEq] at e0
      obtain ⟨rfl, -, rfl⟩ := e0
      have hil : (r : Int) < (n : Int) := by omega
      have hr0 : (0 : Int) ≤ (r : Int) := by omega
      have t1 := fun m => run_string_bs bt (d := 9) Tryz.underlying9 (wr.drewN m) (bk.1.kept fun _ _ hu => hu)
      have t2 := fun m => run_string_bs bt (d := 9) Tryz.underlying9 (wr.drewN m) ((hk.below hb).kept fun _ _ hu => hu)
      by_cases he : p.1 = key
      · have hl := lookP_at hne hp he
        have hbe : (p.1 == key) = true := by simp [he]
        have HB := Lib.hid (And.intro hb (And.intro bv hl))
        clear h hk hn hne hb hp bk bv he hl
        go_wp2
        go_quiet (fail)
        clear t1 t2
        go_wp2
        go_ret2
        refine ⟨.slice va p.2.length vc, ?_, ?_, below_drewN HB.out.1 _⟩
        · rw [HB.out.2.2]
          rfl
        · rw [HB.out.2.2]
          exact HB.out.2.1.step (Step.drewN (Step.refl S wr) _)
      · have hbe : (p.1 == key) = false := by rw [beq_eq_false_iff_ne]; exact he
        have HB := Lib.hid (And.intro hb (take_ne hne hp he))
        clear h hk hn hne hb hp bk bv he
        go_wp2
        go_quiet (fail)
        clear t1 t2
        go_wp2
        go_roundw
        case rel => exact ⟨r + 1, by omega, by go_num, HB.out.2, below_drewN HB.out.1 _⟩
        case measure => simp [intOf]; omega
    · obtain rfl : r = n := by omega
      have hl := lookP_none (a := ls) (key := key) (by rw [List.take_of_length_le (by omega)] at hne; exact hne)
      have HB := Lib.hid (And.intro hb hl)
      have hil : ¬ (r : Int) < (r : Int) := by omega
      clear h hk hn hne hb hl
      go_wp2
      go_ret2
      refine ⟨.slice none 0 0, ?_, ?_, HB.out.1⟩
      · rw [HB.out.2]
        rfl
      · rw [HB.out.2]
        exact Bsf.nil _ _

set_option maxRecDepth 100000 in
set_option maxHeartbeats 2000000 in
theorem rsame_any {xv : Value} {ms : List Pr} (w : World) (h : Rd kdPr w S lv ls) (hm : Rd kdPr w S xv ms) : Calls Tryz.prog 20 #[lv, xv] w fun e w' => e = .returned (.bool (decide (ls = ms))) ∧ Below w.heap.size w w' := by
  obtain ⟨la, lc, rfl, _⟩ := h.shape
  obtain ⟨xa, xc, rfl, _⟩ := hm.shape
  have hle := h.len
  have hlm := hm.len
  by_cases hlen : ls.length = ms.length
  · obtain ⟨n, hn⟩ : ∃ n, n = ls.length := ⟨_, rfl⟩
    rw [← hlen] at hm hlm ⊢
    rw [← hn] at h hm hle hlm ⊢
    have HH := Lib.hid (And.intro h (And.intro hm (And.intro hn hlen)))
    clear h hm hn hlen
    go_enter Tryz.func20, Tryz.ntmps20
    go_wp2
    go_loopw [5] (fun i wr => ∃ r : Nat, r ≤ n ∧ i = .int .i64 (r : Int) ∧ ls.take r = ms.take r ∧ Below w.heap.size w wr) (fun i _ => n - (intOf i).toNat)
    case atStart => exact ⟨0, Nat.zero_le _, rfl, rfl, Below.refl _ _⟩
    case round =>
      obtain ⟨r, hr, rfl, ht, hb⟩ := hrel
      obtain ⟨h, hm, hn, hlen⟩ := HH.out
      by_cases hlt : r < n
      · obtain ⟨p, hp⟩ : ∃ p, ls[r]? = some p := ⟨_, List.getElem?_eq_getElem (by omega)⟩
        obtain ⟨q, hq⟩ : ∃ q, ms[r]? = some q := ⟨_, List.getElem?_eq_getElem (by omega)⟩
        obtain ⟨g, o, cap, pa, pc, va, vc, e0, hg, k0, k1, bk, bv⟩ := (h.step (Step.of_below hb S)).par hp
        obtain ⟨g', o', cap', pa', pc', va', vc', e0', hg', k0', k1', bk', bv'⟩ := (hm.step (Step.of_below hb S)).par hq
        simp only [Value.slice.injEq] at e0 e0'
        obtain ⟨rfl, -, rfl⟩ := e0
        obtain ⟨rfl, -, rfl⟩ := e0'
        have hil : (r : Int) < (n : Int) := by omega
        have hr0 : (0 : Int) ≤ (r : Int) := by omega
        have t1 := fun m => run_string_bs bt (d := 9) Tryz.underlying9 (wr.drewN m) (bk.1.kept fun _ _ hu => hu)
        have t2 := fun m => run_string_bs bt (d := 9) Tryz.underlying9 (wr.drewN m) (bk'.1.kept fun _ _ hu => hu)
        have t3 := fun m => run_string_bs bt (d := 9) Tryz.underlying9 (wr.drewN m) (bv.1.kept fun _ _ hu => hu)
        have t4 := fun m => run_string_bs bt (d := 9) Tryz.underlying9 (wr.drewN m) (bv'.1.kept fun _ _ hu => hu)
        by_cases he : p.1 = q.1
        · have hbe : (p.1 == q.1) = true := by simp [he]
          have hbn : (p.1 != q.1) = false := by simp [he]
          by_cases hf : p.2 = q.2
          · have hbf : (p.2 == q.2) = true := by simp [hf]
            have hbg : (p.2 != q.2) = false := by simp [hf]
            have hpq : p = q := Prod.ext he hf
            have HB := Lib.hid (And.intro hb (show ls.take (r + 1) = ms.take (r + 1) by rw [List.take_add_one, List.take_add_one, hp, hq, ht, hpq]))
            clear h hm hn hlen ht hb hp hq bk bv bk' bv' he hf hpq
            go_wp2
            go_quiet (fail)
            clear t1 t2 t3 t4
            go_wp2
            go_roundw
            case rel => exact ⟨r + 1, by omega, by go_num, HB.out.2, below_drewN HB.out.1 _⟩
            case measure => simp [intOf]; omega
          · have hbf : (p.2 == q.2) = false := by rw [beq_eq_false_iff_ne]; exact hf
            have hbg : (p.2 != q.2) = true := by simp [hf]
            have hd : decide (ls = ms) = false := decide_eq_false fun e => by
              rw [e, hq] at hp
              exact hf (by rw [Option.some.inj hp])
            have HB := Lib.hid (And.intro hb hd)
            clear h hm hn hlen ht hb hp hq bk bv bk' bv' he hf hd
            go_wp2
            go_quiet (fail)
            clear t1 t2 t3 t4
            go_wp2
            go_ret
            rw [HB.out.2]
            exact ⟨rfl, below_drewN HB.out.1 _⟩
        · have hbe : (p.1 == q.1) = false := by rw [beq_eq_false_iff_ne]; exact he
          have hbn : (p.1 != q.1) = true := by simp [he]
          have hd : decide (ls = ms) = false := decide_eq_false fun e => by
            rw [e, hq] at hp
            exact he (by rw [Option.some.inj hp])
          have HB := Lib.hid (And.intro hb hd)
          clear h hm hn hlen ht hb hp hq bk bv bk' bv' he hd
          go_wp2
          go_quiet (fail)
          clear t1 t2 t3 t4
          go_wp2
          go_ret
          rw [HB.out.2]
          exact ⟨rfl, below_drewN HB.out.1 _⟩
      · obtain rfl : r = n := by omega
        have hd : decide (ls = ms) = true := decide_eq_true (by rwa [List.take_of_length_le (by omega), List.take_of_length_le (by omega)] at ht)
        have HB := Lib.hid (And.intro hb hd)
        have hil : ¬ (r : Int) < (r : Int) := by omega
        clear h hm hn hlen ht hb hd
        go_wp2
        go_ret
        rw [HB.out.2]
        exact ⟨rfl, HB.out.1⟩
  · have hd : decide (ls = ms) = false := decide_eq_false fun e => hlen (by rw [e])
    have hne : ¬ (ls.length : Int) = (ms.length : Int) := by omega
    have hbn : ((ls.length : Int) != (ms.length : Int)) = true := by simpa using hne
    have HD := Lib.hid hd
    clear h hm hd hlen
    go_enter Tryz.func20, Tryz.ntmps20
    go_wp2
    go_ret
    rw [HD.out]
    exact ⟨rfl, Below.refl _ _⟩
end
end Go.Proofs.YtgekeemhbnhelaaGreat
namespace Go.Proofs.YtgekeemhbnhelaaGreat
open Go.RowKit

theorem list_append_run {P : Program} {w w' : World} {ops : Array Oper} {rest : List Oper} {o : Oper} {a : Act} {Q : Exit → Act → World → Prop} {v x v' : Value} (hg : o.guard = none) (sl xl : Operand) (ty : TypeId) (hop : o.op = .call { callee := .builtin .append, args := #[sl, xl], argTypes := #[ty, ty] })
    (hs : a.eval sl = v) (hx : a.eval xl = x) (hr : (Builtin.append_ #[ty, ty] o.type #[v, x]).run P w = .ok v' w') (h : wpList P ops Q rest (a.put o.dst v') w') : wpList P ops Q (o :: rest) a w := by
  refine wpList_plain hg fun _ hK => ?_
  unfold Oper.wp execOp
  simp only [hop, resolve, invoke, builtin, Sem.run_bind, Sem.run_pure, Result.andThen_ok, List.map_toArray, List.map_cons, List.map_nil, hs, hx, hr]
  exact hK _ _ h

/-- Pairs that a call gathers in a row of its own. -/
structure OutR (w : World) (S : Nat → Prop) (lv : Value) (ls : List Pr) (w2 : World) (ov : Value) (out : List Pr) (Sx : Nat → Prop) : Prop where
  ro : Ro kdPr 57 w2 Sx ov out
  rd : Rd kdPr w2 Sx lv ls
  bel : Below w.heap.size w w2
  own : ∀ q, ov.ownBlock = some q → w.heap.size ≤ q
  incl : ∀ q, S q → Sx q
  more : ∀ q, Sx q → S q ∨ w.heap.size ≤ q
  lt : ∀ q, Sx q → q < w2.heap.size

section
variable {w w2 w3 : World} {S Sx : Nat → Prop} {lv ov : Value} {ls out : List Pr} {ka va : Option Addr} {kn kc vn vc : Nat} {p : Pr}
theorem OutR.start (h : Rd kdPr w S lv ls) (hS : ∀ q, S q → q < w.heap.size) : OutR w S lv ls w (.slice none 0 0) [] S :=
  ⟨Ro.nil _ _ _ _, h, Below.refl _ _, (fun q h => by cases h), fun _ h => h, fun _ h => .inl h, hS⟩
theorem OutR.below (h : OutR w S lv ls w2 ov out Sx) (hb : Below w2.heap.size w2 w3) : OutR w S lv ls w3 ov out Sx :=
  ⟨h.ro.below hb, h.rd.step (Step.of_below hb Sx), h.bel.trans (hb.mono h.bel.size), h.own, h.incl, h.more, fun q hq => Nat.lt_of_lt_of_le (h.lt q hq) hb.size⟩
theorem OutR.drewN (h : OutR w S lv ls w2 ov out Sx) (n : Nat) : OutR w S lv ls (w2.drewN n) ov out Sx := h.below (below_drewN (Below.refl _ _) n)
theorem OutR.step (h : OutR w S lv ls w2 ov out Sx) : Step S w w2 Sx := ⟨Only.of_below h.bel S, h.more⟩
theorem OutR.push (h : OutR w S lv ls w2 ov out Sx) (hk : Bsf w2 Sx (.slice ka kn kc) p.1) (hv : Bsf w2 Sx (.slice va vn vc) p.2) (hn : out.length ≤ 1000000) : ∃ ua uc un w6 Sy, un = (out ++ [p]).length ∧
    (Builtin.append_ #[28, 28] 28 #[ov, .slice (some ⟨w2.heap.size, 0, none⟩) 1 1]).run Tryz.prog (w2.alloc (.cells #[.slice ka kn kc, .slice va vn vc] 57)) = .ok (.slice ua un uc) w6 ∧
    OutR w S lv ls w6 (.slice ua un uc) (out ++ [p]) Sy := by
  have hb : Below w2.heap.size w2 (w2.alloc (.cells #[.slice ka kn kc, .slice va vn vc] 57)) := (Below.refl _ _).alloc (Nat.le_refl _) _
  have h1 := h.below hb
  have hlit := rd_lit kdPr w2 57 Sx h.lt [⟨⟨ka, kn, kc⟩, ⟨va, vn, vc⟩, p⟩] #[.slice ka kn kc, .slice va vn vc] rfl (fun t ht => by rw [List.mem_singleton.1 ht]; exact ⟨hk, hv⟩) (by simp) (n := 1) rfl
  obtain ⟨v', w6, hrun, ro6, st6, gr6, lo6⟩ := run_append_ro (m := [p]) par_ty 28 h1.ro hlit (by simp; omega)
  obtain ⟨ua, uc, rfl, _⟩ := ro6.shape
  refine ⟨ua, uc, _, w6, _, rfl, hrun, ro6, h1.rd.step st6, h1.bel.grown gr6 h1.bel.size fun k hk => h1.own k hk, fun q hq => ?_, fun q hq => .inl (h.incl q hq), fun q hq => ?_, fun q hq => ?_⟩
  · rcases lo6 with e | e
    · exact h.own q (e ▸ hq)
    · rw [e] at hq
      cases hq
      exact h1.bel.size
  · rcases st6.more q hq with h2 | h2
    · exact h.more q h2
    · exact .inr (Nat.le_trans h1.bel.size h2)
  · rcases hq with hq | hq
    · exact Nat.lt_of_lt_of_le (h1.lt q hq) st6.size
    · exact ro6.own hq
theorem OutR.done (h : OutR w S lv ls w2 ov out Sx) (hS : ∀ q, S q → q < w.heap.size) : Rd kdPr w2 S ov out := h.ro.rd h.incl fun q hq hs => by
  have := h.own q hq
  have := hS q hs
  omega

theorem cutP_take {ls : List Pr} {r : Nat} {p : Pr} (key : Bytes) (hp : ls[r]? = some p) : cutP (ls.take (r + 1)) key = cutP (ls.take r) key ++ if p.1 = key then [] else [p] := by
  rw [List.take_add_one, hp]
  unfold cutP
  rw [List.filter_append]
  congr 1
  by_cases h : p.1 = key
  · simp [h]
  · simp [h]
end

section
variable {S : Nat → Prop} {lv kv : Value} {ls : List Pr} {key : Bytes}
set_option maxRecDepth 100000 in
set_option maxHeartbeats 2000000 in
theorem rcut_any (w : World) (h : Rd kdPr w S lv ls) (hk : Bs w kv key) (hS : ∀ q, S q → q < w.heap.size) (hn : ls.length ≤ 1000000) : Calls Tryz.prog 36 #[lv, kv] w fun e w' => ∃ v, e = .returned v ∧ Rd kdPr w' S v (cutP ls key) ∧ Below w.heap.size w w' := by
  obtain ⟨la, lc, rfl, _⟩ := h.shape
  obtain ⟨ka, kc, rfl, _⟩ := hk.shape
  obtain ⟨n, hnn⟩ : ∃ n, n = ls.length := ⟨_, rfl⟩
  obtain ⟨kn, hkn⟩ : ∃ kn, kn = key.length := ⟨_, rfl⟩
  rw [← hnn] at h hn ⊢
  rw [← hkn] at hk ⊢
  have HH := Lib.hid (And.intro (OutR.start h hS) (And.intro hk (And.intro hnn hS)))
  clear h hk hnn hkn hS
  go_enter Tryz.func36, Tryz.ntmps36
  go_wp2
  go_loopw [5, 6] (fun ov i wr => ∃ (r : Nat) (Sx : Nat → Prop), r ≤ n ∧ i = .int .i64 (r : Int) ∧ OutR w S (.slice la n lc) ls wr ov (cutP (ls.take r) key) Sx) (fun _ i _ => n - (intOf i).toNat)
  case atStart => exact ⟨0, S, Nat.zero_le _, rfl, HH.out.1⟩
  case round =>
    obtain ⟨r, Sx, hr, rfl, hO⟩ := hrel
    obtain ⟨-, hk, hnn, hS⟩ := HH.out
    by_cases hlt : r < n
    · obtain ⟨p, hp⟩ : ∃ p, ls[r]? = some p := ⟨_, List.getElem?_eq_getElem (by omega)⟩
      obtain ⟨g, o, cap, pa, pc, va, vc, e0, hg, k0, k1, bk, bv⟩ := hO.rd.par hp
      simp only [Value.slice.injEq] at e0
      obtain ⟨rfl, -, rfl⟩ := e0
      have hil : (r : Int) < (n : Int) := by omega
      have hr0 : (0 : Int) ≤ (r : Int) := by omega
      have t1 := fun m => run_string_bs bt (d := 9) Tryz.underlying9 (wr.drewN m) (bk.1.kept fun _ _ hu => hu)
      have t2 := fun m => run_string_bs bt (d := 9) Tryz.underlying9 (wr.drewN m) ((hk.below hO.bel).kept fun _ _ hu => hu)
      obtain ⟨out, hout⟩ : ∃ out, out = cutP (ls.take r) key := ⟨_, rfl⟩
      have hs := cutP_take key hp
      have hol : out.length ≤ 1000000 := by
        have h1 : (cutP (ls.take r) key).length ≤ (ls.take r).length := List.length_filter_le _ _
        rw [List.length_take, ← hout] at h1
        omega
      rw [← hout] at hO hs
      obtain ⟨oa, oc, rfl, _⟩ := hO.ro.shape
      by_cases he : p.1 = key
      · rw [if_pos he, List.append_nil] at hs
        have hbe : (p.1 == key) = true := by simp [he]
        have hbn : (p.1 != key) = false := by simp [he]
        have HB := Lib.hid hO
        have HE := Lib.hid hs
        clear hO hk hnn hS hp bk bv hout hs hol he
        go_wp2
        go_quiet (fail)
        clear t1 t2
        go_wp2
        go_roundw
        case rel =>
          refine ⟨r + 1, Sx, by omega, by go_num, ?_⟩
          rw [HE.out]
          exact HB.out.drewN _
        case measure => simp [intOf]; omega
      · rw [if_neg he] at hs
        have hbe : (p.1 == key) = false := by rw [beq_eq_false_iff_ne]; exact he
        have hbn : (p.1 != key) = true := by simp [he]
        have HB := Lib.hid (And.intro hO (And.intro hol (And.intro bk bv)))
        have HE := Lib.hid hs
        clear hO hk hnn hS hp bk bv hout hs hol he
        go_wp2
        go_quiet (fail)
        clear t1 t2
        obtain ⟨ua, uc, un, w6, Sy, hun, hrun, hO6⟩ := (HB.out.1.drewN nq).push (HB.out.2.2.1.step (Step.drewN (Step.refl Sx wr) nq)) (HB.out.2.2.2.step (Step.drewN (Step.refl Sx wr) nq)) HB.out.2.1
        have H6 := Lib.hid hO6
        clear hun hO6
        go_wp2_with (at_builtin; refine list_append_run rfl (.tmp 22) (.tmp 27) _ rfl rfl rfl hrun ?_)
        clear hrun
        go_roundw
        case rel =>
          refine ⟨r + 1, Sy, by omega, by go_num, ?_⟩
          rw [HE.out]
          exact H6.out
        case measure => simp [intOf]; omega
    · obtain rfl : r = n := by omega
      rw [List.take_of_length_le (by omega)] at hO
      obtain ⟨out, hout⟩ : ∃ out, out = cutP ls key := ⟨_, rfl⟩
      rw [← hout] at hO
      obtain ⟨oa, oc, rfl, _⟩ := hO.ro.shape
      have hil : ¬ (r : Int) < (r : Int) := by omega
      have HB := Lib.hid (And.intro hO (And.intro hS hout))
      clear hO hk hnn hS hout
      go_wp2
      go_ret
      refine ⟨_, rfl, ?_, HB.out.1.bel⟩
      rw [← HB.out.2.2]
      exact HB.out.1.done HB.out.2.1
end

/-- What the document's Put has gathered behind r of the pairs. -/
def PutR (ls : List Pr) (key val : Bytes) (r : Nat) (d : Bool) (out : List Pr) : Prop :=
  (d = false ∧ out = ls.take r ∧ ∀ q ∈ ls.take r, cmp q.1 key < 0) ∨ (d = true ∧ out = putP (ls.take r) key val ∧ ∃ q ∈ ls.take r, ¬ cmp q.1 key < 0)
theorem take_snoc {ls : List Pr} {r : Nat} {p : Pr} (hp : ls[r]? = some p) : ls.take (r + 1) = ls.take r ++ [p] := by rw [List.take_add_one, hp]; rfl
theorem PutR.less {ls : List Pr} {key val : Bytes} {r : Nat} {out : List Pr} {p : Pr} (h : PutR ls key val r false out) (hp : ls[r]? = some p) (hc : cmp p.1 key < 0) : PutR ls key val (r + 1) false (out ++ [p]) := by
  rcases h with ⟨_, rfl, h3⟩ | ⟨h, _⟩
  · refine .inl ⟨rfl, (take_snoc hp).symm, fun q hq => ?_⟩
    rw [take_snoc hp] at hq
    rcases List.mem_append.1 hq with h1 | h1
    · exact h3 q h1
    · rw [List.mem_singleton.1 h1]
      exact hc
  · cases h
theorem PutR.here {ls : List Pr} {key val : Bytes} {r : Nat} {out : List Pr} {p : Pr} (h : PutR ls key val r false out) (hp : ls[r]? = some p) (hc : ¬ cmp p.1 key < 0) (he : p.1 = key) : PutR ls key val (r + 1) true (out ++ [(key, val)]) := by
  rcases h with ⟨_, rfl, h3⟩ | ⟨h, _⟩
  · refine .inr ⟨rfl, ?_, p, by rw [take_snoc hp]; exact List.mem_append_right _ List.mem_cons_self, hc⟩
    rw [take_snoc hp, putP_ahead h3]
    unfold putP
    rw [if_neg hc, if_pos he]
  · cases h
theorem PutR.ahead {ls : List Pr} {key val : Bytes} {r : Nat} {out : List Pr} {p : Pr} (h : PutR ls key val r false out) (hp : ls[r]? = some p) (hc : ¬ cmp p.1 key < 0) (he : p.1 ≠ key) : PutR ls key val (r + 1) true (out ++ [(key, val)] ++ [p]) := by
  rcases h with ⟨_, rfl, h3⟩ | ⟨h, _⟩
  · refine .inr ⟨rfl, ?_, p, by rw [take_snoc hp]; exact List.mem_append_right _ List.mem_cons_self, hc⟩
    rw [take_snoc hp, putP_ahead h3, List.append_assoc]
    congr 1
    unfold putP
    rw [if_neg hc, if_neg he]
    rfl
  · cases h
theorem PutR.beyond {ls : List Pr} {key val : Bytes} {r : Nat} {out : List Pr} {p : Pr} (hr : RiseP ls) (h : PutR ls key val r true out) (hp : ls[r]? = some p) : p.1 ≠ key ∧ PutR ls key val (r + 1) true (out ++ [p]) := by
  rcases h with ⟨h, _⟩ | ⟨_, rfl, q, hq, hc⟩
  · cases h
  · have hd : ls = ls.take r ++ p :: ls.drop (r + 1) := by
      obtain ⟨hl, e⟩ := List.getElem?_eq_some_iff.1 hp
      rw [← e, ← List.drop_eq_getElem_cons hl, List.take_append_drop]
    rw [hd] at hr
    have hqp := (RiseP.append.1 hr).2.2 q hq p List.mem_cons_self
    have hkp : cmp key p.1 < 0 := cmp_le_lt (by have := cmp_turn q.1 key; omega) hqp
    refine ⟨fun e => cmp_ne hkp e.symm, .inr ⟨rfl, ?_, q, by rw [take_snoc hp]; exact List.mem_append_left _ hq, hc⟩⟩
    rw [take_snoc hp]
    exact (putP_behind fun x hx => by rw [List.mem_singleton.1 hx]; exact hkp).symm
theorem PutR.last {ls : List Pr} {key val : Bytes} {d : Bool} {out : List Pr} (h : PutR ls key val ls.length d out) : (d = true → out = putP ls key val) ∧ (d = false → out ++ [(key, val)] = putP ls key val) := by
  rcases h with ⟨rfl, rfl, h3⟩ | ⟨rfl, rfl, _⟩
  · rw [List.take_length] at h3 ⊢
    refine ⟨(fun h => by cases h), fun _ => ?_⟩
    have := putP_ahead (x := []) (v := val) h3
    rw [List.append_nil] at this
    rw [this]
    rfl
  · rw [List.take_length]
    exact ⟨fun _ => rfl, (fun h => by cases h)⟩
theorem PutR.len {ls : List Pr} {key val : Bytes} {r : Nat} {d : Bool} {out : List Pr} (h : PutR ls key val r d out) : out.length ≤ ls.length + 1 := by
  have h1 : (ls.take r).length ≤ ls.length := by rw [List.length_take]; omega
  have h2 : ∀ l : List Pr, (putP l key val).length ≤ l.length + 1 := by
    intro l
    induction l with
    | nil => exact Nat.le_refl _
    | cons a t ih =>
      unfold putP
      split
      · rw [List.length_cons, List.length_cons]; omega
      · split <;> simp
  rcases h with ⟨_, rfl, _⟩ | ⟨_, rfl, _⟩
  · omega
  · have := h2 (ls.take r); omega

end Go.Proofs.YtgekeemhbnhelaaGreat
namespace Go.Proofs.YtgekeemhbnhelaaGreat
open Go.RowKit

section
variable {S : Nat → Prop} {lv kv vv : Value} {ls : List Pr} {key val : Bytes}
set_option maxRecDepth 100000 in
set_option maxHeartbeats 4000000 in
theorem rput_any (w : World) (h : Rd kdPr w S lv ls) (hr : RiseP ls) (hk : Bsf w S kv key) (hv : Bsf w S vv val) (hS : ∀ q, S q → q < w.heap.size) (hn : ls.length ≤ 900000) : Calls Tryz.prog 37 #[lv, kv, vv] w fun e w' => ∃ v, e = .returned v ∧ Rd kdPr w' S v (putP ls key val) ∧ Below w.heap.size w w' := by
  obtain ⟨la, lc, rfl, _⟩ := h.shape
  obtain ⟨ka, kc, rfl, _⟩ := hk.1.shape
  obtain ⟨xa, xc, rfl, _⟩ := hv.1.shape
  obtain ⟨n, hnn⟩ : ∃ n, n = ls.length := ⟨_, rfl⟩
  obtain ⟨kn, hkn⟩ : ∃ kn, kn = key.length := ⟨_, rfl⟩
  obtain ⟨xn, hxn⟩ : ∃ xn, xn = val.length := ⟨_, rfl⟩
  rw [← hnn] at h hn ⊢
  rw [← hkn] at hk ⊢
  rw [← hxn] at hv ⊢
  have HH := Lib.hid (And.intro (OutR.start h hS) (And.intro hk (And.intro hv (And.intro hnn (And.intro hS hr)))))
  clear h hk hv hnn hkn hxn hS hr
  go_enter Tryz.func37, Tryz.ntmps37
  go_wp2
  go_loopw [7, 8, 9] (fun ov dv i wr => ∃ (r : Nat) (Sx : Nat → Prop) (d : Bool) (out : List Pr), r ≤ n ∧ i = .int .i64 (r : Int) ∧ dv = .bool d ∧ OutR w S (.slice la n lc) ls wr ov out Sx ∧ PutR ls key val r d out) (fun _ _ i _ => n - (intOf i).toNat)
  case atStart => exact ⟨0, S, false, [], Nat.zero_le _, rfl, rfl, HH.out.1, .inl ⟨rfl, rfl, fun q hq => by simp at hq⟩⟩
  case round =>
    obtain ⟨r, Sx, d, out, hrn, rfl, rfl, hO, hP⟩ := hrel
    obtain ⟨-, hk, hv, hnn, hS, hr⟩ := HH.out
    obtain ⟨oa, oc, rfl, _⟩ := hO.ro.shape
    have hol := hP.len
    by_cases hlt : r < n
    · obtain ⟨p, hp⟩ : ∃ p, ls[r]? = some p := ⟨_, List.getElem?_eq_getElem (by omega)⟩
      obtain ⟨g, o, cap, pa, pc, va, vc, e0, hg, k0, k1, bk, bv⟩ := hO.rd.par hp
      simp only [Value.slice.injEq] at e0
      obtain ⟨rfl, -, rfl⟩ := e0
      have hil : (r : Int) < (n : Int) := by omega
      have hr0 : (0 : Int) ≤ (r : Int) := by omega
      have t1 := fun m => run_string_bs bt (d := 9) Tryz.underlying9 (wr.drewN m) (bk.1.kept fun _ _ hu => hu)
      have t2 := fun m => run_string_bs bt (d := 9) Tryz.underlying9 (wr.drewN m) ((hk.step hO.step).1.kept fun _ _ hu => hu)
      rcases d with _ | _
      · by_cases hc : cmp p.1 key < 0
        · have hl1 : Op.bytesLess p.1 key = true := by rw [bytesLess_cmp]; exact decide_eq_true hc
          have hbe : (p.1 == key) = false := by rw [beq_eq_false_iff_ne]; exact cmp_ne hc
          have hbn : (p.1 != key) = true := by simpa using hbe
          have HB := Lib.hid (And.intro hO (And.intro (hP.less hp hc) (And.intro bk (And.intro bv (show out.length ≤ 1000000 by omega)))))
          have HT := Lib.hid (And.intro bk.1 (hk.step hO.step).1)
          clear hO hk hv hnn hS hr hp bk bv hol hc hP
          go_wp2
          go_quiet (fail)
          clear t1 t2
          have t1 := fun m => run_string_bs bt (d := 9) Tryz.underlying9 ((wr.drewN nq).drewN m) (HT.out.1.kept fun _ _ hu => hu)
          have t2 := fun m => run_string_bs bt (d := 9) Tryz.underlying9 ((wr.drewN nq).drewN m) (HT.out.2.kept fun _ _ hu => hu)
          obtain ⟨wq, hwq⟩ : ∃ wq, wq = wr.drewN nq := ⟨_, rfl⟩
          have q0 : wq.cell? ⟨g, o + r * 2, none⟩ = some (.slice pa p.1.length pc) := by rw [hwq]; exact k0
          have q1 : wq.cell? ⟨g, o + r * 2 + 1, none⟩ = some (.slice va p.2.length vc) := by rw [hwq]; exact k1
          have hOq := HB.out.1.drewN nq
          have bkq := HB.out.2.2.1.step (Step.drewN (Step.refl Sx wr) nq)
          have bvq := HB.out.2.2.2.1.step (Step.drewN (Step.refl Sx wr) nq)
          rw [← hwq] at t1 t2 hOq bkq bvq ⊢
          have HQ := Lib.hid (And.intro hOq (And.intro bkq bvq))
          clear hwq k0 k1 hOq bkq bvq
          go_wp2
          go_quiet (fail)
          clear t1 t2
          obtain ⟨ua, uc, un, w6, Sy, hun, hrun, hO6⟩ := (HQ.out.1.drewN nq).push (HQ.out.2.1.step (Step.drewN (Step.refl Sx wq) nq)) (HQ.out.2.2.step (Step.drewN (Step.refl Sx wq) nq)) HB.out.2.2.2.2
          have H6 := Lib.hid (And.intro hO6 HB.out.2.1)
          clear hun hO6
          go_wp2_with (at_builtin; refine list_append_run rfl (.tmp 44) (.tmp 49) _ rfl rfl rfl hrun ?_)
          clear hrun
          go_roundw
          case rel => exact ⟨r + 1, Sy, false, _, by omega, by go_num, rfl, H6.out.1, H6.out.2⟩
          case measure => simp [intOf]; omega
        · by_cases he : p.1 = key
          · have hbe : (p.1 == key) = true := by simp [he]
            have hbn : (p.1 != key) = false := by simp [he]
            have HE := Lib.hid he
            clear he
            have hl1 : Op.bytesLess p.1 key = false := by rw [bytesLess_cmp]; exact decide_eq_false hc
            have HB := Lib.hid (And.intro hO (And.intro hP (And.intro (hk.step hO.step) (And.intro (hv.step hO.step) (And.intro (show out.length ≤ 1000000 by omega) (And.intro hp hc))))))
            clear hO hk hv hnn hS hr hp bk bv hol hc hP
            go_wp2
            go_quiet (fail)
            clear t1 t2 k0 k1
            obtain ⟨ua, uc, un, w6, Sy, hun, hrun, hO6⟩ := (HB.out.1.drewN nq).push (p := (key, val)) (HB.out.2.2.1.step (Step.drewN (Step.refl Sx wr) nq)) (HB.out.2.2.2.1.step (Step.drewN (Step.refl Sx wr) nq)) HB.out.2.2.2.2.1
            obtain ⟨g', o', cap', pa', pc', va', vc', e0, hg', q0, q1, bk6, bv6⟩ := hO6.rd.par HB.out.2.2.2.2.2.1
            simp only [Value.slice.injEq, Option.some.injEq, Addr.mk.injEq] at e0
            obtain ⟨⟨rfl, rfl, -⟩, -, rfl⟩ := e0
            have hk6 := HH.out.2.1.step hO6.step
            have t1 := fun m => run_string_bs bt (d := 9) Tryz.underlying9 (w6.drewN m) (bk6.1.kept fun _ _ hu => hu)
            have t2 := fun m => run_string_bs bt (d := 9) Tryz.underlying9 (w6.drewN m) (hk6.1.kept fun _ _ hu => hu)
            have H6 := Lib.hid (And.intro hO6 (And.intro bk6 bv6))
            clear hun hO6 bk6 bv6 hk6
            go_wp2_with (at_builtin; refine list_append_run rfl (.tmp 29) (.tmp 33) _ rfl rfl rfl hrun ?_)
            clear hrun
            go_quiet (fail)
            clear t1 t2 q0 q1
            go_wp2
            go_roundw
            case rel => exact ⟨r + 1, Sy, true, _, by omega, by go_num, rfl, H6.out.1.drewN _, HB.out.2.1.here HB.out.2.2.2.2.2.1 (by have := HB.out.2.2.2.2.2.2; omega) HE.out⟩
            case measure => simp [intOf]; omega
          · have hbe : (p.1 == key) = false := by rw [beq_eq_false_iff_ne]; exact he
            have hbn : (p.1 != key) = true := by simp [he]
            have HE := Lib.hid he
            clear he
            have hl1 : Op.bytesLess p.1 key = false := by rw [bytesLess_cmp]; exact decide_eq_false hc
            have HB := Lib.hid (And.intro hO (And.intro hP (And.intro (hk.step hO.step) (And.intro (hv.step hO.step) (And.intro (show out.length ≤ 1000000 by omega) (And.intro hp hc))))))
            clear hO hk hv hnn hS hr hp bk bv hol hc hP
            go_wp2
            go_quiet (fail)
            clear t1 t2 k0 k1
            obtain ⟨ua, uc, un, w6, Sy, hun, hrun, hO6⟩ := (HB.out.1.drewN nq).push (p := (key, val)) (HB.out.2.2.1.step (Step.drewN (Step.refl Sx wr) nq)) (HB.out.2.2.2.1.step (Step.drewN (Step.refl Sx wr) nq)) HB.out.2.2.2.2.1
            obtain ⟨g', o', cap', pa', pc', va', vc', e0, hg', q0, q1, bk6, bv6⟩ := hO6.rd.par HB.out.2.2.2.2.2.1
            simp only [Value.slice.injEq, Option.some.injEq, Addr.mk.injEq] at e0
            obtain ⟨⟨rfl, rfl, -⟩, -, rfl⟩ := e0
            have hk6 := HH.out.2.1.step hO6.step
            have t1 := fun m => run_string_bs bt (d := 9) Tryz.underlying9 (w6.drewN m) (bk6.1.kept fun _ _ hu => hu)
            have t2 := fun m => run_string_bs bt (d := 9) Tryz.underlying9 (w6.drewN m) (hk6.1.kept fun _ _ hu => hu)
            have H6 := Lib.hid (And.intro hO6 (And.intro bk6 bv6))
            clear hun hO6 bk6 bv6 hk6
            have hol6 : (out ++ [(key, val)]).length ≤ 1000000 := by
              rw [List.length_append, List.length_singleton]
              have h1 := HB.out.2.1.len
              have h2 := HH.out.2.2.2.1
              omega
            have HL := Lib.hid hol6
            clear hol6
            go_wp2_with (at_builtin; refine list_append_run rfl (.tmp 29) (.tmp 33) _ rfl rfl rfl hrun ?_)
            clear hrun
            go_quiet (fail)
            clear t1 t2
            obtain ⟨ya, yc, yn, w8, Sz, hyn, hrun, hO8⟩ := (H6.out.1.drewN nq).push (H6.out.2.1.step (Step.drewN (Step.refl Sy w6) nq)) (H6.out.2.2.step (Step.drewN (Step.refl Sy w6) nq)) HL.out
            have H8 := Lib.hid hO8
            clear hyn hO8
            go_wp2_with (at_builtin; refine list_append_run rfl (.tmp 44) (.tmp 49) _ rfl rfl rfl hrun ?_)
            clear hrun
            go_roundw
            case rel => exact ⟨r + 1, Sz, true, _, by omega, by go_num, rfl, H8.out, HB.out.2.1.ahead HB.out.2.2.2.2.2.1 (by have := HB.out.2.2.2.2.2.2; omega) HE.out⟩
            case measure => simp [intOf]; omega
      · obtain ⟨hne, hPn⟩ := hP.beyond hr hp
        have hbe : (p.1 == key) = false := by rw [beq_eq_false_iff_ne]; exact hne
        have hbn : (p.1 != key) = true := by simp [hne]
        have HB := Lib.hid (And.intro hO (And.intro hPn (And.intro bk (And.intro bv (show out.length ≤ 1000000 by omega)))))
        have HT := Lib.hid (And.intro bk.1 (hk.step hO.step).1)
        clear hO hk hv hnn hS hr hp bk bv hol hP hne hPn t1 t2
        go_wp2
        go_quiet (fail)
        have t1 := fun m => run_string_bs bt (d := 9) Tryz.underlying9 ((wr.drewN nq).drewN m) (HT.out.1.kept fun _ _ hu => hu)
        have t2 := fun m => run_string_bs bt (d := 9) Tryz.underlying9 ((wr.drewN nq).drewN m) (HT.out.2.kept fun _ _ hu => hu)
        obtain ⟨wq, hwq⟩ : ∃ wq, wq = wr.drewN nq := ⟨_, rfl⟩
        have q0 : wq.cell? ⟨g, o + r * 2, none⟩ = some (.slice pa p.1.length pc) := by rw [hwq]; exact k0
        have q1 : wq.cell? ⟨g, o + r * 2 + 1, none⟩ = some (.slice va p.2.length vc) := by rw [hwq]; exact k1
        have hOq := HB.out.1.drewN nq
        have bkq := HB.out.2.2.1.step (Step.drewN (Step.refl Sx wr) nq)
        have bvq := HB.out.2.2.2.1.step (Step.drewN (Step.refl Sx wr) nq)
        rw [← hwq] at t1 t2 hOq bkq bvq ⊢
        have HQ := Lib.hid (And.intro hOq (And.intro bkq bvq))
        clear hwq k0 k1 hOq bkq bvq
        go_wp2
        go_quiet (fail)
        clear t1 t2
        obtain ⟨ua, uc, un, w6, Sy, hun, hrun, hO6⟩ := (HQ.out.1.drewN nq).push (HQ.out.2.1.step (Step.drewN (Step.refl Sx wq) nq)) (HQ.out.2.2.step (Step.drewN (Step.refl Sx wq) nq)) HB.out.2.2.2.2
        have H6 := Lib.hid (And.intro hO6 HB.out.2.1)
        clear hun hO6
        go_wp2_with (at_builtin; refine list_append_run rfl (.tmp 44) (.tmp 49) _ rfl rfl rfl hrun ?_)
        clear hrun
        go_roundw
        case rel => exact ⟨r + 1, Sy, true, _, by omega, by go_num, rfl, H6.out.1, H6.out.2⟩
        case measure => simp [intOf]; omega
    · obtain rfl : r = n := by omega
      have hil : ¬ (r : Int) < (r : Int) := by omega
      rw [hnn] at hP
      have hL := hP.last
      rcases d with _ | _
      · obtain ⟨ua, uc, un, w6, Sy, hun, hrun, hO6⟩ := hO.push (p := (key, val)) (hk.step hO.step) (hv.step hO.step) (by omega)
        rw [hL.2 rfl] at hO6
        have HB := Lib.hid (And.intro hO6 hS)
        clear hO hk hv hnn hS hr hP hL hun hO6 hol
        go_wp2_with (at_builtin; refine list_append_run rfl (.tmp 53) (.tmp 57) _ rfl rfl rfl hrun ?_)
        go_ret
        exact ⟨_, rfl, HB.out.1.done HB.out.2, HB.out.1.bel⟩
      · have HB := Lib.hid (And.intro hO (And.intro hS (hL.1 rfl)))
        clear hO hk hv hnn hS hr hP hL hol
        go_wp2
        go_ret
        refine ⟨_, rfl, ?_, HB.out.1.bel⟩
        rw [← HB.out.2.2]
        exact HB.out.1.done HB.out.2.1
end
end Go.Proofs.YtgekeemhbnhelaaGreat
