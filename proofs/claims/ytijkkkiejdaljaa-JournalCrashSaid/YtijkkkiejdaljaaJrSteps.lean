/- Each step of the statements of layer 5 that go through a case: what stands behind it; conditions: the sizes that each contract names. -/
import Derived.Test.YtijkkkiejdaljaaJrBegin
namespace Go.Proofs.Ytijkkkiejdaljaa
open Go.RowKit Go.Maps

/-- A block of the walk's own, away from both. -/
def Off (w0 : World) (F G : Nat → Prop) (rb jb q : Nat) : Prop := w0.heap.size ≤ q ∧ ¬ F q ∧ ¬ G q ∧ q ≠ rb ∧ q ≠ jb

/-- Appended on the one side, not yet on the other; the blocks of P are the walk's own. -/
def Mid (k : Prop) (w0 w : World) (b jb rb f z n s : Nat) (l : Bytes) (P : Nat → Prop) (c : Int) : Prop :=
  ∃ J D F G L L', Both w0 w b jb rb f z n s J D F G L' L ∧ (k → D.left < 0) ∧ ((c = 7 ∧ L' = L ∧ z < takenBy L + nBlocks l.length) ∨ (c = 0 ∧ L' = L ++ [l])) ∧ (∀ q, P q → Off w0 F G rb jb q)

/-- The power went. -/
def Gone (w0 w : World) (b jb rb f z n s : Nat) (l : Bytes) (P : Nat → Prop) : Prop :=
  ∃ J D F G L, LM w0 w b jb rb J D F G L J.size J.at_ J.seq ∧ J.dead = true ∧ Lost J D L l n ∧ (∀ x ∈ L, x.length ≤ 1000000) ∧ l.length ≤ 4000 ∧ takenBy L ≤ z ∧ J.fr = f ∧ J.size = z ∧ J.seq + L.length + 1 ≤ s ∧ 1 ≤ J.seq ∧ ∀ q, P q → ¬ F q ∧ q < w.heap.size

theorem iv_later {w w' : World} {v : Value} {l : List Int} (h : Iv w v l) (hb : Below w.heap.size w w') : Iv w' v l := h.kept fun q _ _ hq => hb.block q hq
theorem iv_old {w : World} {v : Value} {l : List Int} (h : Iv w v l) (hne : l ≠ []) : ∀ q, v.ownBlock = some q → q < w.heap.size := fun q hq => by
  obtain ⟨u, r, rfl⟩ := List.exists_cons_of_ne_nil hne
  obtain ⟨g, o, cap, rfl, hc⟩ := h.open (i := 0) rfl
  cases hq
  exact World.block_lt_of_cell? w _ hc.1
theorem ow_kept {w w' : World} {base : Nat} {e : TypeId} {v : Value} {l : Bytes} (h : Ow w base e v l) (hk : ∀ q, v.ownBlock = some q → w'.heap[q]? = w.heap[q]?) : Ow w' base e v l := by
  refine ⟨h.1, ?_⟩
  rcases h.2 with h' | ⟨g, cap, cur, e1, e2, e3, r⟩
  · exact .inl h'
  · exact .inr ⟨g, cap, cur, e1, e2, (hk g (by rw [e1]; rfl)).trans e3, r⟩
theorem xor_nine (x : UInt8) : Value.int .u8 (bits .xor .u8 (x.toNat : Int) 9) = bv (UInt8.ofNat (x.toNat ^^^ 9)) := by
  have h2 : x.toNat ^^^ 9 < 256 := Nat.xor_lt_two_pow (n := 8) x.toNat_lt (by decide)
  have := u8_xor_nat x.toNat 9 x.toNat_lt (by decide)
  rw [show ((9 : Nat) : Int) = 9 from rfl] at this
  rw [this]
  unfold bv
  rw [UInt8.toNat_ofNat', Nat.mod_eq_of_lt h2]

section
variable {k : Prop} {w0 w w' : World} {b jb rb f z n s : Nat} {J : Jn} {D : Dv} {F G P : Nat → Prop} {L M : List Bytes} {l : Bytes} {c : Int}

theorem Both.later (h : Both w0 w b jb rb f z n s J D F G L M) (hb : Below w.heap.size w w') : Both w0 w' b jb rb f z n s J D F G L M := ⟨h.lm.later hb, h.ps, h.efr, h.esz, h.sq, h.one⟩
theorem Both.more {n' s' : Nat} (h : Both w0 w b jb rb f z n s J D F G L M) (hn : n ≤ n') (hs : s ≤ s') : Both w0 w b jb rb f z n' s' J D F G L M := ⟨h.lm, h.ps.more hn, h.efr, h.esz, Nat.le_trans h.sq hs, h.one⟩
theorem Both.four (h : Both w0 w b jb rb f z n s J D F G L M) : z ≤ 4096 := h.esz ▸ h.ps.fit.few
theorem Both.room (h : Both w0 w b jb rb f z n s J D F G L M) : takenBy L ≤ z := h.esz ▸ h.ps.holds.room
theorem St.more {n' s' : Nat} (h : St k w0 w b jb rb f z n s) (hn : n ≤ n') (hs : s ≤ s') : St k w0 w b jb rb f z n' s' := let ⟨J, D, F, G, L, h, hk⟩ := h; ⟨J, D, F, G, L, h.more hn hs, hk⟩
theorem St.later (h : St k w0 w b jb rb f z n s) (hb : Below w.heap.size w w') : St k w0 w' b jb rb f z n s := let ⟨J, D, F, G, L, h, hk⟩ := h; ⟨J, D, F, G, L, h.later hb, hk⟩
theorem St.under (h : St k w0 w b jb rb f z n s) : Below w0.heap.size w0 w := let ⟨_, _, _, _, _, h, _⟩ := h; h.lm.jm.under

/-- A block of the walk's own is written. -/
theorem Mid.own (h : Mid k w0 w b jb rb f z n s l P c) (ho : Only P w w') : Mid k w0 w' b jb rb f z n s l P c := by
  obtain ⟨J, D, F, G, L, L', h, hk, hc, hP⟩ := h
  exact ⟨J, D, F, G, L, L', ⟨h.lm.own ho fun q hq => ⟨(hP q hq).1, (hP q hq).2.1, (hP q hq).2.2.1, (hP q hq).2.2.2.1, (hP q hq).2.2.2.2⟩, h.ps, h.efr, h.esz, h.sq, h.one⟩, hk, hc, hP⟩
theorem Mid.under (h : Mid k w0 w b jb rb f z n s l P c) : Below w0.heap.size w0 w := let ⟨_, _, _, _, _, _, h, _⟩ := h; h.lm.jm.under

/-- What an Append answers, and what stands behind it; what was laid since w0 and is the walk's own stays (P). -/
theorem st_append {wa : World} (ha : St k w0 wa b jb rb f z n s) (hba : Below wa.heap.size wa w) {v : Value} (hv : Bs w v l) (hPa : ∀ q, P q → wa.heap.size ≤ q ∧ q < w.heap.size) (hvP : ∀ q, v.ownBlock = some q → P q) (hl : l.length ≤ 4000) (hn : n ≤ 1000000) (hs : s ≤ 4611686018427387904) :
    Calls Try.prog 11 #[ptr jb, v] w fun e w' => ∃ c, e = .returned (err c) ∧ Below w0.heap.size w0 w' ∧ (∀ q, P q → w'.heap[q]? = w.heap[q]?) ∧
      (Mid k w0 w' b jb rb f z (n + 20) (s + 1) l P c ∧ (c = 0 ∨ c = 7) ∨ c = 8 ∧ ¬ k ∧ Gone w0 w' b jb rb f z (n + 20) (s + 1) l P) := by
  obtain ⟨J, D, F, G, L, ha, hk⟩ := ha
  have hp : ∀ q, P q → Off w0 F G rb jb q ∧ q < w.heap.size := fun q hq => by
    have h1 := hPa q hq
    have h2 := ha.lm.jm.under.size
    have h3 := ha.lm.rat.lt
    have h4 := ha.lm.jm.head.lt
    exact ⟨⟨by omega, fun hf => by have := ha.lm.jm.dev.fl q hf; omega, fun hg => by have := ha.lm.rat.Gl q hg; omega, by omega, by omega⟩, h1.2⟩
  have h := ha.later hba
  have hsq := h.sq
  have hone := h.one
  have he := h.esz
  have hroom := h.room
  refine (lm_append h.lm h.ps hv (fun q hq => (hp q (hvP q hq)).1.2.1) hl hn (by have := h.ps.held; omega)).mono ?_
  rintro e w' ⟨c, rfl, ha⟩
  refine ⟨c, rfl, ?_⟩
  cases ha with
  | full h1 hm hb =>
    exact ⟨hm.jm.under, fun q hq => hb.block q (hp q hq).2, .inl ⟨⟨J, D, F, G, L, L, ⟨hm, h.ps.more (by omega), h.efr, he, by omega, hone⟩, hk, .inl ⟨rfl, rfl, by omega⟩, fun q hq => (hp q hq).1⟩, .inr rfl⟩⟩
  | ok J' D' h1 hm hps hsame hfree ho =>
    obtain ⟨e1, e2, e3, e4⟩ := hsame
    refine ⟨hm.jm.under, fun q hq => ho.block q (hp q hq).2 fun e => e.elim (hp q hq).1.2.1 (hp q hq).1.2.2.2.2, .inl ⟨⟨J', D', _, G, L, L ++ [l], ⟨by rw [e2, e3, e4]; exact hm, hps, by rw [e1]; exact h.efr, by rw [e2]; exact he, ?_, by rw [e4]; exact hone⟩, fun hk' => hfree (hk hk'), .inr ⟨rfl, rfl⟩, fun q hq => ?_⟩, .inl rfl⟩⟩
    · rw [e4, List.length_append, List.length_singleton]; omega
    · obtain ⟨⟨p1, p2, p3, p4, p5⟩, p6⟩ := hp q hq
      exact ⟨p1, fun e => e.elim p2 fun e => by omega, p3, p4, p5⟩
  | lost D' h1 hf hm hlost ho =>
    exact ⟨hm.jm.under, fun q hq => ho.block q (hp q hq).2 fun e => e.elim (hp q hq).1.2.1 (hp q hq).1.2.2.2.2, .inr ⟨rfl, fun hk' => hf (hk hk'), J.dies, D', _, G, L, hm, rfl, ⟨hlost.off, hlost.upto, hlost.len, hlost.keeps⟩, h.ps.short, hl, hroom, h.efr, he, by show J.seq + _ + 1 ≤ _; omega, hone, fun q hq => ⟨fun e => e.elim (hp q hq).1.2.1 fun e => by have := (hp q hq).2; omega, Nat.lt_of_lt_of_le (hp q hq).2 ho.size⟩⟩⟩

theorem taken_len : ∀ L : List Bytes, L.length ≤ takenBy L
  | [] => Nat.zero_le _
  | x :: r => by
    have ih := taken_len r
    have e : takenBy (x :: r) = nBlocks x.length + takenBy r := by simp [takenBy]
    have : nBlocks x.length = nPieces x.length + 1 := rfl
    rw [e, List.length_cons]
    omega
theorem takenBy_snoc (L : List Bytes) (l : Bytes) : takenBy (L ++ [l]) = takenBy L + nBlocks l.length := by rw [takenBy_append, takenBy_one]

/-- .. and then on the other side. -/
theorem mid_refappend (h : Mid k w0 w b jb rb f z n s l P c) {v : Value} (hv : Bs w v l) (hl : l.length ≤ 4000) :
    Calls Try.prog 12 #[ptr rb, v] w fun e w' => e = .returned (err c) ∧ St k w0 w' b jb rb f z n s := by
  obtain ⟨J, D, F, G, L, L', h, hk, hc, _⟩ := h
  have he := h.esz
  have hshort : ∀ x ∈ L, x.length ≤ 1000000 := fun x hx => by
    rcases hc with ⟨_, rfl, _⟩ | ⟨_, rfl⟩
    · exact h.ps.short x hx
    · exact h.ps.short x (List.mem_append_left _ hx)
  have hroom : takenBy L ≤ z := by
    have := h.room
    rcases hc with ⟨_, rfl, _⟩ | ⟨_, rfl⟩
    · exact this
    · rw [takenBy_snoc] at this; omega
  refine (lm_refappend h.lm hshort (by rw [he]; exact hroom) (by rw [he]; exact h.four) hv (by omega)).mono ?_
  rintro e w' (⟨h1, rfl, hm, _⟩ | ⟨h1, rfl, G', hm, _⟩)
  · rcases hc with ⟨rfl, rfl, _⟩ | ⟨_, rfl⟩
    · exact ⟨rfl, J, D, F, G, L', ⟨hm, h.ps, h.efr, he, h.sq, h.one⟩, hk⟩
    · have := h.room
      rw [takenBy_snoc] at this
      omega
  · rcases hc with ⟨_, rfl, h7⟩ | ⟨rfl, rfl⟩
    · omega
    · exact ⟨rfl, J, D, F, G', _, ⟨hm, h.ps, h.efr, he, h.sq, h.one⟩, hk⟩

/-- Forgotten on both sides. -/
def MidF (k : Prop) (w0 w : World) (b jb rb f z n s : Nat) : Prop :=
  ∃ J D F G L fi sq, LM w0 w b jb rb J D F G L z fi sq ∧ PS J D [] n ∧ J.fr = f ∧ J.size = z ∧ (k → D.left < 0) ∧ (∀ x ∈ L, x.length ≤ 1000000) ∧ takenBy L ≤ z ∧ fi < z ∧ J.at_ = ringAt fi z (takenBy L) ∧ J.seq = sq + L.length ∧ sq + L.length ≤ s ∧ 1 ≤ sq ∧ s < 18446744073709551616
theorem st_forget (h : St k w0 w b jb rb f z n s) (hs : s ≤ 4611686018427387904) :
    Calls Try.prog 13 #[ptr jb] w fun e w' => e = .returned (err 0) ∧ MidF k w0 w' b jb rb f z n s := by
  obtain ⟨J, D, F, G, L, h, hk⟩ := h
  refine (lm_forget h.lm h.ps).mono ?_
  rintro e w' ⟨rfl, hm, hp⟩
  have hm' := hm
  rw [h.esz] at hm'
  refine ⟨rfl, _, D, F, G, L, _, _, hm', hp, h.efr, h.esz, hk, h.ps.short, h.room, by rw [← h.esz]; exact h.ps.holds.atl, ?_, ?_, h.sq, h.one, by omega⟩
  · show ringAt _ _ _ = _
    rw [h.ps.ahead, h.esz]
  · show J.seq + J.held = _
    rw [h.ps.held]
theorem mid_refforget (h : MidF k w0 w b jb rb f z n s) :
    Calls Try.prog 14 #[ptr rb] w fun e w' => e = .returned (.tuple #[]) ∧ St k w0 w' b jb rb f z n s := by
  obtain ⟨J, D, F, G, L, fi, sq, hm, hp, e1, e2, hk, hsh, hr, hfi, h3, h4, hs, h1, hs2⟩ := h
  refine (lm_refforget hm hsh hr (by rw [← e2]; exact hp.fit.few) (by rw [← e2]; exact hp.holds.two) hfi (by omega)).mono ?_
  rintro e w' ⟨rfl, hm'⟩
  exact ⟨rfl, J, D, F, G, [], ⟨by rw [e2, h3, h4]; exact hm', hp, e1, e2, by rw [h4]; exact hs, by omega⟩, hk⟩

/-- Turned off: nothing is loose. -/
def OffSt (w0 w : World) (b jb rb f z n s : Nat) : Prop :=
  ∃ J D F G L, LM w0 w b jb rb J D F G L J.size J.at_ J.seq ∧ D.on = false ∧ Upto D n ∧ (∃ left, PS J ⟨D.bk, true, left⟩ L n) ∧ J.fr = f ∧ J.size = z ∧ J.seq + L.length ≤ s ∧ 1 ≤ J.seq
theorem st_off {wa : World} (ha : St k w0 wa b jb rb f z n s) (hba : Below wa.heap.size wa w) : Calls Try.prog 15 #[ptr b] w fun e w' => e = .returned (err 0) ∧ OffSt w0 w' b jb rb f z (n + 1) s ∧ ∀ q, wa.heap.size ≤ q → q < w.heap.size → w'.heap[q]? = w.heap[q]? := by
  obtain ⟨J, D, F, G, L, ha, hk⟩ := ha
  have h := ha.later hba
  refine (doff_any h.lm.jm.dev).mono ?_
  rintro e w' ⟨rfl, hd, ho⟩
  have hon := h.ps.on
  have hu := (odev_upto h.ps.upto).1
  have hm := h.lm.dstep hd ho
  have hc : ocode D = 0 := by unfold ocode; rw [if_neg (by simp [hon])]
  have hD : odev D = ⟨D.bk, false, D.left⟩ := by unfold odev; rw [if_neg (by simp [hon])]
  rw [hc]
  rw [hD] at hm hu
  refine ⟨rfl, ⟨J, _, _, G, L, hm, rfl, hu, ⟨D.left, ?_⟩, h.efr, h.esz, h.sq, h.one⟩, fun q h1 h2 => ho.block q h2 fun hF => by have := ha.lm.jm.dev.fl q hF; omega⟩
  have hps := h.ps
  obtain ⟨bk, on, left⟩ := D
  simp only at hon
  subst hon
  exact hps.more (by omega)
theorem offst_on (h : OffSt w0 w b jb rb f z n s) {v : Value} {ps : List Int} (hv0 : Iv w0 v ps) (hn : n ≤ 1000000) :
    Calls Try.prog 16 #[ptr b, v] w fun e w' => e = .returned (err 0) ∧ St k w0 w' b jb rb f z (n + 1) s := by
  obtain ⟨J, D, F, G, L, hm, hoff, hu, ⟨left, hp⟩, e1, e2, h3, h4⟩ := h
  refine (don_any hm.jm.dev (hu.small (by omega)) (iv_later hv0 hm.jm.under) fun hne q hq hF => by have := iv_old hv0 hne q hq; have := hm.jm.fo q hF; omega).mono ?_
  rintro e w' ⟨rfl, hd, ho⟩
  have hm' := hm.dstep hd ho
  have hc : ncode D = 0 := by unfold ncode; rw [if_pos hoff]
  have hD : ndev D ps = ⟨D.bk, true, -1⟩ := by unfold ndev; rw [if_pos hoff, comes_clean hp.clean]
  rw [hc]
  rw [hD] at hm'
  refine ⟨rfl, J, _, _, G, L, ⟨hm', ?_, e1, e2, h3, h4⟩, fun _ => by show (-1 : Int) < 0; decide⟩
  exact {
    fit := hp.fit
    upto := hp.upto.more (by omega)
    on := rfl
    live := hp.live
    clean := hp.clean
    holds := hp.holds
    spot := hp.spot
    held := hp.held
    short := hp.short }

theorem st_arm (h : St k w0 w b jb rb f z n s) (hk : ¬ k) (m : Int) (hm : m ≤ 9223372036854775807) : Calls Try.prog 20 #[ptr b, .int .i64 m] w fun e w' => e = .returned (err 0) ∧ St k w0 w' b jb rb f z (n + 1) s := by
  obtain ⟨J, D, F, G, L, h, _⟩ := h
  refine (darm_any h.lm.jm.dev m hm).mono ?_
  rintro e w' ⟨rfl, hd, ho⟩
  have hon := h.ps.on
  have hu := (adev_upto h.ps.upto m).1
  have hml := h.lm.dstep hd ho
  have hc : acode D = 0 := by unfold acode; rw [if_neg (by simp [hon])]
  have hD : adev D m = ⟨D.bk, D.on, max m (-1)⟩ := by unfold adev; rw [if_neg (by simp [hon])]
  rw [hc]
  rw [hD] at hml hu
  refine ⟨rfl, J, _, _, G, L, ⟨hml, ?_, h.efr, h.esz, h.sq, h.one⟩, fun hk' => absurd hk' hk⟩
  have hp := h.ps
  exact {
    fit := hp.fit
    upto := hu
    on := hon
    live := hp.live
    clean := hp.clean
    holds := hp.holds
    spot := hp.spot
    held := hp.held
    short := hp.short }

theorem st_alike (h : St k w0 w b jb rb f z n s) : Calls Try.prog 19 #[ptr jb, ptr rb] w fun e w' => e = .returned (.bool true) ∧ St k w0 w' b jb rb f z n s := by
  obtain ⟨J, D, F, G, L, h, hk⟩ := h
  refine (alike_any h.lm h.ps).mono ?_
  rintro e w' ⟨rfl, hm, _⟩
  exact ⟨rfl, J, D, F, G, L, ⟨hm, h.ps, h.efr, h.esz, h.sq, h.one⟩, hk⟩

/-! ### after the power went -/
theorem gone_append (h : Gone w0 w b jb rb f z n s l P) (v : Value) : Calls Try.prog 11 #[ptr jb, v] w fun e w' => e = .returned (.int .i64 3) ∧ w = w' := by
  obtain ⟨J, D, F, G, L, hm, hd, _⟩ := h
  exact append_dead hm.jm.head hd v
theorem gone_forget (h : Gone w0 w b jb rb f z n s l P) : Calls Try.prog 13 #[ptr jb] w fun e w' => e = .returned (.int .i64 3) ∧ w = w' := by
  obtain ⟨J, D, F, G, L, hm, hd, _⟩ := h
  exact forget_dead hm.jm.head hd

/-- The power is back: what was held is there, and perhaps what was under way. -/
def Back (w0 w : World) (b jb rb f z n s : Nat) (l : Bytes) : Prop :=
  ∃ J D F G L L', LM w0 w b jb rb J D F G L J.size J.at_ J.seq ∧ D.on = true ∧ Clean D.bk ∧ Upto D n ∧ Holds J.fr J.size J.at_ J.seq D.bk L' ∧ (L' = L ∨ L' = L ++ [l]) ∧ (∀ x ∈ L', x.length ≤ 1000000) ∧ J.fr = f ∧ J.size = z ∧ J.seq + L'.length ≤ s ∧ 1 ≤ J.seq
theorem gone_on (h : Gone w0 w b jb rb f z n s l P) {v : Value} {ps : List Int} (hv0 : Iv w0 v ps) (hn : n ≤ 1000000) :
    Calls Try.prog 16 #[ptr b, v] w fun e w' => e = .returned (err 0) ∧ Back w0 w' b jb rb f z (n + 1) s l ∧ ∀ q, P q → w'.heap[q]? = w.heap[q]? := by
  obtain ⟨J, D, F, G, L, hm, hd, hlost, hsh, hl, hr, e1, e2, hs, h1, hP⟩ := h
  refine (don_any hm.jm.dev (hlost.upto.small (by omega)) (iv_later hv0 hm.jm.under) fun hne q hq hF => by have := iv_old hv0 hne q hq; have := hm.jm.fo q hF; omega).mono ?_
  rintro e w' ⟨rfl, hd', ho⟩
  have hm' := hm.dstep hd' ho
  have hu := (ndev_upto hlost.upto ps).1
  have hc : ncode D = 0 := by unfold ncode; rw [if_pos hlost.off]
  have hD : ndev D ps = ⟨comes D.bk ps, true, -1⟩ := by unfold ndev; rw [if_pos hlost.off]
  rw [hc]
  rw [hD] at hm' hu
  rcases hlost.keeps ps with hh | hh
  · exact ⟨rfl, ⟨J, _, _, G, L, L, hm', rfl, clean_comes _ _, hu, hh, .inl rfl, hsh, e1, e2, by omega, h1⟩, fun q hq => ho.block q (hP q hq).2 (hP q hq).1⟩
  · refine ⟨rfl, ⟨J, _, _, G, L, L ++ [l], hm', rfl, clean_comes _ _, hu, hh, .inr rfl, fun x hx => ?_, e1, e2, by rw [List.length_append, List.length_singleton]; omega, h1⟩, fun q hq => ho.block q (hP q hq).2 (hP q hq).1⟩
    rcases List.mem_append.1 hx with hx | hx
    · exact hsh x hx
    · rw [List.mem_singleton.1 hx]; omega

/-- Opened once more: the journal holds L', which lv tells; the document's one holds L. -/
def Twin (k : Prop) (w0 w : World) (b jb rb f z n s : Nat) (l : Bytes) (L L' : List Bytes) (lv : Value) : Prop :=
  ∃ J D F G H, Both w0 w b jb rb f z n s J D F G L' L ∧ (k → D.left < 0) ∧ (L' = L ∨ L' = L ++ [l]) ∧ RowG w H lv L' ∧ (L' = L ∨ ∀ q, H q → ¬ G q ∧ q ≠ rb)
theorem back_again (h : Back w0 w b jb rb f z n s l) (hk : ¬ k) (x : Case) (hx : x.from_.toNat % 5 = f) (hs : s ≤ 4611686018427387904) :
    Calls Try.prog 17 #[ptr b, caseV x, ptr rb] w fun e w' => ∃ jb2 lv L L', e = .returned (.tuple #[ptr jb2, lv, err 0]) ∧ Twin k w0 w' b jb2 rb f z n s l L L' lv ∧ Below w.heap.size w w' := by
  obtain ⟨J, D, F, G, L, L', hm, hon, hc, hu, hh, hL, hsh, e1, e2, h3, h1⟩ := h
  subst hx
  rw [e1] at hh
  refine (again_any x hm hon hc hu hh ⟨h1, by omega⟩ hsh).mono ?_
  rintro e w' ⟨jb2, lv, H, J2, rfl, hrow, hH, hm2, hp2, g1, g2, g3, g4, hb⟩
  have hm3 := hm2
  rw [← g2, ← g3, ← g4] at hm3
  exact ⟨jb2, lv, L, L', rfl, ⟨J2, D, F, G, H, ⟨hm3, hp2, g1, by rw [g2]; exact e2, by rw [g4]; exact h3, by rw [g4]; exact h1⟩, fun hk' => absurd hk' hk, hL, hrow, .inr fun q hq => ⟨fun hg => by have := hm.rat.Gl q hg; have := hH q hq; omega, fun e => by have := hm.rat.lt; have := hH q hq; omega⟩⟩, hb⟩
theorem Back.under (h : Back w0 w b jb rb f z n s l) : Below w0.heap.size w0 w := let ⟨_, _, _, _, _, _, h, _⟩ := h; h.jm.under
theorem Twin.later {lv : Value} {L' : List Bytes} (h : Twin k w0 w b jb rb f z n s l L L' lv) (hb : Below w.heap.size w w') : Twin k w0 w' b jb rb f z n s l L L' lv :=
  let ⟨J, D, F, G, H, h, hk, hL, hr, hH⟩ := h; ⟨J, D, F, G, H, h.later hb, hk, hL, hr.below hb, hH⟩
theorem Twin.or {lv : Value} {L' : List Bytes} (h : Twin k w0 w b jb rb f z n s l L L' lv) : L' = L ∨ L' = L ++ [l] := let ⟨_, _, _, _, _, _, _, hL, _⟩ := h; hL
/-- .. and once more, which changes nothing. -/
theorem twin_again {lv : Value} {L' : List Bytes} (h : Twin k w0 w b jb rb f z n s l L L' lv) (x : Case) (hx : x.from_.toNat % 5 = f) (hs : s ≤ 4611686018427387904) :
    Calls Try.prog 17 #[ptr b, caseV x, ptr rb] w fun e w' => ∃ jb2 lv2 H2, e = .returned (.tuple #[ptr jb2, lv2, err 0]) ∧ RowG w' H2 lv2 L' ∧ Twin k w0 w' b jb rb f z n s l L L' lv ∧ Below w.heap.size w w' := by
  obtain ⟨J, D, F, G, H, h, hk, hL, hrow, hH⟩ := h
  have hh := h.ps.holds
  subst hx
  rw [h.efr] at hh
  refine (again_any x h.lm h.ps.on h.ps.clean h.ps.upto hh ⟨h.one, by have := h.sq; omega⟩ h.ps.short).mono ?_
  rintro e w' ⟨jb2, lv2, H2, J2, rfl, hrow2, _, _, _, _, _, _, _, hb⟩
  exact ⟨jb2, lv2, H2, rfl, hrow2, ⟨J, D, F, G, H, h.later hb, hk, hL, hrow.below hb, hH⟩, hb⟩
/-- .. where both agreed: the new one takes the old one's place. -/
theorem st_again (h : St k w0 w b jb rb f z n s) (x : Case) (hx : x.from_.toNat % 5 = f) (hs : s ≤ 4611686018427387904) :
    Calls Try.prog 17 #[ptr b, caseV x, ptr rb] w fun e w' => ∃ jb2 lv L, e = .returned (.tuple #[ptr jb2, lv, err 0]) ∧ Twin k w0 w' b jb2 rb f z n s [] L L lv := by
  obtain ⟨J, D, F, G, L, h, hk⟩ := h
  have hh := h.ps.holds
  subst hx
  rw [h.efr] at hh
  refine (again_any x h.lm h.ps.on h.ps.clean h.ps.upto hh ⟨h.one, by have := h.sq; omega⟩ h.ps.short).mono ?_
  rintro e w' ⟨jb2, lv, H, J2, rfl, hrow, hH, hm2, hp2, g1, g2, g3, g4, hb⟩
  have hm3 := hm2
  rw [← g2, ← g3, ← g4] at hm3
  exact ⟨jb2, lv, L, rfl, J2, D, F, G, H, ⟨hm3, hp2, g1, by rw [g2]; exact h.esz, by rw [g4]; exact h.sq, by rw [g4]; exact h.one⟩, hk, .inl rfl, hrow, .inr fun q hq => ⟨fun hg => by have := h.lm.rat.Gl q hg; have := hH q hq; omega, fun e => by have := h.lm.rat.lt; have := hH q hq; omega⟩⟩
theorem Twin.st {lv : Value} (h : Twin k w0 w b jb rb f z n s l L L lv) : St k w0 w b jb rb f z n s := let ⟨J, D, F, G, _, h, hk, _⟩ := h; ⟨J, D, F, G, L, h, hk⟩
theorem Twin.under {lv : Value} {L' : List Bytes} (h : Twin k w0 w b jb rb f z n s l L L' lv) : Below w0.heap.size w0 w := let ⟨_, _, _, _, _, h, _⟩ := h; h.lm.jm.under
theorem Twin.few {lv : Value} {L' : List Bytes} (h : Twin k w0 w b jb rb f z n s l L L' lv) : L'.length ≤ 4096 := by
  obtain ⟨_, _, _, _, _, h, _⟩ := h
  have h1 := h.room
  have h2 := h.four
  have h3 := taken_len L'
  omega
/-- The document's journal's own list lies here. -/
theorem Twin.list {lv : Value} {L' : List Bytes} (h : Twin k w0 w b jb rb f z n s l L L' lv) : ∃ rv G, w.cell? ⟨rb, 0, none⟩ = some rv ∧ RowG w G rv L := by
  obtain ⟨_, _, _, G, _, h, _⟩ := h
  obtain ⟨rv, hc, hr⟩ := h.lm.rat.ex
  exact ⟨rv, G, by rw [hc.cell]; rfl, hr⟩
theorem Twin.row {lv : Value} {L' : List Bytes} (h : Twin k w0 w b jb rb f z n s l L L' lv) : ∃ H, RowG w H lv L' := let ⟨_, _, _, _, H, _, _, _, hr, _⟩ := h; ⟨H, hr⟩
/-- What was under way had come through: the document's journal is appended to as well. -/
theorem twin_refappend {lv : Value} (h : Twin k w0 w b jb rb f z n s l L (L ++ [l]) lv) {v : Value} (hv : Bs w v l) (hl : l.length ≤ 4000) :
    Calls Try.prog 12 #[ptr rb, v] w fun e w' => e = .returned (err 0) ∧ Twin k w0 w' b jb rb f z n s l (L ++ [l]) (L ++ [l]) lv := by
  obtain ⟨J, D, F, G, H, h, hk, _, hrow, hH⟩ := h
  have he := h.esz
  have hroom := h.room
  rw [takenBy_snoc] at hroom
  refine (lm_refappend h.lm (fun x hx => h.ps.short x (List.mem_append_left _ hx)) (by rw [he]; omega) (by rw [he]; exact h.four) hv (by omega)).mono ?_
  rintro e w' (⟨h1, rfl, hm, _⟩ | ⟨h1, rfl, G', hm, ho⟩)
  · omega
  · refine ⟨rfl, J, D, F, G', H, ⟨hm, h.ps, h.efr, he, h.sq, h.one⟩, hk, .inl rfl, hrow.only ho fun q hq e => ?_, .inl rfl⟩
    rcases hH with hH | hH
    · have := congrArg List.length hH
      rw [List.length_append, List.length_singleton] at this
      omega
    · exact e.elim (hH q hq).1 (hH q hq).2
end
end Go.Proofs.Ytijkkkiejdaljaa
