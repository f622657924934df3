/- What a Write of a device turns: a new block, appended to the row of its number's loose things, which is put back into the map; condition: fewer than 2^32 things are loose there. -/
import Derived.Test.YtcpapdpnnlnemaaDevRead
import Derived.Maps.Range
namespace Go.Proofs.Ytcpapdpnnlnemaa
open Go.RowKit Go.Maps

theorem nodup_lt : ∀ (n : Nat) (l : List Nat), l.Nodup → (∀ x ∈ l, x < n) → l.length ≤ n
  | 0, l, _, h => by
    cases l with
    | nil => exact Nat.le_refl _
    | cons x r => exact absurd (h x (by simp)) (Nat.not_lt_zero _)
  | n + 1, l, hd, h => by
    have h1 := nodup_lt n (l.erase n) (hd.erase n) (fun x hx => by
      have h2 := (hd.mem_erase_iff).1 hx
      have := h x h2.2
      have := h2.1
      omega)
    have h3 : l.length ≤ (l.erase n).length + 1 := by
      rw [List.length_erase]
      split <;> omega
    omega

/-- A map whose keys are numbers below n has at most n entries. -/
theorem size_le {D : DataW Value} {n : Nat} (ht : Tidy D) (h : ∀ kl, Maps.has D kl = true → ∃ k, k < n ∧ kl = keyL k) (hw : ∀ es, D = .map es → ∀ p ∈ es, Maps.has D p.1 = true) : Maps.size D ≤ n := by
  obtain ⟨es, rfl, hp⟩ := ht
  let f : Lit × DataW Value → Nat := fun p => match p.1 with | .int _ a => a.toNat | _ => 0
  have hk : ∀ p ∈ es, ∃ k, k < n ∧ p.1 = keyL k := fun p hp => h p.1 (hw es rfl p hp)
  have hf : ∀ p ∈ es, p.1 = keyL (f p) ∧ f p < n := fun p hp => by
    obtain ⟨k, hk, e⟩ := hk p hp
    have : f p = k := by simp only [f, e, keyL]; simp
    rw [this]
    exact ⟨e, hk⟩
  have h1 : (es.map f).Nodup := by
    rw [List.Nodup, List.pairwise_map]
    refine List.Pairwise.imp_of_mem ?_ hp
    intro a b ha hb hne he
    exact hne (by rw [(hf a ha).1, (hf b hb).1, he])
  have := nodup_lt n (es.map f) h1 (fun x hx => by
    obtain ⟨p, hp, rfl⟩ := List.mem_map.1 hx
    exact (hf p hp).2)
  rw [List.length_map] at this
  exact this

theorem isKey_lit (k : Nat) (hk : k < 9223372036854775808) : WideAt.IsKeyLit (keyL k) := (int_keyed Try.underlying3).key (int_look k hk)

theorem ownsMap_has {w : World} {mb n : Nat} {Dm : DataW Value} (h : w.ownsMap Try.prog 3 rawR mb n Dm) : ∀ es, Dm = .map es → ∀ p ∈ es, Maps.has Dm p.1 = true := by
  obtain ⟨es0, rfl, _, hk⟩ := h.entries (int_keyed Try.underlying3)
  intro es he p hp
  obtain rfl : es0 = es := by simpa using he
  rw [has_eq, List.any_eq_true]
  exact ⟨p, hp, WideAt.sameKey_self (hk p hp)⟩

theorem ownsMap_tight {w : World} {mb n m : Nat} {Dm : DataW Value} (h : w.ownsMap Try.prog 3 rawR mb n Dm) (hm : Maps.size Dm ≤ m) : w.ownsMap Try.prog 3 rawR mb m Dm := by
  obtain ⟨es, clock, hb, F, hs, rfl⟩ := h
  refine ⟨es, clock, hb, F, ?_, rfl⟩
  rw [size_eq, length_sorted] at hm
  simpa using hm

theorem wrote_get {l : List Bk} {k j : Nat} {c : Bytes} : (wrote l k c)[j]? = if j = k then (l[j]?).map (fun x => ⟨x.sure, x.loose ++ [c]⟩) else l[j]? := by
  unfold wrote
  rw [List.getElem?_modify]
  by_cases h : k = j
  · subst h; simp
  · have h' : ¬ j = k := fun e => h e.symm
    simp only [h, h', if_false]
    cases l[j]? <;> rfl
theorem wrote_length (l : List Bk) (k : Nat) (c : Bytes) : (wrote l k c).length = l.length := by simp [wrote]

theorem row_info : (Try.prog.info? 33).map (fun i => (i.zero, i.size, i.bytes)) = some (some nilSl, 1, 24) := by kernel_rfl

/-- The memory's part of a Write: a new block g lies in w2; it is laid in a row of one, appended, and put into the map. -/
theorem DevAt.puts {w w2 : World} {b sb mb : Nat} {sv : List Value} {lv : Nat → Value} {Dm : DataW Value} {D : Dv} {F : Nat → Prop} (h : DevAt w b sb mb sv lv Dm D F) {k : Nat} {x : Bk} (hx : D.bk[k]? = some x)
    (hs : x.loose.length < 4294967296) {g : Nat} {c : Bytes} (hc : Cel w2 g (bvs c) 5) (hl : c.length = 512) (hg : w.heap.size ≤ g) (hb : Below w.heap.size w w2) :
    ∃ v' w4 w5, (Builtin.append_ #[57, 57] 57 #[lv k, .slice (some ⟨w2.heap.size, 0, none⟩) 1 1]).run Try.prog (w2.alloc (.cells #[.slice (some ⟨g, 0, none⟩) 512 512] 33)) = .ok v' w4 ∧
      (Instr.mapUpdate 58 (.map (some mb)) (.int .i64 (k : Int)) v').run Try.prog w4 = .ok () w5 ∧
      Dev w5 b ⟨wrote D.bk k c, D.on, D.left⟩ (Grow F w w5) ∧ Only F w w5 ∧ w4.heap[b]? = w.heap[b]? ∧ w4.heap[mb]? = w.heap[mb]? := by
  have hk := (List.getElem?_eq_some_iff.1 hx).1
  have hfew := h.few
  obtain ⟨i0, hi, hz0, hz1, hz2⟩ := info_parts row_info
  obtain ⟨vals, ho, hvals, hF⟩ := h.loose k x hx
  -- the world with the row of one
  have o3 : Only F w (w2.alloc (.cells #[.slice (some ⟨g, 0, none⟩) 512 512] 33)) := (Only.of_below hb F).alloc _
  have g2 : g < w2.heap.size := hc.lt
  have c3 : Cel (w2.alloc (.cells #[.slice (some ⟨g, 0, none⟩) 512 512] 33)) g (bvs c) 5 := hc.alloc _
  have z3 : (w2.alloc (.cells #[.slice (some ⟨g, 0, none⟩) 512 512] 33)).heap.size = w2.heap.size + 1 := by simp
  have keep3 : ∀ q, q < w.heap.size → (w2.alloc (.cells #[.slice (some ⟨g, 0, none⟩) 512 512] 33)).heap[q]? = w.heap[q]? := fun q hq =>
    (Below.heap_alloc _ _ _ (Nat.lt_of_lt_of_le hq hb.size)).trans (hb.block q hq)
  have hnew := cell_one_new w2 (.slice (some ⟨g, 0, none⟩) 512 512) 33
  generalize w2.alloc (.cells #[.slice (some ⟨g, 0, none⟩) 512 512] 33) = w3 at *
  have ho3 : w3.ownsRow 0 33 1 (lv k) x.loose.length vals := by
    refine ⟨ho.1, ho.2.imp id fun ⟨q, cap, cur, e1, e2, e3, r⟩ => ⟨q, cap, cur, e1, e2, ?_, r⟩⟩
    rw [keep3 q ((Array.getElem?_eq_some_iff.1 e3).1)]
    exact e3
  obtain ⟨v', w4, hrun, ho4, hg4, _, hloc⟩ := run_append_own_at (P := Try.prog) (w := w3) 0 57 57 33 i0 nilSl 1 24 Try.underlying57 hi hz0 hz1 hz2 rfl (by decide) (lv k) x.loose.length vals ho3
    ⟨w2.heap.size, 0, none⟩ 1 1 [.slice (some ⟨g, 0, none⟩) 512 512] rfl hnew (by simp [Value.oneCell']) (by unfold maxLen; omega) (by omega) (Nat.zero_le _)
  -- what the append's own row is, and is not
  have lvF : ∀ q, (lv k).ownBlock = some q → F q ∧ q < w.heap.size := fun q e => ⟨hF q e, h.fl q (hF q e)⟩
  have lvT : ∀ q, (lv k).ownBlock = some q → ∃ cs, Cel w q cs 33 := (h.loose k x hx).typed
  have keep4 : ∀ q, q < w.heap.size → (lv k).ownBlock ≠ some q → w4.heap[q]? = w.heap[q]? := fun q hq hne =>
    (hg4.block q (by have := hb.size; omega) (fun e => hne e.symm)).trans (keep3 q hq)
  have o4 : Only F w w4 := o3.grown hg4 (fun q e => .inl (lvF q e).1)
  obtain ⟨es, clock, hmap, _⟩ := h.map
  have mb_ne : (lv k).ownBlock ≠ some mb := fun e => by
    obtain ⟨cs, hc⟩ := lvT mb e
    rw [show w.heap[mb]? = _ from hc] at hmap
    cases hmap
  have map4 : w4.ownsMap Try.prog 3 rawR mb 4096 Dm := ownsMap_kept' h.map (keep4 mb (h.fl _ h.fm) mb_ne)
  obtain ⟨w5, hrun5, map5, hg5⟩ := map4.update (t := 58) (e := 57) (int_keyed Try.underlying3) Try.underlying58 (by unfold maxLen; omega) (int_look k (by omega)) (val := v') (d := .held v') (ps := []) rfl
  have o5 : Only F w w5 := o4.grown hg5 (fun q e => by cases e; exact .inl h.fm)
  refine ⟨v', w4, w5, hrun, hrun5, ⟨sb, mb, sv, fun j => if j = k then v' else lv j, Dm.put (keyL k) (.held v'), ?_⟩, o5, keep4 b (h.fl _ h.fb) (fun e => by
    obtain ⟨cs', hc'⟩ := lvT b e
    have := (h.head.inj hc').2
    cases this), keep4 mb (h.fl _ h.fm) mb_ne⟩
  have keep5 : ∀ q, q < w.heap.size → (lv k).ownBlock ≠ some q → q ≠ mb → w5.heap[q]? = w.heap[q]? := fun q hq h1 h2 =>
    (hg5.block q (by have := hb.size; have := hg4.size; omega) (fun e => h2 (by cases e; rfl))).trans (keep4 q hq h1)
  have byte5 : ∀ q, F q → (∃ cs, Cel w q cs 5) → w5.heap[q]? = w.heap[q]? := fun q hq ⟨cs, hcs⟩ => keep5 q hcs.lt (fun e => by
      obtain ⟨cs', hc'⟩ := lvT q e
      have := (hcs.inj hc').2
      cases this) (fun e => by
      subst e
      rw [show w.heap[q]? = _ from hcs] at hmap
      cases hmap)
  have grow : ∀ q, F q → Grow F w w5 q := fun q hq => .inl hq
  have v'loc : ∀ q, v'.ownBlock = some q → (lv k).ownBlock = some q ∨ (w.heap.size ≤ q ∧ q < w4.heap.size) := fun q e => by
    rcases hloc with h1 | h1
    · exact .inl (h1 ▸ e)
    · rw [h1] at e
      cases e
      exact .inr ⟨by have := hb.size; omega, (World.ownsRow.lt ho4 _ h1).2⟩
  have z45 : w4.heap.size ≤ w5.heap.size := hg5.size
  have z34 : w3.heap.size ≤ w4.heap.size := hg4.size
  have zb := hb.size
  have keep_g : w5.heap[g]? = w3.heap[g]? := by
    refine (hg5.block g (by omega) (fun e => ?_)).trans (hg4.block g (by omega) (fun e => ?_))
    · cases e
      have := h.fl _ h.fm
      omega
    · have := (lvF g e.symm).2
      omega
  have key_ne : ∀ j, j ≠ k → keyL j ≠ keyL k := fun j hj e => hj (by simp [keyL] at e; omega)
  have hisK := isKey_lit k (by omega)
  have only5 : ∀ kl, Maps.has (Dm.put (keyL k) (.held v')) kl = true → ∃ j, j < D.bk.length ∧ kl = keyL j := fun kl hkl => by
    by_cases e : kl = keyL k
    · exact ⟨k, hk, e⟩
    · rw [has_put_other e] at hkl
      exact h.only kl hkl
  exact {
    head := by
      show Cel w5 b [.slice (some ⟨sb, 0, none⟩) (wrote D.bk k c).length (wrote D.bk k c).length, _, _, _] _
      rw [wrote_length]
      exact h.head.kept (keep5 b (h.fl _ h.fb) (fun e => by
        obtain ⟨cs', hc'⟩ := lvT b e
        have := (h.head.inj hc').2
        cases this) h.b_ne.2.1)
    rows := h.rows.kept (keep5 sb (h.fl _ h.fs) (h.off k hk) h.b_ne.2.2)
    svl := by rw [h.svl, wrote_length]
    sure := fun j y hy => by
      rw [wrote_get] at hy
      have : ∃ y0, D.bk[j]? = some y0 ∧ y.sure = y0.sure := by
        split at hy
        · obtain ⟨y0, h0, rfl⟩ := Option.map_eq_some_iff.1 hy
          exact ⟨y0, h0, rfl⟩
        · exact ⟨y, hy, rfl⟩
      obtain ⟨y0, h0, e0⟩ := this
      obtain ⟨u, hu, hx'⟩ := h.sure j y0 h0
      rw [e0]
      exact ⟨u, hu, hx'.imp id fun hb => hb.kept byte5 grow⟩
    map := ownsMap_tight map5 (Nat.le_trans (size_le (map5.tidy (int_keyed Try.underlying3)) only5 (ownsMap_has map5)) hfew)
    keys := fun j y hy => by
      rw [wrote_get] at hy
      by_cases hj : j = k
      · subst hj
        rw [if_pos rfl, hx] at hy
        simp only [Option.map_some, Option.some.injEq] at hy
        subst hy
        rw [has_put_same map4.isMap hisK, atKey_put_same map4.isMap hisK, if_pos rfl]
        exact ⟨by simp, rfl⟩
      · rw [if_neg hj] at hy
        rw [has_put_other (key_ne j hj), atKey_put_other (key_ne j hj), if_neg hj]
        exact h.keys j y hy
    only := fun kl hkl => by
      rw [wrote_length]
      exact only5 kl hkl
    loose := fun j y hy => by
      rw [wrote_get] at hy
      by_cases hj : j = k
      · subst hj
        rw [if_pos rfl, hx] at hy
        simp only [Option.map_some, Option.some.injEq] at hy
        subst hy
        rw [if_pos rfl]
        refine ⟨vals ++ [.slice (some ⟨g, 0, none⟩) 512 512], ?_, fun i l hi => ?_, fun q e => ?_⟩
        · rw [List.length_append]
          refine World.ownsRow.kept ho4 hg5 ?_
          rcases hq : v'.ownBlock with _ | q
          · exact .inl rfl
          · refine .inr (fun e => ?_)
            cases e
            rcases v'loc mb hq with h1 | h1
            · exact mb_ne h1
            · have := h.fl _ h.fm
              omega
        · have hlen : vals.length = x.loose.length := by have := ho.1; omega
          by_cases hi' : i < x.loose.length
          · rw [List.getElem?_append_left hi'] at hi
            obtain ⟨u, hu, hb'⟩ := hvals i l hi
            exact ⟨u, by rw [List.getElem?_append_left (by omega)]; exact hu, hb'.kept byte5 grow⟩
          · rw [List.getElem?_append_right (by omega)] at hi
            have : i = x.loose.length := by
              have := (List.getElem?_eq_some_iff.1 hi).1
              simp at this
              omega
            subst this
            simp only [Nat.sub_self, List.getElem?_cons_zero, Option.some.injEq] at hi
            subst hi
            refine ⟨.slice (some ⟨g, 0, none⟩) 512 512, by rw [List.getElem?_append_right (by omega), hlen]; simp, g, rfl, c3.kept keep_g, hl, .inr ⟨hg, by omega⟩⟩
        · rcases v'loc q e with h1 | h1
          · exact grow q (lvF q h1).1
          · exact .inr ⟨h1.1, by omega⟩
      · rw [if_neg hj] at hy
        rw [if_neg hj]
        have hr := h.loose j y hy
        refine hr.kept byte5 (fun q e => ?_) grow
        obtain ⟨cs, hcs⟩ := hr.typed q e
        refine keep5 q hcs.lt (fun e' => ?_) (fun e' => ?_)
        · rcases h.apart j k (List.getElem?_eq_some_iff.1 hy).1 hk hj with h1 | h1
          · rw [h1] at e; cases e
          · exact h1 (e.trans e'.symm)
        · subst e'
          rw [show w.heap[q]? = _ from hcs] at hmap
          cases hmap
    apart := fun i j hi hj hne => by
      rw [wrote_length] at hi hj
      have old : ∀ m, m < D.bk.length → m ≠ k → (lv m).ownBlock = none ∨ (lv m).ownBlock ≠ v'.ownBlock := fun m hm hmk => by
        rcases h.apart m k hm hk hmk with h1 | h1
        · exact .inl h1
        · rcases hq : (lv m).ownBlock with _ | q
          · exact .inl rfl
          · refine .inr (fun e => ?_)
            rcases v'loc q e.symm with h2 | h2
            · exact h1 (hq.trans h2.symm)
            · obtain ⟨y, hy⟩ : ∃ y, D.bk[m]? = some y := ⟨_, List.getElem?_eq_getElem hm⟩
              obtain ⟨cs, hcs⟩ := (h.loose m y hy).typed q hq
              have := hcs.lt
              omega
      by_cases hik : i = k
      · subst hik
        have hjk : j ≠ i := fun e => hne e.symm
        rw [if_pos rfl, if_neg hjk]
        rcases old j hj hjk with h1 | h1
        · rcases hq : v'.ownBlock with _ | q
          · exact .inl rfl
          · exact .inr (by rw [h1]; exact fun e => by cases e)
        · exact .inr (fun e => h1 e.symm)
      · rw [if_neg hik]
        by_cases hjk : j = k
        · subst hjk
          rw [if_pos rfl]
          exact old i hi hik
        · rw [if_neg hjk]
          exact h.apart i j hi hj hne
    off := fun j hj e => by
      rw [wrote_length] at hj
      by_cases hjk : j = k
      · subst hjk
        rw [if_pos rfl] at e
        rcases v'loc sb e with h1 | h1
        · exact h.off j hj h1
        · have := h.fl _ h.fs
          omega
      · rw [if_neg hjk] at e
        exact h.off j hj e
    fb := grow _ h.fb
    fs := grow _ h.fs
    fm := grow _ h.fm
    fl := fun q hq => by
      rcases hq with h1 | h1
      · have := h.fl q h1
        have := o5.size
        omega
      · exact h1.2
    pos := by
      show 0 < (wrote D.bk k c).length
      rw [wrote_length]; exact h.pos
    few := by
      show (wrote D.bk k c).length ≤ 4096
      rw [wrote_length]; exact h.few
    low := h.low
    high := h.high }
end Go.Proofs.Ytcpapdpnnlnemaa
