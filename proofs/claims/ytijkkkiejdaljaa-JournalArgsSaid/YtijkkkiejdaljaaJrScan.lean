/- A journal's blocks in plain words: stamps, pieces, what a string is put as, what is found among blocks; no condition. -/
import Derived.Test.YtijkkkiejdaljaaBlkPlain
import Derived.Test.YtijkkkiejdaljaaDevPlain
namespace Go.Proofs.Ytijkkkiejdaljaa

abbrev Spot := Nat × Nat

/-! ### pieces -/
def nPieces (n : Nat) : Nat := (max n 1 - 1) / 480 + 1
def nBlocks (n : Nat) : Nat := nPieces n + 1
def pieceAt (l : Bytes) (i : Nat) : Bytes := (l.drop (480 * i)).take 480
def piecesTo (l : Bytes) (k : Nat) : List Bytes := (List.range k).map (pieceAt l)
def piecesL (l : Bytes) : List Bytes := piecesTo l (nPieces l.length)

theorem piecesTo_succ (l : Bytes) (k : Nat) : piecesTo l (k + 1) = piecesTo l k ++ [pieceAt l k] := by
  simp [piecesTo, List.range_succ]
theorem piecesTo_length (l : Bytes) (k : Nat) : (piecesTo l k).length = k := by simp [piecesTo]
theorem piecesL_length (l : Bytes) : (piecesL l).length = nPieces l.length := piecesTo_length _ _
theorem pieceAt_length (l : Bytes) (i : Nat) : (pieceAt l i).length ≤ 480 := by
  unfold pieceAt; exact List.length_take_le _ _
theorem piecesTo_flat (l : Bytes) : ∀ k, (piecesTo l k).flatten = l.take (480 * k)
  | 0 => by simp [piecesTo]
  | k + 1 => by
    rw [piecesTo_succ, List.flatten_append, piecesTo_flat l k]
    simp only [List.flatten_cons, List.flatten_nil, List.append_nil, pieceAt]
    rw [show 480 * (k + 1) = 480 * k + 480 by omega, List.take_add]
theorem nPieces_le (n : Nat) : n ≤ 480 * nPieces n := by unfold nPieces; omega
theorem nPieces_last (n : Nat) : n ≤ 480 * (nPieces n - 1) + 480 := by unfold nPieces; omega
theorem nPieces_more {n k : Nat} (h : k + 1 < nPieces n) : 480 * k + 480 < n := by unfold nPieces at h; omega
theorem nPieces_end {n k : Nat} (h : 480 * k + 480 < n) : k + 1 < nPieces n := by unfold nPieces; omega
theorem nPieces_pos (n : Nat) : 1 ≤ nPieces n := by unfold nPieces; omega
theorem piecesL_flat (l : Bytes) : (piecesL l).flatten = l := by
  unfold piecesL
  rw [piecesTo_flat]
  exact List.take_of_length_le (nPieces_le _)
theorem piecesL_short (l : Bytes) : ∀ x ∈ piecesL l, x.length ≤ 480 := by
  intro x hx
  obtain ⟨i, _, rfl⟩ := List.mem_map.1 hx
  exact pieceAt_length l i

/-! ### blocks -/
def stampL (at_ seq sum : Nat) : Bytes := beL at_ 2 ++ beL seq 8 ++ beL sum 4
theorem stampL_length (a s u : Nat) : (stampL a s u).length = 14 := by simp [stampL, beL_length]
def blkL (at_ seq : Nat) (k : UInt8) (sum : Nat) (p : Bytes) : Bytes := sealL k (stampL at_ seq sum ++ p)
def sumOf (b : Bytes) : Nat := beNat ((b.drop 508).take 4)
theorem blkL_length {a s : Nat} {k : UInt8} {u : Nat} {p : Bytes} (h : p.length ≤ 480) : (blkL a s k u p).length = 512 := by
  unfold blkL
  exact sealL_length (by rw [List.length_append, stampL_length]; omega)

/-- What a block is of, and its bytes. -/
def tellL (at_ seq sum : Nat) (b : Bytes) : UInt8 × Bytes :=
  if (openV b).2.2 = 0 ∧ (openV b).2.1.take 14 = stampL at_ seq sum then ((openV b).1, (openV b).2.1.drop 14) else (0, [])

theorem tell_blk {a s u a' s' u' : Nat} {k : UInt8} {p : Bytes} (hk : k ≠ 0) (hp : p.length ≤ 480) :
    tellL a' s' u' (blkL a s k u p) = if stampL a s u = stampL a' s' u' then (k, p) else (0, []) := by
  unfold tellL blkL
  rw [open_seal hk (by rw [List.length_append, stampL_length]; omega)]
  have h1 : (stampL a s u ++ p).take 14 = stampL a s u := List.take_left' (stampL_length _ _ _)
  have h2 : (stampL a s u ++ p).drop 14 = p := List.drop_left' (stampL_length _ _ _)
  simp only [h1, h2, true_and]
theorem tell_own {a s u : Nat} {k : UInt8} {p : Bytes} (hk : k ≠ 0) (hp : p.length ≤ 480) : tellL a s u (blkL a s k u p) = (k, p) := by
  rw [tell_blk hk hp, if_pos rfl]

/-- No end of a string of this mark. -/
def NoEnd (a s : Nat) (b : Bytes) : Prop := ∀ u, (tellL a s u b).1 ≠ 2
/-- Of no mark whose number is greater. -/
def UpTo (s : Nat) (b : Bytes) : Prop := ∀ a s' u, s < s' → s' < 18446744073709551616 → (tellL a s' u b).1 = 0
/-- Of no mark. -/
def Foreign (b : Bytes) : Prop := ∀ a s u, (tellL a s u b).1 = 0

theorem Foreign.noEnd {b : Bytes} (h : Foreign b) (a s : Nat) : NoEnd a s b := fun u => by rw [h]; decide
theorem Foreign.upTo {b : Bytes} (h : Foreign b) (s : Nat) : UpTo s b := fun a s' u _ _ => h a s' u
theorem UpTo.noEnd {s s' : Nat} {b : Bytes} (h : UpTo s b) (hs : s < s') (hl : s' < 18446744073709551616) (a : Nat) : NoEnd a s' b := fun u => by rw [h a s' u hs hl]; decide
theorem UpTo.mono {s s' : Nat} {b : Bytes} (h : UpTo s b) (hs : s ≤ s') : UpTo s' b := fun a t u ht hl => h a t u (by omega) hl

theorem stamp_seq {a s u a' s' u' : Nat} (h : stampL a s u = stampL a' s' u') (hs : s < 18446744073709551616) (hs' : s' < 18446744073709551616) : s = s' := by
  unfold stampL at h
  have h1 := congrArg (fun l => (l.drop 2).take 8) h
  simp only [List.append_assoc] at h1
  rw [List.drop_left' (beL_length _ _), List.drop_left' (beL_length _ _), List.take_left' (beL_length _ _), List.take_left' (beL_length _ _)] at h1
  have h2 := congrArg beNat h1
  rw [beNat_beL, beNat_beL, Nat.mod_eq_of_lt (by omega), Nat.mod_eq_of_lt (by omega)] at h2
  exact h2
theorem upTo_blk {a s u : Nat} {k : UInt8} {p : Bytes} (hk : k ≠ 0) (hp : p.length ≤ 480) (hs : s < 18446744073709551616) : UpTo s (blkL a s k u p) := fun a' s' u' hl hl' => by
  rw [tell_blk hk hp, if_neg (fun e => by have := stamp_seq e hs hl'; omega)]
theorem noEnd_piece {a s a' s' u : Nat} {p : Bytes} (hp : p.length ≤ 480) : NoEnd a s (blkL a' s' 1 u p) := fun u' => by
  rw [tell_blk (by decide) hp]
  split
  · show (1 : UInt8) ≠ 2
    decide
  · show (0 : UInt8) ≠ 2
    decide
theorem foreign_of {b : Bytes} (h : nOf b < 14) : Foreign b := fun a s u => by
  unfold tellL
  rw [if_neg]
  rintro ⟨h1, h2⟩
  have h3 := congrArg List.length h2
  rw [stampL_length, List.length_take] at h3
  have h4 : (openV b).2.1.length < 14 := by
    unfold openV
    split
    · split
      · simp only [List.length_take]; omega
      · simp
    · simp
  omega

/-! ### what is put, and what is found -/
section
variable (a s : Nat)
def encP : Spot → List Bytes → List Bytes × Spot
  | t, [] => ([], t)
  | t, x :: r => (blkL a s 1 t.2 x :: (encP (t.1 + 1, sumOf (blkL a s 1 t.2 x)) r).1, (encP (t.1 + 1, sumOf (blkL a s 1 t.2 x)) r).2)
def endB (t : Spot) : Bytes := blkL a s 2 t.2 []
def encS (t : Spot) (l : Bytes) : List Bytes × Spot :=
  ((encP a s t (piecesL l)).1 ++ [endB a s (encP a s t (piecesL l)).2], ((encP a s t (piecesL l)).2.1 + 1, sumOf (endB a s (encP a s t (piecesL l)).2)))
def encA : Spot → List Bytes → List Bytes × Spot
  | t, [] => ([], t)
  | t, l :: r => ((encS a s t l).1 ++ (encA (encS a s t l).2 r).1, (encA (encS a s t l).2 r).2)

/-- What is found among blocks: the strings, and the spot behind each. -/
def scan : List Bytes → Spot → Bytes → List (Bytes × Spot)
  | [], _, _ => []
  | b :: r, t, cur =>
    if (tellL a s t.2 b).1 = 1 then scan r (t.1 + 1, sumOf b) (cur ++ (tellL a s t.2 b).2)
    else if (tellL a s t.2 b).1 = 2 then (cur, (t.1 + 1, sumOf b)) :: scan r (t.1 + 1, sumOf b) []
    else []
end

section
variable {a s : Nat}
theorem encP_append : ∀ (x y : List Bytes) (t : Spot), encP a s t (x ++ y) = ((encP a s t x).1 ++ (encP a s (encP a s t x).2 y).1, (encP a s (encP a s t x).2 y).2)
  | [], y, t => rfl
  | b :: x, y, t => by
    simp only [List.cons_append, encP, encP_append x y]
theorem encP_length : ∀ (x : List Bytes) (t : Spot), (encP a s t x).1.length = x.length
  | [], _ => rfl
  | b :: x, t => by simp [encP, encP_length x]
theorem encP_spot : ∀ (x : List Bytes) (t : Spot), (encP a s t x).2.1 = t.1 + x.length
  | [], _ => rfl
  | b :: x, t => by simp [encP, encP_spot x]; omega
theorem encS_length (t : Spot) (l : Bytes) : (encS a s t l).1.length = nBlocks l.length := by
  simp [encS, encP_length, piecesL_length, nBlocks]
theorem encS_spot (t : Spot) (l : Bytes) : (encS a s t l).2.1 = t.1 + nBlocks l.length := by
  simp [encS, encP_spot, piecesL_length, nBlocks]; omega
theorem encA_append : ∀ (x y : List Bytes) (t : Spot), encA a s t (x ++ y) = ((encA a s t x).1 ++ (encA a s (encA a s t x).2 y).1, (encA a s (encA a s t x).2 y).2)
  | [], y, t => rfl
  | b :: x, y, t => by
    simp only [List.cons_append, encA, encA_append x y, List.append_assoc]
theorem encA_one (l : Bytes) (t : Spot) : encA a s t [l] = encS a s t l := by simp [encA]

/-- How many blocks are taken. -/
def takenBy (L : List Bytes) : Nat := (L.map fun l => nBlocks l.length).sum
theorem takenBy_append (x y : List Bytes) : takenBy (x ++ y) = takenBy x + takenBy y := by simp [takenBy]
theorem takenBy_one (l : Bytes) : takenBy [l] = nBlocks l.length := by simp [takenBy]
theorem encA_length : ∀ (L : List Bytes) (t : Spot), (encA a s t L).1.length = takenBy L
  | [], _ => rfl
  | l :: r, t => by
    simp [encA, encS_length, encA_length r, takenBy]
theorem encA_spot : ∀ (L : List Bytes) (t : Spot), (encA a s t L).2.1 = t.1 + takenBy L
  | [], _ => rfl
  | l :: r, t => by
    simp [encA, encA_spot r, encS_spot, takenBy]; omega

theorem scan_encP : ∀ (x : List Bytes) (t : Spot) (cur : Bytes) (rest : List Bytes), (∀ b ∈ x, b.length ≤ 480) →
    scan a s ((encP a s t x).1 ++ rest) t cur = scan a s rest (encP a s t x).2 (cur ++ x.flatten)
  | [], t, cur, rest, _ => by simp [encP]
  | b :: x, t, cur, rest, h => by
    have hb : b.length ≤ 480 := h b (by simp)
    simp only [encP, List.cons_append]
    rw [scan, tell_own (by decide) hb, if_pos rfl, scan_encP x _ _ rest (fun c hc => h c (by simp [hc]))]
    simp [List.append_assoc]
theorem scan_encS (l : Bytes) (t : Spot) (rest : List Bytes) : scan a s ((encS a s t l).1 ++ rest) t [] = (l, (encS a s t l).2) :: scan a s rest (encS a s t l).2 [] := by
  unfold encS
  rw [List.append_assoc, scan_encP _ _ _ _ (piecesL_short l), piecesL_flat]
  simp only [List.nil_append, List.cons_append, endB]
  rw [scan, tell_own (by decide) (by simp), if_neg (by decide), if_pos rfl]
theorem scan_encA : ∀ (L : List Bytes) (t : Spot) (rest : List Bytes), ∃ m, scan a s ((encA a s t L).1 ++ rest) t [] = m ++ scan a s rest (encA a s t L).2 [] ∧ m.map Prod.fst = L ∧ ((m.map Prod.snd).getLast?.getD t) = (encA a s t L).2
  | [], t, rest => ⟨[], by simp [encA], rfl, rfl⟩
  | l :: r, t, rest => by
    obtain ⟨m, h1, h2, h3⟩ := scan_encA r (encS a s t l).2 rest
    refine ⟨(l, (encS a s t l).2) :: m, ?_, by simp [h2], ?_⟩
    · simp only [encA, List.append_assoc]
      rw [scan_encS, h1]
      rfl
    · simp only [encA, List.map_cons]
      rw [← h3]
      cases m with
      | nil => simp
      | cons y m => simp [List.getLast?_cons]
theorem scan_none : ∀ (rest : List Bytes) (t : Spot) (cur : Bytes), (∀ b ∈ rest, NoEnd a s b) → scan a s rest t cur = []
  | [], _, _, _ => rfl
  | b :: r, t, cur, h => by
    have h0 := h b (by simp) t.2
    rw [scan]
    by_cases h1 : (tellL a s t.2 b).1 = 1
    · rw [if_pos h1]
      exact scan_none r _ _ fun c hc => h c (by simp [hc])
    · rw [if_neg h1, if_neg h0]
end
end Go.Proofs.Ytijkkkiejdaljaa
