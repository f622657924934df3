/- A device of blocks as lists: what stands, what is written, flushed, and kept when the power comes again; no condition. -/
namespace Go.Proofs.Ytmdjgkclbjbdiaa

abbrev Bytes := List UInt8

/-- A block: what is sure, and what is loose, the eldest first. -/
structure Bk where
  sure : Bytes
  loose : List Bytes

/-- A device. -/
structure Dv where
  bk : List Bk
  on : Bool
  left : Int

def Bk.stands (b : Bk) : Bytes := b.loose.getLast?.getD b.sure

theorem Bk.stands_nil {b : Bk} (h : b.loose = []) : b.stands = b.sure := by simp [Bk.stands, h]
theorem Bk.stands_some {b : Bk} {n : Nat} (h : b.loose.length = n + 1) : b.loose[n]? = some b.stands := by
  have hne : b.loose ≠ [] := fun e => by rw [e] at h; cases h
  have : b.loose[n]? = some (b.loose[n]'(by omega)) := List.getElem?_eq_getElem (by omega)
  rw [this]
  simp only [Bk.stands, List.getLast?_eq_getElem?, h, Nat.add_sub_cancel, this, Option.getD_some]

/-- How many more there are, behind one that counts. -/
def spent (n : Int) : Int := if 0 < n then n - 1 else n

def noughts : Bytes := List.replicate 512 0
def fresh (n : Nat) : Dv := ⟨List.replicate n ⟨noughts, []⟩, true, -1⟩

def wrote (l : List Bk) (k : Nat) (b : Bytes) : List Bk := l.modify k fun x => ⟨x.sure, x.loose ++ [b]⟩
def flushed (l : List Bk) : List Bk := l.map fun x => ⟨x.stands, []⟩

theorem flushed_length (l : List Bk) : (flushed l).length = l.length := by simp [flushed]

/-- Which of w loose things (from 1 on; 0: none) a number picks. -/
def pickN (p : Int) (w : Nat) : Nat := (max p 0 % ((w : Int) + 1)).toNat
theorem pickN_le (p : Int) (w : Nat) : pickN p w ≤ w := by
  unfold pickN
  have h1 : 0 ≤ max p 0 % ((w : Int) + 1) := Int.emod_nonneg _ (by omega)
  have h2 : max p 0 % ((w : Int) + 1) < (w : Int) + 1 := Int.emod_lt_of_pos _ (by omega)
  omega
theorem pickN_int (p : Int) (w : Nat) : ((pickN p w : Nat) : Int) = max p 0 % ((w : Int) + 1) := by
  unfold pickN
  exact Int.toNat_of_nonneg (Int.emod_nonneg _ (by omega))
theorem pickN_zero (w : Nat) : pickN 0 w = 0 := by simp [pickN]

/-- What is sure when number n of the loose things is picked. -/
def Bk.picked (b : Bk) (n : Nat) : Bytes := if n = 0 then b.sure else (b.loose[n - 1]?).getD b.sure

theorem Bk.picked_all (b : Bk) : b.picked b.loose.length = b.stands := by
  unfold Bk.picked
  cases h : b.loose with
  | nil => simp [Bk.stands, h]
  | cons x r => simp [Bk.stands, h, List.getLast?_eq_getElem?]

/-- What the blocks are behind On. -/
def comes : List Bk → List Int → List Bk
  | [], _ => []
  | b :: r, ps => if b.loose = [] then ⟨b.sure, []⟩ :: comes r ps else ⟨b.picked (pickN (ps.headD 0) b.loose.length), []⟩ :: comes r ps.tail

theorem comes_length : ∀ (l : List Bk) (ps : List Int), (comes l ps).length = l.length
  | [], _ => rfl
  | b :: r, ps => by unfold comes; split <;> simp [comes_length r]

def looseAt (l : List Bk) (k : Nat) : List Bytes := (l[k]?.map Bk.loose).getD []
/-- The numbers of the blocks that have something loose, rising. -/
def loosen (l : List Bk) : List Nat := (List.range l.length).filter fun k => !(looseAt l k).isEmpty

end Go.Proofs.Ytmdjgkclbjbdiaa
