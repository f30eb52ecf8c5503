/- Plain: a reader of changes, rune by rune, as package place has it. -/
import Derived.Test.YtgglbafcocbhbaaTil
namespace Go.Proofs.Ytgglbafcocbhbaa
open Go.RowKit

/-- What is known of a text up to some rune. -/
structure RS where
  all : List (List Int)
  block : List (List Int)
  marked : Bool
  mirrored : Bool
  opn : List Int
  dot : Bool

def RS.new : RS := ⟨[], [], false, false, [], false⟩

/-- What is outside is put to signs. -/
def fill1 (l : List Int) : List Int := if l.headD 0 % 2 = 0 then 1 :: l else l
def fill2 (n : Int) (l : List Int) : List Int := if l.getLastD 0 < n ∧ (n - l.getLastD 0) % 2 = 1 then l ++ [n] else l

/-- A step's word (0: none) and what is known behind it. -/
def RS.add (n : Int) (st : RS) (ps : List Int) : Int × RS :=
  if okc n 0 ps = true then (if 200 < (st.block ++ [ps]).length then 3 else 0, { st with block := st.block ++ [ps], dot := false }) else (6, st)

def RS.endSigns (n : Int) (st : RS) : Int × RS := if st.opn = [] then (0, st) else RS.add n { st with opn := [] } (fill2 n (fill1 st.opn))

def RS.needs (st : RS) : Bool := decide (st.block = []) || st.dot

def RS.back (st : RS) : List (List Int) := if st.mirrored = true then st.block.dropLast.reverse else []

def RS.endBlock (st : RS) : Int × RS :=
  (if 200 < (st.all ++ st.block ++ st.back).length then 3 else 0, { st with all := st.all ++ st.block ++ st.back, block := [], marked := false, mirrored := false })

def RS.mark (st : RS) (m : Bool) : Int × RS := if st.marked = true ∨ st.block ≠ [] then (4, st) else (0, { st with marked := true, mirrored := m })

/-- What a rune does that is no sign, behind the signs' end. -/
def RS.other (n : Int) (st : RS) (c : Nat) : Int × RS :=
  if c = 120 ∨ c = 88 ∨ c = 45 ∨ c = 215 then st.add n []
  else if c = 46 then (if st.needs = true then (4, st) else (0, { st with dot := true }))
  else if c = 44 then (if st.needs = true then (4, st) else st.endBlock)
  else if c = 38 then st.mark true
  else if c = 43 then st.mark false
  else (4, st)

def RS.take (n : Int) (st : RS) (c : Nat) (k : Int) : Int × RS :=
  if 0 ≤ k then (0, { st with opn := st.opn ++ [k + 1] })
  else if (st.endSigns n).1 = 0 then (st.endSigns n).2.other n c else st.endSigns n

def RS.fin (n : Int) (st : RS) : Int × RS :=
  if (st.endSigns n).1 = 0 then (if (st.endSigns n).2.needs = true then (5, (st.endSigns n).2) else (st.endSigns n).2.endBlock) else st.endSigns n

/-- A text's runes, one behind the other. -/
def RS.run (n : Int) (key : Nat → Int) : RS → List Nat → Int × RS
  | st, [] => (0, st)
  | st, c :: cs => if (st.take n c (key c)).1 = 0 then RS.run n key (st.take n c (key c)).2 cs else st.take n c (key c)

theorem RS.run_snoc (n : Int) (key : Nat → Int) : ∀ (cs : List Nat) (st : RS) (c : Nat), (RS.run n key st cs).1 = 0 → RS.run n key st (cs ++ [c]) = (RS.run n key st cs).2.take n c (key c)
  | [], st, c, _ => by
    show (if (st.take n c (key c)).1 = 0 then _ else _) = st.take n c (key c)
    split
    · rename_i h
      show ((0 : Int), (st.take n c (key c)).2) = _
      rw [← h]
    · rfl
  | d :: cs, st, c, h => by
    have h' : (if (st.take n d (key d)).1 = 0 then RS.run n key (st.take n d (key d)).2 cs else st.take n d (key d)).1 = 0 := h
    show (if (st.take n d (key d)).1 = 0 then RS.run n key (st.take n d (key d)).2 (cs ++ [c]) else st.take n d (key d)) = (if (st.take n d (key d)).1 = 0 then RS.run n key (st.take n d (key d)).2 cs else st.take n d (key d)).2.take n c (key c)
    by_cases hd : (st.take n d (key d)).1 = 0
    · rw [if_pos hd] at h' ⊢
      rw [if_pos hd]
      exact RS.run_snoc n key cs _ c h'
    · rw [if_neg hd] at h'
      exact absurd h' hd

theorem RS.run_bad (n : Int) (key : Nat → Int) : ∀ (cs more : List Nat) (st : RS), (RS.run n key st cs).1 ≠ 0 → RS.run n key st (cs ++ more) = RS.run n key st cs
  | [], _, st, h => absurd rfl h
  | d :: cs, more, st, h => by
    show (if (st.take n d (key d)).1 = 0 then RS.run n key (st.take n d (key d)).2 (cs ++ more) else st.take n d (key d)) = (if (st.take n d (key d)).1 = 0 then RS.run n key (st.take n d (key d)).2 cs else st.take n d (key d))
    by_cases hd : (st.take n d (key d)).1 = 0
    · rw [if_pos hd, if_pos hd]
      refine RS.run_bad n key cs more _ ?_
      intro h'
      refine h ?_
      show (if (st.take n d (key d)).1 = 0 then RS.run n key (st.take n d (key d)).2 cs else st.take n d (key d)).1 = 0
      rw [if_pos hd]; exact h'
    · rw [if_neg hd, if_neg hd]

/-- What Parse answers: the word, and the changes. -/
def RS.parse (n : Int) (key : Nat → Int) (cs : List Nat) : Int × List (List Int) :=
  if (RS.run n key RS.new cs).1 = 0 then (if ((RS.run n key RS.new cs).2.fin n).1 = 0 then (0, ((RS.run n key RS.new cs).2.fin n).2.all) else (((RS.run n key RS.new cs).2.fin n).1, [])) else ((RS.run n key RS.new cs).1, [])

end Go.Proofs.Ytgglbafcocbhbaa
