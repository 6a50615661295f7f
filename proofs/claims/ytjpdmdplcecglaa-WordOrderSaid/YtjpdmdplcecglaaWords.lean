/- Words for memory that the proofs of this seat share: a block that is known whole, a slice that reads as a list, an array filled from one end; plain facts, without conditions. -/
import Derived.Test.YtjpdmdplcecglaaRows
import Derived.WalkKit
import Derived.WalkSpells
import Derived.WalkLawsBesides
import Derived.Lib.Hide
import Derived.Laws.BitsAllLaws
import Derived.Laws.Tables
import Derived.Laws.CopyOwn
import Derived.Lib.SlBytesRow
namespace Go.Proofs.Ytjpdmdplcecglaa
open Go.RowKit

/-- A byte as a value; a word as a value. -/
def bv (n : Nat) : Value := .int .u8 (n : Int)
def wv (n : Nat) : Value := .int .u64 (n : Int)

/-- A word without its k lowest bytes; its byte at place k. -/
def up (n k : Nat) : Nat := n / 256 ^ k
def byt (n k : Nat) : Nat := up n k % 256
theorem up_zero (n : Nat) : up n 0 = n := by simp [up]
theorem up_succ (n k : Nat) : up n (k + 1) = up n k / 256 := by unfold up; rw [Nat.pow_succ, Nat.div_div_eq_div_mul]
theorem up_le (n k : Nat) : up n k ≤ n := Nat.div_le_self _ _
theorem byt_lt (n k : Nat) : byt n k < 256 := Nat.mod_lt _ (by decide)

theorem pow8 (k : Nat) : (2 : Int) ^ (8 * k) = ((256 ^ k : Nat) : Int) := by
  rw [Int.pow_mul]
  simp
theorem byt_shift (n k : Nat) : (n : Int) / 2 ^ (8 * k) % 256 = (byt n k : Int) := by
  rw [pow8]
  unfold byt up
  omega

/-- A word's digit at place k, the lowest one at 0. -/
def nib (n k : Nat) : Nat := n / 16 ^ k % 16
theorem nib_lt (n k : Nat) : nib n k < 16 := Nat.mod_lt _ (by decide)
theorem pow4 (k : Nat) : (2 : Int) ^ (4 * k) = ((16 ^ k : Nat) : Int) := by
  rw [Int.pow_mul]
  simp
theorem and15 (x : Nat) : x &&& 15 = x % 16 := Nat.and_two_pow_sub_one_eq_mod x 4
theorem nib_and (n k : Nat) (hn : n < 18446744073709551616) : bits .and .u64 ((n : Int) / 2 ^ (4 * k)) 15 = (nib n k : Int) := by
  rw [pow4]
  have hle : n / 16 ^ k ≤ n := Nat.div_le_self _ _
  have e : (n : Int) / ((16 ^ k : Nat) : Int) = ((n / 16 ^ k : Nat) : Int) := by omega
  rw [e]
  have h := u64_and_nat (n / 16 ^ k) 15 (by omega) (by omega)
  rw [and15] at h
  exact h

/-- A digit's letter; a word's digits, the highest one first. -/
def tbl : ByteArray := ⟨#[48, 49, 50, 51, 52, 53, 54, 55, 56, 57, 97, 98, 99, 100, 101, 102]⟩
def dig (d : Nat) : UInt8 := tbl.data.getD d 0
theorem dig_get (d : Nat) (h : d < tbl.size) : tbl[d] = dig d := by
  have h' : d < tbl.data.size := h
  unfold dig Array.getD
  rw [dif_pos h']
  rfl
def hexS (n : Nat) : ByteArray := ⟨Array.ofFn fun i : Fin 16 => dig (nib n (15 - i.val))⟩
theorem hexS_size (n : Nat) : (hexS n).size = 16 := by
  show (Array.ofFn _).size = 16
  simp
theorem hexS_get (n i : Nat) (h : i < (hexS n).size) : (hexS n)[i] = dig (nib n (15 - i)) := by
  exact Array.getElem_ofFn (f := fun i : Fin 16 => dig (nib n (15 - i.val))) h
def hexv (n k : Nat) : Value := .int .u8 ((dig (nib n k)).toNat : Int)
theorem tbl_val (n k : Nat) (h : nib n k < tbl.size) : Value.int .u8 ((tbl[nib n k]).toNat : Int) = hexv n k := by rw [dig_get]; rfl

/-- A block that holds just these cells, none of them frozen. -/
def Row (w : World) (g : Nat) (t : TypeId) (cs : Array Value) : Prop := w.heap[g]? = some (.cells cs t (0, 0))

section
variable {w w' : World} {g : Nat} {t : TypeId} {cs : Array Value}
theorem Row.lt (h : Row w g t cs) : g < w.heap.size := by
  by_cases hl : g < w.heap.size
  · exact hl
  · have h' : w.heap[g]? = some (.cells cs t (0, 0)) := h
    rw [Array.getElem?_eq_none (by omega)] at h'
    cases h'
theorem Row.cell (h : Row w g t cs) (i : Nat) : w.cell? ⟨g, i, none⟩ = cs[i]? := cell_of_row w g i cs t (0, 0) h
theorem Row.free (h : Row w g t cs) (i : Nat) : w.frozen? ⟨g, i, none⟩ = false := frozen_of_row w g i cs t h
theorem Row.new (w : World) (t : TypeId) (cs : Array Value) : Row (w.alloc (.cells cs t)) w.heap.size t cs := heap_alloc_new w _
theorem Row.alloc (h : Row w g t cs) (o : Obj) : Row (w.alloc o) g t cs := (Below.heap_alloc w o g h.lt).trans h
theorem Row.set (h : Row w g t cs) (i : Nat) (u : Value) : Row (w.setCell ⟨g, i, none⟩ u) g t (cs.setIfInBounds i u) := heap_setCell_same w g i cs t u h
theorem Row.other (h : Row w g t cs) {p : Addr} (hp : g ≠ p.block) (u : Value) : Row (w.setCell p u) g t cs := (heap_setCell_other w p g u hp).trans h
theorem Row.below {B : Nat} (h : Row w g t cs) (hb : Below B w w') (hg : g < B) : Row w' g t cs := (hb.block g hg).trans h
theorem Row.setRow (h : Row w g t cs) (ds : Array Value) : Row (w.setRow g ds) g t ds := setRow_heap w g cs ds t (0, 0) h
end

/-- An array of which those places are filled that p says. -/
def part (n : Nat) (p : Nat → Bool) (f : Nat → Value) (z : Value) : Array Value := Array.ofFn fun i : Fin n => if p i.val then f i.val else z
theorem part_size (n : Nat) (p : Nat → Bool) (f : Nat → Value) (z : Value) : (part n p f z).size = n := by simp [part]
theorem part_set {n k : Nat} {p q : Nat → Bool} {f : Nat → Value} {z : Value} (hq : ∀ i, i < n → q i = (p i || i == k)) : (part n p f z).setIfInBounds k (f k) = part n q f z := by
  apply Array.ext
  · simp [part]
  · intro i h1 h2
    have hi : i < n := by simpa [part] using h2
    have hr : (part n q f z)[i] = if q i then f i else z := by simp [part]
    have hl : ((part n p f z).setIfInBounds k (f k))[i] = if k = i then f k else if p i then f i else z := by
      rw [Array.getElem_setIfInBounds]
      · simp [part]
      · simpa [part] using hi
    rw [hl, hr, hq i hi]
    by_cases e : k = i
    · subst e; simp
    · have e' : (i == k) = false := by simp [Ne.symm e]
      simp [e, e']
theorem part_get {n k : Nat} {p : Nat → Bool} {f : Nat → Value} {z : Value} (hk : k < n) : (part n p f z)[k]? = some (if p k then f k else z) := by
  simp [part, hk]

theorem part_next (n k : Nat) (f : Nat → Value) (z : Value) : (part n (fun i => decide (i < k)) f z).setIfInBounds k (f k) = part n (fun i => decide (i < k + 1)) f z :=
  part_set (by
    intro i _
    rw [Bool.eq_iff_iff]
    simp
    omega)
theorem part_back (m k : Nat) (f : Nat → Value) (z : Value) (hk : k ≤ m) : (part (m + 1) (fun i => decide (m - i < k)) (fun i => f (m - i)) z).setIfInBounds (m - k) (f k) = part (m + 1) (fun i => decide (m - i < k + 1)) (fun i => f (m - i)) z := by
  have h := part_set (n := m + 1) (k := m - k) (p := fun i => decide (m - i < k)) (q := fun i => decide (m - i < k + 1)) (f := fun i => f (m - i)) (z := z) (by
    intro i hi
    rw [Bool.eq_iff_iff]
    simp
    omega)
  rw [show m - (m - k) = k from by omega] at h
  exact h
theorem part_none (n : Nat) {p : Nat → Bool} (f : Nat → Value) (z : Value) (hp : ∀ i, p i = false) : part n p f z = Array.replicate n z := by
  apply Array.ext
  · simp [part]
  · intro i h1 h2
    simp [part, hp]
theorem part_all {n : Nat} {p : Nat → Bool} (f : Nat → Value) (z : Value) (hp : ∀ i, i < n → p i = true) : part n p f z = Array.ofFn fun i : Fin n => f i.val := by
  apply Array.ext
  · simp [part]
  · intro i h1 h2
    simp [part, hp i (by simpa [part] using h1)]

/-- A word's eight bytes, as an array. -/
def bytes8 (n : Nat) : Array Value := Array.ofFn fun i : Fin 8 => bv (byt n i.val)
theorem bytes8_size (n : Nat) : (bytes8 n).size = 8 := by simp [bytes8]
theorem bytes8_one (n : Nat) : (bytes8 n).all (·.oneCell') = true := by
  rw [Array.all_eq_true]
  intro i hi
  simp [bytes8, bv, Value.oneCell']
theorem size23 : (Try.prog.info? 23).map (·.size) = some 8 := by kernel_rfl
theorem bytes8_fit (n : Nat) : (Try.prog.info? 23).map (·.size) = some (bytes8 n).size := by rw [bytes8_size]; exact size23
theorem bytes8_old (n : Nat) : (Array.replicate 8 (bv 0)).size = (bytes8 n).size := by rw [bytes8_size]; rfl

/-- The word of bytes, the lowest one first; of the first k of them. -/
def joinN : List Nat → Nat
  | [] => 0
  | b :: t => b + 256 * joinN t
def joinTo (l : List Nat) (k : Nat) : Nat := joinN (l.take k)
def Byts (l : List Nat) : Prop := ∀ b ∈ l, b < 256
theorem joinN_lt : ∀ l : List Nat, Byts l → joinN l < 256 ^ l.length
  | [], _ => by simp [joinN]
  | b :: t, h => by
    have h1 := h b (by simp)
    have h2 := joinN_lt t (fun x hx => h x (by simp [hx]))
    simp only [joinN, List.length_cons, Nat.pow_succ]
    omega
theorem joinN_snoc : ∀ (l : List Nat) (b : Nat), joinN (l ++ [b]) = joinN l + b * 256 ^ l.length
  | [], b => by simp [joinN]
  | c :: t, b => by
    have h := joinN_snoc t b
    simp only [List.cons_append, joinN, h, List.length_cons, Nat.pow_succ, Nat.mul_add]
    have e : 256 * (b * 256 ^ t.length) = b * (256 ^ t.length * 256) := by rw [Nat.mul_comm 256, Nat.mul_assoc]
    omega
theorem joinTo_zero (l : List Nat) : joinTo l 0 = 0 := by simp [joinTo, joinN]
theorem joinTo_all (l : List Nat) : joinTo l l.length = joinN l := by simp [joinTo]
theorem joinTo_succ (l : List Nat) (k : Nat) (h : k < l.length) : joinTo l (k + 1) = joinTo l k + l[k] * 256 ^ k := by
  unfold joinTo
  rw [List.take_succ_eq_append_getElem h, joinN_snoc, List.length_take, Nat.min_eq_left (by omega)]
theorem joinTo_lt (l : List Nat) (k : Nat) (hl : Byts l) (h : k ≤ l.length) : joinTo l k < 256 ^ k := by
  have := joinN_lt (l.take k) (fun b hb => hl b (List.mem_of_mem_take hb))
  rwa [List.length_take, Nat.min_eq_left h] at this
theorem pow_le8 {k : Nat} (h : k ≤ 8) : 256 ^ k ≤ 18446744073709551616 := Nat.pow_le_pow_right (n := 256) (by decide) h
theorem or_shift (x b k : Nat) (hx : x < 256 ^ k) : x ||| b * 256 ^ k = x + b * 256 ^ k := by
  have e : 256 ^ k = 2 ^ (8 * k) := by rw [Nat.pow_mul]
  rw [e] at hx ⊢
  rw [Nat.or_comm, Nat.mul_comm, ← Nat.two_pow_add_eq_or_of_lt hx, Nat.add_comm]
theorem joinTo_or (l : List Nat) (k : Nat) (hl : Byts l) (h : k < l.length) (h8 : k < 8) :
    bits .or .u64 (joinTo l k : Int) (IntKind.u64.wrap ((l[k] : Int) * 2 ^ (8 * k))) = (joinTo l (k + 1) : Int) := by
  have hb : l[k] < 256 := hl _ (List.getElem_mem h)
  have hx := joinTo_lt l k hl (Nat.le_of_lt h)
  have hp := pow_le8 (k := k + 1) (by omega)
  have hp0 := pow_le8 (k := k) (by omega)
  have hm : l[k] * 256 ^ k < 256 ^ (k + 1) := by rw [Nat.pow_succ, Nat.mul_comm]; exact Nat.mul_lt_mul_of_pos_left hb (Nat.pow_pos (by decide))
  rw [pow8, ← Int.natCast_mul, IntKind.wrap_u64, show ((l[k] * 256 ^ k : Nat) : Int) % 18446744073709551616 = ((l[k] * 256 ^ k : Nat) : Int) from by omega]
  rw [u64_or_nat _ _ (by omega) (by omega), or_shift _ _ _ hx, joinTo_succ l k h]

/-- A text's bytes. -/
def strN (s : ByteArray) : List Nat := s.data.toList.map (·.toNat)
theorem strN_length (s : ByteArray) : (strN s).length = s.size := by simp [strN]
theorem strN_get (s : ByteArray) (k : Nat) (h : k < (strN s).length) : (strN s)[k] = (s[k]'(by rw [strN_length] at h; exact h)).toNat := by
  simp [strN]
  rfl
theorem strN_byts (s : ByteArray) : Byts (strN s) := by
  intro b hb
  simp only [strN, List.mem_map] at hb
  obtain ⟨u, _, rfl⟩ := hb
  exact u.toNat_lt
theorem strN_extract (s : ByteArray) (a b : Nat) : strN (s.extract a b) = ((strN s).drop a).take (b - a) := by
  unfold strN
  rw [Lib.extract_data, List.map_take, List.map_drop]

/-- The words of bytes, eight by eight. -/
def wordAt (l : List Nat) (j : Nat) : Nat := joinN ((l.drop (8 * j)).take 8)
def cutTo (l : List Nat) (k : Nat) : List Nat := (List.range k).map (wordAt l)
def cutN (l : List Nat) : List Nat := cutTo l ((l.length + 7) / 8)
theorem cutTo_length (l : List Nat) (k : Nat) : (cutTo l k).length = k := by simp [cutTo]
theorem cutTo_succ (l : List Nat) (k : Nat) : cutTo l (k + 1) = cutTo l k ++ [wordAt l k] := by simp [cutTo, List.range_succ]
theorem cutTo_snoc (l : List Nat) (k : Nat) : (cutTo l k).map wv ++ [wv (wordAt l k)] = (cutTo l (k + 1)).map wv := by simp [cutTo_succ]
theorem wordAt_min (l : List Nat) (k b : Nat) (hb : b = min (8 * k + 8) l.length) : joinN ((l.drop (8 * k)).take (b - 8 * k)) = wordAt l k := by
  unfold wordAt
  by_cases h : 8 * k + 8 ≤ l.length
  · rw [hb, Nat.min_eq_left h, show 8 * k + 8 - 8 * k = 8 from by omega]
  · rw [hb, Nat.min_eq_right (by omega), List.take_of_length_le (by simp), List.take_of_length_le (by simp; omega)]

theorem wv_ones (l : List Nat) : ∀ u ∈ l.map wv, u.oneCell' = true := by
  intro u hu
  simp only [List.mem_map] at hu
  obtain ⟨n, _, rfl⟩ := hu
  rfl
theorem bv_ones (l : List Nat) : ∀ u ∈ l.map bv, u.oneCell' = true := by
  intro u hu
  simp only [List.mem_map] at hu
  obtain ⟨n, _, rfl⟩ := hu
  rfl

/-- A slice's address, of a slice that reads as these values. -/
def Sl (w : World) (A : Option Addr) (xs : List Value) : Prop := ∀ i u, xs[i]? = some u → ∃ a, A = some a ∧ w.cell? (a.add i) = some u
theorem add_block (a : Addr) (n : Nat) : (a.add n).block = a.block := by unfold Addr.add; split <;> rfl
theorem add_add (a : Addr) (i j : Nat) : (a.add i).add j = a.add (i + j) := by
  unfold Addr.add
  by_cases hi : i = 0 <;> by_cases hj : j = 0 <;> simp [hi, hj, Nat.add_assoc]
theorem Sl.below {w w' : World} {A : Option Addr} {xs : List Value} (h : Sl w A xs) (hb : Below w.heap.size w w') : Sl w' A xs := by
  intro i u hu
  obtain ⟨a, e, hc⟩ := h i u hu
  exact ⟨a, e, (hb.cell (block_lt_of_cell hc)).trans hc⟩
theorem Sl.at_ {w : World} {A : Option Addr} {xs : List Value} (h : Sl w A xs) {i : Nat} (hi : i < xs.length) : ∃ a, A = some a ∧ w.cell? (a.add i) = some xs[i] := h i _ (List.getElem?_eq_getElem hi)
theorem Sl.some_ {w : World} {a : Addr} {xs : List Value} (h : Sl w (some a) xs) {i : Nat} (hi : i < xs.length) : w.cell? (a.add i) = some xs[i] := by
  obtain ⟨a', e, hc⟩ := h.at_ hi
  cases e
  exact hc
theorem Sl.sub {w : World} {a : Addr} {xs : List Value} (h : Sl w (some a) xs) (k m : Nat) : Sl w (some (a.add k)) ((xs.drop k).take m) := by
  intro i u hu
  rw [List.getElem?_take] at hu
  split at hu
  · rw [List.getElem?_drop] at hu
    obtain ⟨a', e, hc⟩ := h _ u hu
    cases e
    exact ⟨_, rfl, by rw [add_add]; exact hc⟩
  · cases hu

/-- What the call owns reads as a list. -/
theorem own_sl {w : World} {B n : Nat} {e : TypeId} {v : Value} {xs : List Value} (h : w.ownsRow B e 1 v n xs) : ∃ A cap, v = .slice A n cap ∧ n ≤ cap ∧ cap ≤ maxLen ∧ Sl w A xs ∧ xs.length = n := by
  have hl : xs.length = n := by have := h.1; omega
  rcases h.2 with ⟨rfl, rfl⟩ | ⟨g, cap, cur, rfl, _, _, hnc, hm, _, _⟩
  · refine ⟨none, 0, rfl, Nat.le_refl _, Nat.zero_le _, ?_, hl⟩
    have hx : xs = [] := List.eq_nil_of_length_eq_zero hl
    subst hx
    intro i u hu
    simp at hu
  · exact ⟨_, cap, rfl, hnc, hm, fun i u hu => ⟨_, rfl, h.cells rfl i u hu⟩, hl⟩
theorem own_below {w w' : World} {B C n : Nat} {e : TypeId} {v : Value} {xs : List Value} (h : w.ownsRow B e 1 v n xs) (hb : Below C w w') (hC : ∀ g, v.ownBlock = some g → g < C) : w'.ownsRow B e 1 v n xs := by
  refine ⟨h.1, ?_⟩
  rcases h.2 with h0 | ⟨g, cap, cur, rfl, hg, hh, hr⟩
  · exact .inl h0
  · exact .inr ⟨g, cap, cur, rfl, hg, (hb.block g (hC g rfl)).trans hh, hr⟩
theorem own_keep {w w' : World} {B n : Nat} {e : TypeId} {v : Value} {xs : List Value} (h : w.ownsRow B e 1 v n xs) (hb : Below w.heap.size w w') : w'.ownsRow B e 1 v n xs := own_below h hb fun g hg => (h.lt g hg).2
theorem own_mono {w : World} {B B' n : Nat} {e : TypeId} {v : Value} {xs : List Value} (h : w.ownsRow B e 1 v n xs) (hb : B' ≤ B) : w.ownsRow B' e 1 v n xs := by
  refine ⟨h.1, ?_⟩
  rcases h.2 with h0 | ⟨g, cap, cur, rfl, hg, hr⟩
  · exact .inl h0
  · exact .inr ⟨g, cap, cur, rfl, Nat.le_trans hb hg, hr⟩

/-- A text, packed. -/
def packN (s : ByteArray) : List Nat := s.size :: cutN (strN s)
theorem cutN_length (l : List Nat) : (cutN l).length = (l.length + 7) / 8 := by unfold cutN; rw [cutTo_length]
theorem packN_length (s : ByteArray) : (packN s).length = 1 + (s.size + 7) / 8 := by
  unfold packN
  rw [List.length_cons, cutN_length, strN_length]
  omega

/-- An integer that fits a word is one. -/
theorem wf_nat {a : Int} (h : (Lit.int .u64 a).wf = true) : ∃ n : Nat, a = (n : Int) ∧ n < 18446744073709551616 := by
  simp only [Lit.wf, Bool.and_eq_true, decide_eq_true_eq] at h
  have h1 : (0 : Int) ≤ a := h.1
  have h2 : a ≤ 18446744073709551615 := h.2
  exact ⟨a.toNat, by omega, by omega⟩
/-- What a walk is told of a slice of integers that came in: it is nil, or it leads to a row of its capacity's cells, each of them fit. -/
def InRow (k : IntKind) (w : World) (a : Option Addr) (len cap : Nat) (zs : List Int) : Prop :=
  (a = none ∧ len = 0 ∧ cap = 0 ∧ zs = []) ∨
  ∃ x, a = some x ∧ len ≤ cap ∧ cap ≤ maxLen ∧ zs.length = cap ∧ (∀ i, i < zs.length → w.cell? (x.add i) = some (.int k (zs.getD i 0))) ∧ ∀ n ∈ zs, (Lit.int k n).wf = true
theorem nats_of {k : IntKind} {zs : List Int} {b : Nat} (h : ∀ z ∈ zs, 0 ≤ z ∧ z < (b : Int)) : (zs.map Int.toNat).map (fun n : Nat => Value.int k (n : Int)) = zs.map (Value.int k) ∧ ∀ n ∈ zs.map Int.toNat, n < b := by
  constructor
  · rw [List.map_map]
    apply List.map_congr_left
    intro z hz
    have := h z hz
    show Value.int k ((z.toNat : Nat) : Int) = _
    rw [Int.toNat_of_nonneg this.1]
  · intro n hn
    simp only [List.mem_map] at hn
    obtain ⟨z, hz, rfl⟩ := hn
    have := h z hz
    omega
theorem InRow.read {k : IntKind} {w : World} {a : Option Addr} {len cap : Nat} {zs : List Int} {b : Nat} (h : InRow k w a len cap zs) (hb : ∀ n, (Lit.int k n).wf = true → 0 ≤ n ∧ n < (b : Int)) :
    ∃ l : List Nat, l.length = len ∧ (∀ n ∈ l, n < b) ∧ Sl w a (l.map fun n : Nat => Value.int k (n : Int)) ∧ len ≤ cap ∧ (a = none → len = 0 ∧ cap = 0) := by
  rcases h with ⟨rfl, rfl, rfl, rfl⟩ | ⟨x, rfl, hl, hm, hz, hc, hw⟩
  · exact ⟨[], rfl, (by simp), (by intro i u hu; simp at hu), Nat.le_refl _, fun _ => ⟨rfl, rfl⟩⟩
  · have hn := nats_of (k := k) (zs := zs.take len) (b := b) (fun z hz => hb z (hw z (List.mem_of_mem_take hz)))
    refine ⟨(zs.take len).map Int.toNat, by simp; omega, hn.2, ?_, hl, fun e => by cases e⟩
    rw [hn.1]
    intro i u hu
    rw [List.getElem?_map, List.getElem?_take] at hu
    split at hu
    · have hi : i < zs.length := by omega
      rw [List.getElem?_eq_getElem hi] at hu
      simp only [Option.map_some, Option.some.injEq] at hu
      subst hu
      refine ⟨x, rfl, ?_⟩
      rw [hc i hi, List.getD_eq_getElem?_getD, List.getElem?_eq_getElem hi, Option.getD_some]
    · simp at hu
theorem wf_byte (n : Int) (h : (Lit.int .u8 n).wf = true) : 0 ≤ n ∧ n < ((256 : Nat) : Int) := by
  simp only [Lit.wf, Bool.and_eq_true, decide_eq_true_eq] at h
  have h1 : (0 : Int) ≤ n := h.1
  have h2 : n ≤ 255 := h.2
  omega
theorem wf_word (n : Int) (h : (Lit.int .u64 n).wf = true) : 0 ≤ n ∧ n < ((18446744073709551616 : Nat) : Int) := by
  simp only [Lit.wf, Bool.and_eq_true, decide_eq_true_eq] at h
  have h1 : (0 : Int) ≤ n := h.1
  have h2 : n ≤ 18446744073709551615 := h.2
  omega

end Go.Proofs.Ytjpdmdplcecglaa
