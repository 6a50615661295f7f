/- A node's text: of any node of a level from 0 on, of words; where the library's table of powers lies as it was laid. -/
import Derived.Test.YtaegaeljakdffaaDoorN8Act
import Derived.Test.YtaegaeljakdffaaDoorN8Fmt
import Derived.Test.YtaegaeljakdffaaDoorN8Line
import Derived.Test.YtaegaeljakdffaaDoorN8Tail
import Derived.Deep.RegionHeld3
namespace Go.Proofs.YtaegaeljakdffaaDoor
open Go.RowKit Go.Shelf
set_option linter.unusedVariables false
attribute [local go_sem] Oper.semAt_some

/-- A node of words. -/
structure Nd.Wf (n : Nd) : Prop where
  l0 : -9223372036854775808 ≤ n.l
  l1 : n.l ≤ 9223372036854775807
  lo : 0 ≤ n.lo ∧ n.lo < 18446744073709551616
  nx : 0 ≤ n.nx ∧ n.nx < 18446744073709551616
  ct : 0 ≤ n.ct ∧ n.ct < 18446744073709551616
  fi : 0 ≤ n.fi ∧ n.fi < 18446744073709551616
  ks : ∀ i, i < 8 → 0 ≤ n.key i ∧ n.key i < 18446744073709551616
  ps : ∀ i, i < 8 → 0 ≤ n.ptr i ∧ n.ptr i < 18446744073709551616
theorem itoa_any {u : Nat} (h : u < 9223372036854775808) (w : World) (htab : Pow w) : Calls Tryd.prog 7 #[.int .i64 (u : Int)] w fun e w' => e = .returned (.string (decB u)) ∧ Below w.heap.size w w' := by
  refine (strconv_Itoa (u : Int) (by omega) (by omega) w htab).mono ?_
  rintro e w' ⟨rfl, k, os, rfl⟩
  refine ⟨?_, grow_low' w k os⟩
  rw [Lib.itoa_nonneg]
  rfl
/-- An entry's words. -/
def entB (n : Nd) (p : Nat) : ByteArray := decB (n.key p).toNat ++ ⟨#[61]⟩ ++ decB (n.ptr p).toNat
/-- The words of a node's text. -/
def txtL (n : Nd) (l : List Nat) : List ByteArray := [decB n.l.toNat, decB n.lo.toNat, decB n.nx.toNat, decB n.fi.toNat] ++ l.map (entB n)
theorem txtL_snoc (n : Nd) (l : List Nat) (x : Nat) : txtL n (l ++ [x]) = txtL n l ++ [entB n x] := by simp [txtL]
theorem wp_append_own8 {P : Program} (w : World) {o : Oper} {a : Act} {K : Act → World → Prop} {Q : Exit → Act → World → Prop} (s x : Operand) (t : TypeId)
    (ho : o.op = .call { callee := .builtin .append, args := #[s, x], argTypes := #[t, t] })
    (base : Nat) (e : TypeId) (i : TypeInfo) (z : Value) (size bytes : Nat) (ht : P.underlying t = some (.slice e)) (hi : P.info? e = some i) (hz : i.zero = some z) (hsize : i.size = size) (hby : i.bytes = bytes) (hzs : z.cells.size = size) (hsz : 0 < size)
    (v : Value) (n : Nat) (xs : List Value) (hs : a.eval s = v) (hown : w.ownsRow base e size v n xs)
    (ad : Addr) (m c : Nat) (news : List Value) (hx : a.eval x = .slice (some ad) m c) (hl : news.length = m * size) (hnews : ∀ j u, news[j]? = some u → w.cell? (ad.add j) = some u) (h1 : ∀ u ∈ news, u.oneCell' = true)
    (h63 : n + m ≤ maxLen) (hbytes : (n + m) * bytes ≤ 140737488355328) (hbase : base ≤ w.heap.size)
    (h : ∀ v' w', w'.ownsRow base e size v' (n + m) (xs ++ news) → w.grownBy w' v.ownBlock → K (a.put o.dst v') w') : o.wp P a w K Q := by
  obtain ⟨v', w', hr, h2, h3, _⟩ := run_append_own_at (P := P) w base t o.type e i z size bytes ht hi hz hsize hby hzs hsz v n xs hown ad m c news hl hnews h1 h63 hbytes hbase
  unfold Oper.wp execOp
  simp only [ho, resolve, invoke, builtin, Sem.run_bind, Sem.run_pure, Result.andThen_ok, List.map_toArray, List.map_cons, List.map_nil, hs, hx, hr]
  exact h v' w' h2 h3
def TxtI (w : World) (n : Nd) (gc T : Nat) (q : Nat) (pre : List Nat) (W : World) : Prop :=
  T ≤ q ∧ T ≤ W.heap.size ∧ gc < T ∧ w.heap.size ≤ gc ∧ Below w.heap.size w W ∧ NdAt W (T - 1) n ∧
  ∃ v, Row W gc 34 #[v] ∧ W.ownsRow w.heap.size 9 1 v (pre.length + 4) ((txtL n pre).map Value.string) ∧ ∀ g, v.ownBlock = some g → g < q
theorem ownS_tag {w : World} {B s n g : Nat} {e : TypeId} {v : Value} {xs : List Value} (h : w.ownsRow B e s v n xs) (hg : v.ownBlock = some g) : ∃ cs, w.heap[g]? = some (.cells cs e (0, 0)) := by
  rcases h.2 with ⟨rfl, _⟩ | ⟨g', cap, cur, rfl, _, hh, _⟩
  · cases hg
  · have : g' = g := by injection hg
    subst this
    exact ⟨_, hh⟩
theorem tag_ne' {w : World} {g g' : Nat} {e t : TypeId} {cs ds : Array Value} (h : w.heap[g]? = some (.cells cs e (0, 0))) (h' : Row w g' t ds) (hne : e ≠ t) : g ≠ g' := by
  rintro rfl
  rw [show w.heap[g]? = some (.cells ds t (0, 0)) from h'] at h
  cases h
  exact hne rfl
abbrev TxS (Wx : World) (b : Nat) (t0 t1 t2 t4 : Nat) (W' : World) : Prop := W'.cell? ⟨b, 0, none⟩ = some (.int .i64 (t0 : Int)) ∧ W'.cell? ⟨b, 1, none⟩ = some (.int .u64 (t1 : Int)) ∧ W'.cell? ⟨b, 2, none⟩ = some (.int .u64 (t2 : Int)) ∧ W'.cell? ⟨b, 4, none⟩ = some (.int .u64 (t4 : Int)) ∧ Below Wx.heap.size Wx W'
theorem TxS.low {Wx W' : World} {b t0 t1 t2 t4 : Nat} (h : TxS Wx b t0 t1 t2 t4 W') : Below Wx.heap.size Wx W' := h.2.2.2.2
def GcAt (W : World) (g : Nat) : Prop := Row W g 34 #[.slice none 0 0]
theorem gc_new {V W : World} (hb : Below (V.alloc (.cells #[.slice none 0 0] 34)).heap.size (V.alloc (.cells #[.slice none 0 0] 34)) W) : GcAt W V.heap.size := (Row.new V 34 #[.slice none 0 0]).below hb (by simp)
theorem gc_newd {V W : World} (hb : Below (V.alloc (.cells #[.slice none 0 0] 34)).drew.heap.size (V.alloc (.cells #[.slice none 0 0] 34)).drew W) : GcAt W V.heap.size := gc_new (low_and (drew_low _) hb)
theorem gc_low {V W : World} {g : Nat} (hb : Below V.heap.size V W) (h : GcAt V g) : GcAt W g := Row.below h hb (Row.lt h)
theorem gc_cell {W : World} {g : Nat} (h : GcAt W g) : W.cell? ⟨g, 0, none⟩ = some (.slice none 0 0) := Row.cell h 0
theorem gc_free {W : World} {g : Nat} (h : GcAt W g) : W.frozen? ⟨g, 0, none⟩ = false := Row.free h 0
theorem gc_lt {W : World} {g : Nat} (h : GcAt W g) : g < W.heap.size := Row.lt h
theorem fin_a {Wx wn : World} (cs : Array Value) (hb : Below Wx.heap.size Wx wn) : Below Wx.heap.size Wx ((wn.alloc (.cells cs 9)).alloc (.cells #[.slice (some ⟨wn.heap.size, 0, none⟩) 4 4] 34)) ∧ Wx.heap.size ≤ wn.heap.size + 1 ∧ Wx.heap.size ≤ wn.heap.size ∧ Row ((wn.alloc (.cells cs 9)).alloc (.cells #[.slice (some ⟨wn.heap.size, 0, none⟩) 4 4] 34)) wn.heap.size 9 cs ∧ Row ((wn.alloc (.cells cs 9)).alloc (.cells #[.slice (some ⟨wn.heap.size, 0, none⟩) 4 4] 34)) (wn.heap.size + 1) 34 #[.slice (some ⟨wn.heap.size, 0, none⟩) 4 4] := by
  have h := hb.size
  refine ⟨low_and (low_and hb (alloc_low _ _)) (alloc_low _ _), by omega, h, (Row.new _ _ _).alloc _, ?_⟩
  have := Row.new (wn.alloc (.cells cs 9)) 34 #[.slice (some ⟨wn.heap.size, 0, none⟩) 4 4]
  simpa only [World.size_alloc] using this
theorem fin_b {Wx wn : World} (cs : Array Value) (v : Value) (hb : Below Wx.heap.size Wx wn) : Below Wx.heap.size Wx ((wn.alloc (.cells #[v] 34)).alloc (.cells cs 9)) ∧ Wx.heap.size ≤ wn.heap.size ∧ Wx.heap.size ≤ wn.heap.size + 1 ∧ Row ((wn.alloc (.cells #[v] 34)).alloc (.cells cs 9)) (wn.heap.size + 1) 9 cs ∧ Row ((wn.alloc (.cells #[v] 34)).alloc (.cells cs 9)) wn.heap.size 34 #[v] := by
  have h := hb.size
  refine ⟨low_and (low_and hb (alloc_low _ _)) (alloc_low _ _), h, by omega, ?_, (Row.new _ _ _).alloc _⟩
  have := Row.new (wn.alloc (.cells #[v] 34)) 9 cs
  simpa only [World.size_alloc] using this
theorem fin_c {Wx wn : World} {g : Nat} (cs : Array Value) (v : Value) (hq : GcAt wn g) (hb : Below Wx.heap.size Wx wn) (hg : Wx.heap.size ≤ g) : Below Wx.heap.size Wx ((wn.setCell ⟨g, 0, none⟩ v).alloc (.cells cs 9)) ∧ Wx.heap.size ≤ g ∧ Wx.heap.size ≤ wn.heap.size ∧ Row ((wn.setCell ⟨g, 0, none⟩ v).alloc (.cells cs 9)) wn.heap.size 9 cs ∧ Row ((wn.setCell ⟨g, 0, none⟩ v).alloc (.cells cs 9)) g 34 #[v] := by
  have h := hb.size
  refine ⟨low_and (hb.setCell (p := ⟨g, 0, none⟩) hg v) (alloc_low _ _), hg, h, ?_, (Row.set hq 0 v).alloc _⟩
  have := Row.new (wn.setCell ⟨g, 0, none⟩ v) 9 cs
  simpa using this
theorem dec_size {u : Nat} (h : u < 18446744073709551616) : (decB u).size ≤ 20 := by
  have h1 : (decB u).size = (Lib.decDigits u).length := by simp [decB, ByteArray.size]
  rw [h1, Lib.decDigits_length]
  by_cases h0 : u < 10
  · rw [Lib.nDigits_small h0]; omega
  · have := Lib.numDigits_eq u (by omega) h
    split at this <;> omega
theorem lens_le (M : Nat) : ∀ l : List (List UInt8), (∀ x ∈ l, x.length ≤ M) → Lib.lens l ≤ M * l.length
  | [], _ => by simp [Lib.lens]
  | a :: l, h => by
    have h1 := h a (by simp)
    have h2 := lens_le M l fun x hx => h x (by simp [hx])
    have : Lib.lens (a :: l) = a.length + Lib.lens l := by simp [Lib.lens]
    rw [this, List.length_cons, Nat.mul_add]
    omega
theorem ent_size {n : Nd} (hw : n.Wf) {p : Nat} (hp : p < 8) : (entB n p).size ≤ 41 := by
  unfold entB
  rw [ByteArray.size_append, ByteArray.size_append]
  have h1 := hw.ks p hp
  have h2 := hw.ps p hp
  have := dec_size (u := (n.key p).toNat) (by omega)
  have := dec_size (u := (n.ptr p).toNat) (by omega)
  have : (⟨#[61]⟩ : ByteArray).size = 1 := rfl
  omega
theorem txt_len {n : Nd} (hw : n.Wf) (hl : 0 ≤ n.l) : (Lib.join ((txtL n n.vp).map (·.data.toList)) [32]).length ≤ 100000 := by
  have hsz : ∀ b ∈ txtL n n.vp, b.size ≤ 41 := by
    intro b hb
    unfold txtL at hb
    have h0 := hw.l1
    have h1 := hw.lo
    have h2 := hw.nx
    have h3 := hw.fi
    rcases List.mem_append.1 hb with hb | hb
    · simp only [List.mem_cons, List.not_mem_nil, or_false] at hb
      rcases hb with rfl | rfl | rfl | rfl
      · exact Nat.le_trans (dec_size (by omega)) (by omega)
      · exact Nat.le_trans (dec_size (by omega)) (by omega)
      · exact Nat.le_trans (dec_size (by omega)) (by omega)
      · exact Nat.le_trans (dec_size (by omega)) (by omega)
    · obtain ⟨p, hp, rfl⟩ := List.mem_map.1 hb
      exact ent_size hw (n.vp_lt8 hp)
  have hlen : (txtL n n.vp).length ≤ 12 := by
    have := n.vp_length
    simp [txtL]
    omega
  have hL := lens_le 41 ((txtL n n.vp).map (·.data.toList)) (fun x hx => by
    obtain ⟨b, hb, rfl⟩ := List.mem_map.1 hx
    have := hsz b hb
    show b.data.toList.length ≤ 41
    rw [Array.length_toList]
    exact this)
  generalize hX : (txtL n n.vp).map (·.data.toList) = X at *
  have hXl : X.length ≤ 12 := by rw [← hX, List.length_map]; exact hlen
  cases X with
  | nil => rw [Lib.join_nil]; exact Nat.zero_le _
  | cons a X =>
    rw [Lib.join_length]
    rw [List.length_cons] at hL hXl
    have h1 : ([32] : List UInt8).length = 1 := rfl
    rw [h1]
    omega
theorem infoString : (Tryd.prog.info? 9).map (fun i => (i.zero, i.size, i.bytes)) = some (some (.string ⟨#[]⟩), 1, 16) := by kernel_rfl
set_option maxRecDepth 100000 in
set_option maxHeartbeats 4000000 in
theorem nText_any (n : Nd) (hw : n.Wf) (hl : 0 ≤ n.l) (w : World) (htab : Pow w) : Calls Tryd.prog 4 #[n.V] w fun e W' =>
    e = .returned (.string ⟨(Lib.join ((txtL n n.vp).map (·.data.toList)) [32]).toArray⟩) ∧ Below w.heap.size w W' := by
  obtain ⟨Wx, hWx⟩ : ∃ Wx, Wx = w.alloc (.cells n.cl.toArray 27) := ⟨_, rfl⟩
  have hbx : Below w.heap.size w Wx := by rw [hWx]; exact alloc_low _ _
  have r0 : NdAt Wx w.heap.size n := by rw [hWx]; exact Row.new _ _ _
  have c0 : Wx.cell? ⟨w.heap.size, 0, none⟩ = some (.int .i64 ((n.l.toNat : Nat) : Int)) := (ndAt_at r0 0).trans (by rw [Int.toNat_of_nonneg hl]; rfl)
  have c1 : Wx.cell? ⟨w.heap.size, 1, none⟩ = some (.int .u64 ((n.lo.toNat : Nat) : Int)) := (ndAt_at r0 1).trans (by rw [Int.toNat_of_nonneg hw.lo.1]; rfl)
  have c2 : Wx.cell? ⟨w.heap.size, 2, none⟩ = some (.int .u64 ((n.nx.toNat : Nat) : Int)) := (ndAt_at r0 2).trans (by rw [Int.toNat_of_nonneg hw.nx.1]; rfl)
  have c4 : Wx.cell? ⟨w.heap.size, 4, none⟩ = some (.int .u64 ((n.fi.toNat : Nat) : Int)) := (ndAt_at r0 4).trans (by rw [Int.toNat_of_nonneg hw.fi.1]; rfl)
  have b0 : n.l.toNat < 9223372036854775808 := by have := hw.l1; omega
  have b1 : n.lo.toNat < 18446744073709551616 := by have := hw.lo; omega
  have b2 : n.nx.toNat < 18446744073709551616 := by have := hw.nx; omega
  have b4 : n.fi.toNat < 18446744073709551616 := by have := hw.fi; omega
  have HL4 := Lib.hid (show txtL n [] = [decB n.l.toNat, decB n.lo.toNat, decB n.nx.toNat, decB n.fi.toNat] from rfl)
  have hT : ∀ W', Below Wx.heap.size Wx W' → Pow W' := fun W' hb => pow_low (pow_low htab hbx) hb
  have HI := Lib.hid (fun W' (hb : Below Wx.heap.size Wx W') => itoa_any b0 W' (hT W' hb))
  have HU := Lib.hid (fun W' (hb : Below Wx.heap.size Wx W') => digU_any b1 W' (hT W' hb))
  have HA2 := Lib.hid (fun W' (hb : Below Wx.heap.size Wx W') => digA_any b2 W' (hT W' hb))
  have HA4 := Lib.hid (fun W' (hb : Below Wx.heap.size Wx W') => digA_any b4 W' (hT W' hb))
  have STAY := Lib.hid (fun W' (hb : Below Wx.heap.size Wx W') => And.intro ((hb.cell (p := ⟨w.heap.size, 0, none⟩) (Wx.block_lt_of_cell? _ c0)).trans c0) (And.intro ((hb.cell (p := ⟨w.heap.size, 1, none⟩) (Wx.block_lt_of_cell? _ c1)).trans c1) (And.intro ((hb.cell (p := ⟨w.heap.size, 2, none⟩) (Wx.block_lt_of_cell? _ c2)).trans c2) (And.intro ((hb.cell (p := ⟨w.heap.size, 4, none⟩) (Wx.block_lt_of_cell? _ c4)).trans c4) hb))))
  have HWx := Lib.hid hWx
  have HR0 := Lib.hid r0
  have HBx := Lib.hid hbx
  have HW := Lib.hid hw
  generalize n.l.toNat = t0 at *
  generalize n.lo.toNat = t1 at *
  generalize n.nx.toNat = t2 at *
  generalize n.fi.toNat = t4 at *
  have HLen := Lib.hid (txt_len hw hl)
  clear hWx r0 c0 c1 c2 c4 hT hbx hw hl
  refine (callsIn_wide (n := 6)).1 ?_
  refine callsIn_of_wp_marks Tryd.func4 rfl trivial ?_ rfl
  simp only [Tryd.ntmps4, List.size_toArray, List.length_cons, List.length_nil, Nat.reduceAdd, Nat.reduceSub, Array.replicate_succ, Array.replicate_zero, List.push_toArray, List.append_toArray, List.nil_append, List.cons_append]
  gi_wp2
  rw [← HWx.out]
  refine wpIn_wide.2 ?_
  refine wp_mono (Q := fun e a' w' => e = .normal ∧ ∃ gc gl, a' = { tmps := #[n.V, .pointer (some ⟨w.heap.size, 0, none⟩), .string ⟨#[]⟩, .pointer (some ⟨gc, 0, none⟩), undef, undef, .pointer (some ⟨w.heap.size, 0, none⟩), .int .i64 (t0 : Int), .string (decB t0), .pointer (some ⟨w.heap.size, 1, none⟩), .int .u64 (t1 : Int), .string (decB t1), .pointer (some ⟨w.heap.size, 2, none⟩), .int .u64 (t2 : Int), .string (decB t2), .pointer (some ⟨w.heap.size, 4, none⟩), .int .u64 (t4 : Int), .string (decB t4), .slice (some ⟨gl, 0, none⟩) 4 4, undef, undef, undef, undef, undef, undef, undef, undef, undef, undef, undef, undef, undef, undef, undef, undef, undef], defers := [] } ∧
    Below Wx.heap.size Wx w' ∧ Wx.heap.size ≤ gc ∧ Wx.heap.size ≤ gl ∧ Row w' gl 9 #[.string (decB t0), .string (decB t1), .string (decB t2), .string (decB t4)] ∧ Row w' gc 34 #[.slice (some ⟨gl, 0, none⟩) 4 4]) ?reg ?cont
  case reg =>
    go_region_held3 (fun W' => W'.cell? ⟨w.heap.size, 0, none⟩ = some (.int .i64 (t0 : Int)) ∧ W'.cell? ⟨w.heap.size, 1, none⟩ = some (.int .u64 (t1 : Int)) ∧ W'.cell? ⟨w.heap.size, 2, none⟩ = some (.int .u64 (t2 : Int)) ∧ W'.cell? ⟨w.heap.size, 4, none⟩ = some (.int .u64 (t4 : Int)) ∧ Below Wx.heap.size Wx W')
      ((refine STAY.out _ ?_; repeat (first | exact Below.refl _ _ | exact TxS.low (by assumption) | refine low_and ?_ (drew_low _) | refine low_and ?_ (alloc_low _ _) | refine low_and ?_ (by assumption) | refine Below.setCell ?_ ?_ _ | refine Below.size (B := Wx.heap.size) (w := Wx) ?_)))
      (first | (go_at_call 7; refine (HI.out _ (TxS.low (by assumption))).mono ?_; rintro e wn ⟨rfl, hb⟩; first | (have hq := gc_newd hb; have hqc := gc_cell hq; have hqf := gc_free hq; have hql := gc_lt hq) | (have hq := gc_new hb; have hqc := gc_cell hq; have hqf := gc_free hq; have hql := gc_lt hq) | (have hq := gc_low hb (by assumption); have hqc := gc_cell hq; have hqf := gc_free hq; have hql := gc_lt hq) | skip) | (go_at_call 8; refine (HU.out _ (TxS.low (by assumption))).mono ?_; rintro e wn ⟨rfl, hb⟩; first | (have hq := gc_newd hb; have hqc := gc_cell hq; have hqf := gc_free hq; have hql := gc_lt hq) | (have hq := gc_new hb; have hqc := gc_cell hq; have hqf := gc_free hq; have hql := gc_lt hq) | (have hq := gc_low hb (by assumption); have hqc := gc_cell hq; have hqf := gc_free hq; have hql := gc_lt hq) | skip) | (go_at_call 9; first | (refine (HA2.out _ (TxS.low (by assumption))).mono ?_; rintro e wn ⟨rfl, hb⟩; first | (have hq := gc_newd hb; have hqc := gc_cell hq; have hqf := gc_free hq; have hql := gc_lt hq) | (have hq := gc_new hb; have hqc := gc_cell hq; have hqf := gc_free hq; have hql := gc_lt hq) | (have hq := gc_low hb (by assumption); have hqc := gc_cell hq; have hqf := gc_free hq; have hql := gc_lt hq) | skip) | (refine (HA4.out _ (TxS.low (by assumption))).mono ?_; rintro e wn ⟨rfl, hb⟩; first | (have hq := gc_newd hb; have hqc := gc_cell hq; have hqf := gc_free hq; have hql := gc_lt hq) | (have hq := gc_new hb; have hqc := gc_cell hq; have hqf := gc_free hq; have hql := gc_lt hq) | (have hq := gc_low hb (by assumption); have hqc := gc_cell hq; have hqf := gc_free hq; have hql := gc_lt hq) | skip)))
    all_goals (first
      | exact ⟨rfl, _, _, rfl, fin_a _ (by repeat (first | exact Below.refl _ _ | exact TxS.low (by assumption) | refine low_and ?_ (drew_low _) | refine low_and ?_ (alloc_low _ _) | refine low_and ?_ (by assumption)))⟩
      | exact ⟨rfl, _, _, rfl, fin_b _ _ (by repeat (first | exact Below.refl _ _ | exact TxS.low (by assumption) | refine low_and ?_ (drew_low _) | refine low_and ?_ (alloc_low _ _) | refine low_and ?_ (by assumption)))⟩
      | exact ⟨rfl, _, _, rfl, fin_c _ _ (by assumption) (by repeat (first | exact Below.refl _ _ | exact TxS.low (by assumption) | refine low_and ?_ (drew_low _) | refine low_and ?_ (alloc_low _ _) | refine low_and ?_ (by assumption))) (by refine Below.size (B := Wx.heap.size) (w := Wx) ?_; repeat (first | exact Below.refl _ _ | exact TxS.low (by assumption) | refine low_and ?_ (drew_low _) | refine low_and ?_ (alloc_low _ _) | refine low_and ?_ (by assumption)))⟩)
  case cont =>
    rintro e a' Wp ⟨rfl, gc, gl, rfl, hbp, hgc, hgl, ryl, ryc⟩
    have hsx : Wx.heap.size = w.heap.size + 1 := by rw [HWx.out]; simp
    have r0 := HR0.out.below hbp HR0.out.lt
    have hbw := low_and HBx.out hbp
    have HRy := Lib.hid r0
    obtain ⟨bb, hbb⟩ : ∃ bb, bb = Wp.heap.size := ⟨_, rfl⟩
    have hcl : gc < bb := by rw [hbb]; exact ryc.lt
    obtain ⟨W0, hW0⟩ : ∃ W0, W0 = Wp.alloc (.cells n.cl.toArray 27) := ⟨_, rfl⟩
    have h4 : NdAt W0 bb n := by rw [hW0, hbb]; exact Row.new Wp 27 n.cl.toArray
    have hb0 : Below Wp.heap.size Wp W0 := by rw [hW0]; exact alloc_low _ _
    have hs0 : W0.heap.size = bb + 1 := by rw [hW0, hbb]; simp
    have f2 := Row.below ryc hb0 ryc.lt
    have f1 := Row.below ryl hb0 ryl.lt
    have hgl' : gl < W0.heap.size := f1.lt
    have hI0 : TxtI w n gc W0.heap.size W0.heap.size [] W0 := ⟨by omega, by omega, by omega, by omega, low_and hbw hb0, by rw [hs0]; exact h4, _, f2, by
      rw [HL4.out]
      refine ⟨rfl, .inr ⟨gl, 4, _, rfl, by omega, f1, by simp, by unfold maxLen; omega, by simp, ?_⟩⟩
      rfl, fun g hg => by cases hg; dsimp only; exact hgl'⟩
    have HPW := Lib.hid htab
    have HW0 := Lib.hid hW0
    clear ryl ryc hb0 HWx HR0 HBx htab HL4 f1 f2 hbp hW0 r0 hgc hgl hbw STAY HI HU HA2 HA4
    gi_wp2_with (first | (refine wpListIn_load_mid (fun _ => trivial) rfl _ _ rfl w.heap.size 0 rfl n.cl _ (ndR HRy.out) Tryd.underlying27 rfl ndI ?_) | (refine ⟨trivial, ?_⟩; gi_at_call 10; refine (callsIn_wide.2 (valid_any n _)).mono ?_; rintro e w' ⟨rfl, rfl⟩))
    rw [← HW0.out, ← hbb]
    clear HW0 hbb HRy
    refine range_Q rfl (by omega) (gf := 23) (lb := #[.pointer (some ⟨bb, 0, none⟩)]) rfl trivial (enters_of Tryd.func23 (by kernel_rfl) rfl) (bx := bb) (by omega) (valid1_seq h4) (fun _ => rfl)
      (TxtI w n gc W0.heap.size) (fun pre W => False)
      (fun q s A B row hs hg hr => by
        obtain ⟨h1, h2, h3, h3', h5, h5', v, h6, h7, h8⟩ := hs
        exact ⟨h1, Nat.le_trans h2 hg.size, h3, h3', h5.grown hg h5.size (fun k e => by have := (hr k e).1; omega), h5'.grown hg (fun e => by have := (hr _ e.symm).1; omega), v, h6.grown hg (fun e => by have := (hr _ e.symm).1; omega), ownS_grown h7 hg (fun k e => (hr k e).2), h8⟩)
      (fun s A B row hs hg hr => hs)
      hI0
      (fun x V => { tmps := #[n.V, .pointer (some ⟨w.heap.size, 0, none⟩), .string ⟨#[]⟩, .pointer (some ⟨gc, 0, none⟩), undef, .pointer (some ⟨V.heap.size, 0, none⟩), .pointer (some ⟨w.heap.size, 0, none⟩), .int .i64 (t0 : Int), .string (decB t0), .pointer (some ⟨w.heap.size, 1, none⟩), .int .u64 (t1 : Int), .string (decB t1), .pointer (some ⟨w.heap.size, 2, none⟩), .int .u64 (t2 : Int), .string (decB t2), .pointer (some ⟨w.heap.size, 4, none⟩), .int .u64 (t4 : Int), .string (decB t4), .slice (some ⟨gl, 0, none⟩) 4 4, .agg n.cl.toArray, .func (.func 23) #[] #[.pointer (some ⟨bb, 0, none⟩)], .int .i64 (x : Int), .agg #[.int .u64 (n.key x), .int .u64 (n.ptr x)], undef, undef, undef, undef, undef, undef, undef, undef, undef, undef, undef, undef, undef], defers := [] })
      (fun x V => V.alloc (.cells #[.int .u64 (n.key x), .int .u64 (n.ptr x)] 39)) (fun x V => alloc_low _ _) ?assign ?body ?done ?stop
    case assign =>
      intro l x W K hK
      dsimp only [enc8N]
      gi_wp2
      exact hK
    case body =>
      rintro l q r pre x V W hx8 ⟨hq4, hWs, hgT, hwG, hB, hbbR, v, g3, hown, hob⟩ hqr hrV hsz hcells hlen
      have hE : Row W V.heap.size 39 #[.int .u64 (n.key x), .int .u64 (n.ptr x)] := hcells _ _ rfl (Row.new V 39 _)
      obtain ⟨vs, hvs⟩ : ∃ vs, vs = V.heap.size := ⟨_, rfl⟩
      rw [← hvs] at hE hrV
      simp only [World.size_alloc] at hsz
      rw [← hvs] at hsz
      rw [← hvs]
      have hks := HW.out.ks x hx8
      have hps := HW.out.ps x hx8
      have hent : entB n x = decB (n.key x).toNat ++ ⟨#[61]⟩ ++ decB (n.ptr x).toNat := rfl
      obtain ⟨k, hk⟩ : ∃ k : Nat, (k : Int) = n.key x := ⟨(n.key x).toNat, Int.toNat_of_nonneg hks.1⟩
      obtain ⟨y, hy⟩ : ∃ y : Nat, (y : Int) = n.ptr x := ⟨(n.ptr x).toNat, Int.toNat_of_nonneg hps.1⟩
      have hbbR : NdAt W bb n := by
        have := hbbR
        rwa [hs0, Nat.add_sub_cancel] at this
      rw [← hk, ← hy] at hE hent
      rw [← hk] at hks
      rw [← hy] at hps
      rw [Int.toNat_natCast, Int.toNat_natCast] at hent
      rw [← hk, ← hy]
      have ce0 := hE.cell 0
      have ce1 := hE.cell 1
      have ce3 := g3.cell 0
      simp only [List.getElem?_toArray, List.getElem?_cons_succ, List.getElem?_cons_zero] at ce0 ce1 ce3
      have hkl : k < 18446744073709551616 := by omega
      have hyl : y < 18446744073709551616 := by omega
      have hT : ∀ W', Below W.heap.size W W' → Pow W' := fun W' hb => pow_low HPW.out (hB.trans (hb.mono hB.size))
      have hks1 := dec_size hkl
      have hys1 := dec_size hyl
      have HU := fun W' (hb : Below W.heap.size W W') => digU_any hkl W' (hT W' hb)
      have HA := fun W' (hb : Below W.heap.size W W') => digA_any hyl W' (hT W' hb)
      obtain ⟨kb, hkb⟩ : ∃ kb, kb = decB k := ⟨_, rfl⟩
      obtain ⟨yb, hyb⟩ : ∃ yb, yb = decB y := ⟨_, rfl⟩
      rw [← hkb] at HU hent hks1
      rw [← hyb] at HA hent hys1
      have HU := Lib.hid HU
      have HA := Lib.hid HA
      have hs1 : ∀ W : World, (Op.stringOp .add kb ⟨#[61]⟩).run Tryd.prog W = .ok (.string (kb ++ ⟨#[61]⟩)) W := fun W => run_string_add_sum _ _ _ (by
        have : (⟨#[61]⟩ : ByteArray).size = 1 := rfl
        omega)
      have hs2 : ∀ W : World, (Op.stringOp .add (kb ++ ⟨#[61]⟩) yb).run Tryd.prog W = .ok (.string (kb ++ ⟨#[61]⟩ ++ yb)) W := fun W => run_string_add_sum _ _ _ (by
        have : (⟨#[61]⟩ : ByteArray).size = 1 := rfl
        rw [ByteArray.size_append]
        omega)
      have hne1 : ¬ kb.size + (⟨#[61]⟩ : ByteArray).size > 9223372036854775807 := by
        have : (⟨#[61]⟩ : ByteArray).size = 1 := rfl
        omega
      obtain ⟨m, hm⟩ : ∃ m, m = pre.length := ⟨_, rfl⟩
      have hSn0 := txtL_snoc n pre x
      rw [hent] at hSn0
      rw [← hm] at hlen hown
      have hrs : r < W.heap.size ∧ q ≤ W.heap.size ∧ r < vs ∧ q ≤ vs := by omega
      have HS := Lib.hid (fun W' (hb : Below W.heap.size W W') => (show W'.cell? ⟨vs, 0, none⟩ = some (.int .u64 (k : Int)) ∧ W'.cell? ⟨vs, 1, none⟩ = some (.int .u64 (y : Int)) from ⟨((hE.below hb hE.lt).cell 0).trans rfl, ((hE.below hb hE.lt).cell 1).trans rfl⟩))
      have CL := Lib.hid (fun W' (hb : Below W.heap.size W W') => (show W'.cell? ⟨gc, 0, none⟩ = some v from ((g3.below hb g3.lt).cell 0).trans rfl))
      have CLA := Lib.hid (fun W' (hb : Below W.heap.size W W') => (show (W'.alloc (.cells #[.string (kb ++ ⟨#[61]⟩ ++ yb)] 9)).cell? ⟨gc, 0, none⟩ = some v from (((g3.below hb g3.lt).alloc _).cell 0).trans rfl))
      have a1 : (m + 4) + 1 ≤ maxLen := by unfold maxLen; omega
      have a2 : ((m + 4) + 1) * 16 ≤ 140737488355328 := by omega
      have AT := Lib.hid (fun W' (hb : Below W.heap.size W W') => (show W'.ownsRow w.heap.size 9 1 v (m + 4) ((txtL n pre).map Value.string) ∧ Row W' gc 34 #[v] ∧ w.heap.size ≤ W'.heap.size from ⟨ownS_low hown hb, g3.below hb g3.lt, by have := hb.size; omega⟩))
      have FIN := Lib.hid (fun Wq (hbq : Below W.heap.size W Wq) v' w1 (hown' : w1.ownsRow w.heap.size 9 1 v' (m + 4 + 1) ((txtL n pre).map Value.string ++ [.string (kb ++ ⟨#[61]⟩ ++ yb)])) (hgrow : (Wq.alloc (.cells #[.string (kb ++ ⟨#[61]⟩ ++ yb)] 9)).grownBy w1 v.ownBlock) =>
        (show ∃ g' cap', v' = .slice (some ⟨g', 0, none⟩) (m + 4 + 1) cap' ∧ w1.cell? ⟨gc, 0, none⟩ = some v ∧ w1.frozen? ⟨gc, 0, none⟩ = false ∧
          (w1.cell? ⟨vs, 0, none⟩ = some (.int .u64 (k : Int)) ∧ w1.cell? ⟨vs, 1, none⟩ = some (.int .u64 (y : Int))) ∧
          ((w1.setCell ⟨gc, 0, none⟩ (.slice (some ⟨g', 0, none⟩) (m + 4 + 1) cap')).cell? ⟨vs, 0, none⟩ = some (.int .u64 (k : Int)) ∧ (w1.setCell ⟨gc, 0, none⟩ (.slice (some ⟨g', 0, none⟩) (m + 4 + 1) cap')).cell? ⟨vs, 1, none⟩ = some (.int .u64 (y : Int))) ∧
          (KeepsOthers W (w1.setCell ⟨gc, 0, none⟩ (.slice (some ⟨g', 0, none⟩) (m + 4 + 1) cap')) ∧ (w1.setCell ⟨gc, 0, none⟩ (.slice (some ⟨g', 0, none⟩) (m + 4 + 1) cap')).heap[bb]? = W.heap[bb]? ∧ (∀ o : Obj, o.isCells = true → W.heap[r]? = some o → (w1.setCell ⟨gc, 0, none⟩ (.slice (some ⟨g', 0, none⟩) (m + 4 + 1) cap')).heap[r]? = some o) ∧ ∃ q', q' ≤ (w1.setCell ⟨gc, 0, none⟩ (.slice (some ⟨g', 0, none⟩) (m + 4 + 1) cap')).heap.size ∧ TxtI w n gc W0.heap.size q' (pre ++ [x]) (w1.setCell ⟨gc, 0, none⟩ (.slice (some ⟨g', 0, none⟩) (m + 4 + 1) cap'))) from by
        obtain ⟨g', cap', rfl⟩ := ownsRow_succ hown'
        have g3q := g3.below hbq g3.lt
        have hEq := hE.below hbq hE.lt
        have hownq := ownS_low hown hbq
        have hne0 : some gc ≠ v.ownBlock := fun e => by
          obtain ⟨cs, hcs⟩ := ownS_tag hownq e.symm
          exact tag_ne' hcs g3q (by decide) rfl
        have hvW : ∀ b, v.ownBlock = some b → b < q := hob
        have hneE : some vs ≠ v.ownBlock := fun e => by have := hvW vs e.symm; omega
        have r3 := (g3q.alloc (.cells #[.string (kb ++ ⟨#[61]⟩ ++ yb)] 9)).grown hgrow hne0
        have rE := (hEq.alloc (.cells #[.string (kb ++ ⟨#[61]⟩ ++ yb)] 9)).grown hgrow hneE
        have hg'gc : g' ≠ gc := by
          obtain ⟨cs, hcs⟩ := ownS_tag hown' rfl
          exact tag_ne' hcs r3 (by decide)
        have hsz1 := hgrow.size
        have hg' := ownS_from hown' g' rfl
        have hszq := hbq.size
        simp only [World.size_alloc] at hsz1
        have hvsgc : vs ≠ gc := by omega
        have hkeep : ∀ b, b < Wq.heap.size → some b ≠ v.ownBlock → b ≠ gc → (w1.setCell ⟨gc, 0, none⟩ (.slice (some ⟨g', 0, none⟩) (m + 4 + 1) cap')).heap[b]? = Wq.heap[b]? := fun b hb hn hn' => by
          rw [heap_setCell_other _ _ _ _ hn', hgrow.block b (by simp; omega) hn]
          exact Below.heap_alloc Wq _ b hb
        have rE' := rE.other (p := ⟨gc, 0, none⟩) hvsgc (.slice (some ⟨g', 0, none⟩) (m + 4 + 1) cap')
        have hbbW : bb < W.heap.size := by omega
        have hbbK : (w1.setCell ⟨gc, 0, none⟩ (.slice (some ⟨g', 0, none⟩) (m + 4 + 1) cap')).heap[bb]? = W.heap[bb]? := by
          refine (hkeep bb (by omega) (fun e => ?_) (by omega)).trans (hbq.block bb hbbW)
          obtain ⟨cs, hcs⟩ := ownS_tag hown e.symm
          exact tag_ne' hcs hbbR (by decide) rfl
        refine ⟨g', cap', rfl, (r3.cell 0).trans rfl, r3.free 0, ⟨(rE.cell 0).trans rfl, (rE.cell 1).trans rfl⟩, ⟨(rE'.cell 0).trans rfl, (rE'.cell 1).trans rfl⟩, ⟨by simp; omega, fun b o hb ho => ?_⟩, ?_, fun o _ ho => ?_, w1.heap.size, by simp, by omega, by simp; omega, hgT, hwG, ?_, by rw [hs0, Nat.add_sub_cancel]; exact hbbK.trans hbbR, _, r3.set 0 _, ?_, fun g hg => ?_⟩
        · have hbl := (Array.getElem?_eq_some_iff.1 hb).1
          refine (hkeep b (by omega) (fun e => ?_) (fun e => ?_)).trans ((hbq.block b hbl).trans hb)
          · obtain ⟨cs, t, h5⟩ := ownS_cells hown e.symm
            rw [h5] at hb
            cases hb
            cases ho
          · subst e
            rw [show W.heap[b]? = _ from g3] at hb
            cases hb
            cases ho
        · exact hbbK
        · have hrl := (Array.getElem?_eq_some_iff.1 ho).1
          exact (hkeep r (by omega) (fun e => by have := hvW r e.symm; omega) (by omega)).trans ((hbq.block r hrl).trans ho)
        · exact (((hB.trans (hbq.mono (by omega))).alloc (by omega) _).grown hgrow (by simp; omega) (fun b hb => (ownS_from hownq b hb).1)).setCell (p := ⟨gc, 0, none⟩) hwG _
        · rw [hSn0, List.map_append, List.length_append, ← hm]
          exact ownS_set hown' (p := ⟨gc, 0, none⟩) (fun g hg => by cases hg; exact hg'gc) _
        · cases hg
          exact hg'.2))
      obtain ⟨i0, hi, hz0, hz1, hz2⟩ := info_parts infoString
      clear hvs hcells hE hk hy hB h4 hI0 hent g3 hown hob hks hps hT ce0 ce1 ce3 hsz hrV hm hkb hyb hbbR hSn0
      gi_wp2
      refine wpIn_region_any (by kernel_rfl) (wpAnyIn_of ?nodef ?lets _ _ _ _ (wpAny_of_held (S := fun W' => W'.cell? ⟨vs, 0, none⟩ = some (.int .u64 (k : Int)) ∧ W'.cell? ⟨vs, 1, none⟩ = some (.int .u64 (y : Int))) _ _ _ _ ?_))
      case nodef => exact noDefer_all (by kernel_rfl)
      case lets =>
        rintro ⟨a, w, h⟩
        exact h.elim
      change wpAnyH _ _ _ _ _ _ _ _ (World.drew _)
      have hbc := drew_low W
      have hSn := HS.out _ hbc
      refine wpAnyH_take (i := 1) (oi := ⟨some 24, _, _, _, _, _⟩) (v := .pointer (some ⟨vs, 0, none⟩)) rfl (by kernel_rfl) (by kernel_rfl) (by kernel_rfl) (fun _ _ _ h => h) (Or.inl ⟨by rfl, by intro w hSw; obtain ⟨hs1', hs2'⟩ := hSw; go_simp⟩) hSn ?_
      simp only [Act.put, List.setIfInBounds_toArray, List.set_cons_zero, List.set_cons_succ]
      refine wpAnyH_take (i := 5) (oi := ⟨some 28, _, _, _, _, _⟩) (v := .pointer (some ⟨vs, 1, none⟩)) rfl (by kernel_rfl) (by kernel_rfl) (by kernel_rfl) (fun _ _ _ h => h) (Or.inl ⟨by rfl, by intro w hSw; obtain ⟨hs1', hs2'⟩ := hSw; go_simp⟩) hSn ?_
      simp only [Act.put, List.setIfInBounds_toArray, List.set_cons_zero, List.set_cons_succ]
      refine wpAnyH_take (i := 2) (oi := ⟨some 25, _, _, _, _, _⟩) (v := .int .u64 (k : Int)) rfl (by kernel_rfl) (by kernel_rfl) (by kernel_rfl) (fun _ _ _ h => h) (Or.inl ⟨by rfl, by intro w hSw; obtain ⟨hs1', hs2'⟩ := hSw; go_simp⟩) hSn ?_
      simp only [Act.put, List.setIfInBounds_toArray, List.set_cons_zero, List.set_cons_succ]
      refine wpAnyH_take (i := 6) (oi := ⟨some 29, _, _, _, _, _⟩) (v := .int .u64 (y : Int)) rfl (by kernel_rfl) (by kernel_rfl) (by kernel_rfl) (fun _ _ _ h => h) (Or.inl ⟨by rfl, by intro w hSw; obtain ⟨hs1', hs2'⟩ := hSw; go_simp⟩) hSn ?_
      simp only [Act.put, List.setIfInBounds_toArray, List.set_cons_zero, List.set_cons_succ]
      refine wpAnyH_ready (rs := [0, 3]) (by kernel_rfl) (by simp) ?_
      refine AllReadyH.cons rfl (fun K hK => ?_) (AllReadyH.cons rfl (fun K hK => ?_) (AllReadyH.nil))
      · skip
        have cl := (CL.out _ hbc)
        go_simp
        refine hK.out _ _ (HS.out _ hbc) (fun hSn => ?_)
        clear hK K cl
        try simp only [Act.put, List.setIfInBounds_toArray, List.set_cons_zero, List.set_cons_succ]
        refine wpAnyH_ready (rs := [3]) (by kernel_rfl) (by simp) ?_
        refine AllReadyH.cons rfl (fun K hK => ?_) (AllReadyH.nil)
        go_simp
        refine (HU.out _ hbc).mono ?_
        rintro e wn ⟨rfl, hbn⟩
        have hbc := low_and hbc hbn
        refine hK.out _ _ (HS.out _ hbc) (fun hSn => ?_)
        clear hK K
        try simp only [Act.put, List.setIfInBounds_toArray, List.set_cons_zero, List.set_cons_succ]
        refine wpAnyH_take (i := 4) (oi := ⟨some 27, _, _, _, _, _⟩) (v := .string (kb ++ ⟨#[61]⟩)) rfl (by kernel_rfl) (by kernel_rfl) (by kernel_rfl) (fun _ _ _ h => h) (Or.inl ⟨by rfl, by intro w hSw; obtain ⟨hs1', hs2'⟩ := hSw; go_simp⟩) hSn ?_
        simp only [Act.put, List.setIfInBounds_toArray, List.set_cons_zero, List.set_cons_succ]
        refine wpAnyH_ready (rs := [7]) (by kernel_rfl) (by simp) ?_
        refine AllReadyH.cons rfl (fun K hK => ?_) (AllReadyH.nil)
        go_simp
        refine (HA.out _ hbc).mono ?_
        rintro e wn ⟨rfl, hbn⟩
        have hbc := low_and hbc hbn
        refine hK.out _ _ (HS.out _ hbc) (fun hSn => ?_)
        clear hK K
        try simp only [Act.put, List.setIfInBounds_toArray, List.set_cons_zero, List.set_cons_succ]
        refine wpAnyH_take (i := 8) (oi := ⟨some 31, _, _, _, _, _⟩) (v := .string (kb ++ ⟨#[61]⟩ ++ yb)) rfl (by kernel_rfl) (by kernel_rfl) (by kernel_rfl) (fun _ _ _ h => h) (Or.inl ⟨by rfl, by intro w hSw; obtain ⟨hs1', hs2'⟩ := hSw; go_simp⟩) hSn ?_
        simp only [Act.put, List.setIfInBounds_toArray, List.set_cons_zero, List.set_cons_succ]
        refine wpAnyH_ready (rs := [9]) (by kernel_rfl) (by simp) ?_
        refine AllReadyH.cons rfl (fun K hK => ?_) (AllReadyH.nil)
        go_simp
        refine hK.out _ _ (HS.out _ (low_and hbc (alloc_low _ _))) (fun hSn => ?_)
        clear hK K
        try simp only [Act.put, List.setIfInBounds_toArray, List.set_cons_zero, List.set_cons_succ]
        refine wpAnyH_ready (rs := [10]) (by kernel_rfl) (by simp) ?_
        refine AllReadyH.cons rfl (fun K hK => ?_) AllReadyH.nil
        rw [if_pos (by kernel_rfl)]
        obtain ⟨hown, g3, hsz2⟩ := AT.out _ hbc
        refine wp_append_own8 _ _ _ 34 rfl w.heap.size 9 i0 (.string ⟨#[]⟩) 1 16 Tryd.underlying34 hi hz0 hz1 hz2 rfl (by decide) _ (m + 4) _ rfl (World.ownsRow.alloc hown _) ⟨_, 0, none⟩ 1 1 [.string (kb ++ ⟨#[61]⟩ ++ yb)] rfl rfl (cell_one_new _ _ _) (by simp [Value.oneCell']) a1 a2 (by simp; omega) ?_
        intro v' w1 hown' hgrow
        obtain ⟨g', cap', hv', hcc, hzz, hS1, hS2, hpost⟩ := FIN.out _ hbc v' w1 hown' hgrow
        subst hv'
        refine hK.out _ _ hS1 (fun hSn => ?_)
        clear hK K
        simp only [Act.put, List.setIfInBounds_toArray, List.set_cons_zero, List.set_cons_succ]
        refine wpAnyH_ready (rs := [11]) (by kernel_rfl) (by simp) ?_
        refine AllReadyH.cons rfl (fun K hK => ?_) AllReadyH.nil
        go_simp
        refine hK.out _ _ hS2 (fun hSn => ?_)
        clear hK K
        refine wpAnyH_done (by kernel_rfl) ?_ _
        simp only [Exit.inBlock, Exit.then]
        exact hpost
      · skip
        go_simp
        refine (HU.out _ hbc).mono ?_
        rintro e wn ⟨rfl, hbn⟩
        have hbc := low_and hbc hbn
        refine hK.out _ _ (HS.out _ hbc) (fun hSn => ?_)
        clear hK K
        try simp only [Act.put, List.setIfInBounds_toArray, List.set_cons_zero, List.set_cons_succ]
        refine wpAnyH_take (i := 4) (oi := ⟨some 27, _, _, _, _, _⟩) (v := .string (kb ++ ⟨#[61]⟩)) rfl (by kernel_rfl) (by kernel_rfl) (by kernel_rfl) (fun _ _ _ h => h) (Or.inl ⟨by rfl, by intro w hSw; obtain ⟨hs1', hs2'⟩ := hSw; go_simp⟩) hSn ?_
        simp only [Act.put, List.setIfInBounds_toArray, List.set_cons_zero, List.set_cons_succ]
        refine wpAnyH_ready (rs := [0, 7]) (by kernel_rfl) (by simp) ?_
        refine AllReadyH.cons rfl (fun K hK => ?_) (AllReadyH.cons rfl (fun K hK => ?_) (AllReadyH.nil))
        · skip
          have cl := (CL.out _ hbc)
          go_simp
          refine hK.out _ _ (HS.out _ hbc) (fun hSn => ?_)
          clear hK K cl
          try simp only [Act.put, List.setIfInBounds_toArray, List.set_cons_zero, List.set_cons_succ]
          refine wpAnyH_ready (rs := [7]) (by kernel_rfl) (by simp) ?_
          refine AllReadyH.cons rfl (fun K hK => ?_) (AllReadyH.nil)
          go_simp
          refine (HA.out _ hbc).mono ?_
          rintro e wn ⟨rfl, hbn⟩
          have hbc := low_and hbc hbn
          refine hK.out _ _ (HS.out _ hbc) (fun hSn => ?_)
          clear hK K
          try simp only [Act.put, List.setIfInBounds_toArray, List.set_cons_zero, List.set_cons_succ]
          refine wpAnyH_take (i := 8) (oi := ⟨some 31, _, _, _, _, _⟩) (v := .string (kb ++ ⟨#[61]⟩ ++ yb)) rfl (by kernel_rfl) (by kernel_rfl) (by kernel_rfl) (fun _ _ _ h => h) (Or.inl ⟨by rfl, by intro w hSw; obtain ⟨hs1', hs2'⟩ := hSw; go_simp⟩) hSn ?_
          simp only [Act.put, List.setIfInBounds_toArray, List.set_cons_zero, List.set_cons_succ]
          refine wpAnyH_ready (rs := [9]) (by kernel_rfl) (by simp) ?_
          refine AllReadyH.cons rfl (fun K hK => ?_) (AllReadyH.nil)
          go_simp
          refine hK.out _ _ (HS.out _ (low_and hbc (alloc_low _ _))) (fun hSn => ?_)
          clear hK K
          try simp only [Act.put, List.setIfInBounds_toArray, List.set_cons_zero, List.set_cons_succ]
          refine wpAnyH_ready (rs := [10]) (by kernel_rfl) (by simp) ?_
          refine AllReadyH.cons rfl (fun K hK => ?_) AllReadyH.nil
          rw [if_pos (by kernel_rfl)]
          obtain ⟨hown, g3, hsz2⟩ := AT.out _ hbc
          refine wp_append_own8 _ _ _ 34 rfl w.heap.size 9 i0 (.string ⟨#[]⟩) 1 16 Tryd.underlying34 hi hz0 hz1 hz2 rfl (by decide) _ (m + 4) _ rfl (World.ownsRow.alloc hown _) ⟨_, 0, none⟩ 1 1 [.string (kb ++ ⟨#[61]⟩ ++ yb)] rfl rfl (cell_one_new _ _ _) (by simp [Value.oneCell']) a1 a2 (by simp; omega) ?_
          intro v' w1 hown' hgrow
          obtain ⟨g', cap', hv', hcc, hzz, hS1, hS2, hpost⟩ := FIN.out _ hbc v' w1 hown' hgrow
          subst hv'
          refine hK.out _ _ hS1 (fun hSn => ?_)
          clear hK K
          simp only [Act.put, List.setIfInBounds_toArray, List.set_cons_zero, List.set_cons_succ]
          refine wpAnyH_ready (rs := [11]) (by kernel_rfl) (by simp) ?_
          refine AllReadyH.cons rfl (fun K hK => ?_) AllReadyH.nil
          go_simp
          refine hK.out _ _ hS2 (fun hSn => ?_)
          clear hK K
          refine wpAnyH_done (by kernel_rfl) ?_ _
          simp only [Exit.inBlock, Exit.then]
          exact hpost
        · skip
          go_simp
          refine (HA.out _ hbc).mono ?_
          rintro e wn ⟨rfl, hbn⟩
          have hbc := low_and hbc hbn
          refine hK.out _ _ (HS.out _ hbc) (fun hSn => ?_)
          clear hK K
          try simp only [Act.put, List.setIfInBounds_toArray, List.set_cons_zero, List.set_cons_succ]
          refine wpAnyH_take (i := 8) (oi := ⟨some 31, _, _, _, _, _⟩) (v := .string (kb ++ ⟨#[61]⟩ ++ yb)) rfl (by kernel_rfl) (by kernel_rfl) (by kernel_rfl) (fun _ _ _ h => h) (Or.inl ⟨by rfl, by intro w hSw; obtain ⟨hs1', hs2'⟩ := hSw; go_simp⟩) hSn ?_
          simp only [Act.put, List.setIfInBounds_toArray, List.set_cons_zero, List.set_cons_succ]
          refine wpAnyH_ready (rs := [0, 9]) (by kernel_rfl) (by simp) ?_
          refine AllReadyH.cons rfl (fun K hK => ?_) (AllReadyH.cons rfl (fun K hK => ?_) (AllReadyH.nil))
          · skip
            have cl := (CL.out _ hbc)
            go_simp
            refine hK.out _ _ (HS.out _ hbc) (fun hSn => ?_)
            clear hK K cl
            try simp only [Act.put, List.setIfInBounds_toArray, List.set_cons_zero, List.set_cons_succ]
            refine wpAnyH_ready (rs := [9]) (by kernel_rfl) (by simp) ?_
            refine AllReadyH.cons rfl (fun K hK => ?_) (AllReadyH.nil)
            go_simp
            refine hK.out _ _ (HS.out _ (low_and hbc (alloc_low _ _))) (fun hSn => ?_)
            clear hK K
            try simp only [Act.put, List.setIfInBounds_toArray, List.set_cons_zero, List.set_cons_succ]
            refine wpAnyH_ready (rs := [10]) (by kernel_rfl) (by simp) ?_
            refine AllReadyH.cons rfl (fun K hK => ?_) AllReadyH.nil
            rw [if_pos (by kernel_rfl)]
            obtain ⟨hown, g3, hsz2⟩ := AT.out _ hbc
            refine wp_append_own8 _ _ _ 34 rfl w.heap.size 9 i0 (.string ⟨#[]⟩) 1 16 Tryd.underlying34 hi hz0 hz1 hz2 rfl (by decide) _ (m + 4) _ rfl (World.ownsRow.alloc hown _) ⟨_, 0, none⟩ 1 1 [.string (kb ++ ⟨#[61]⟩ ++ yb)] rfl rfl (cell_one_new _ _ _) (by simp [Value.oneCell']) a1 a2 (by simp; omega) ?_
            intro v' w1 hown' hgrow
            obtain ⟨g', cap', hv', hcc, hzz, hS1, hS2, hpost⟩ := FIN.out _ hbc v' w1 hown' hgrow
            subst hv'
            refine hK.out _ _ hS1 (fun hSn => ?_)
            clear hK K
            simp only [Act.put, List.setIfInBounds_toArray, List.set_cons_zero, List.set_cons_succ]
            refine wpAnyH_ready (rs := [11]) (by kernel_rfl) (by simp) ?_
            refine AllReadyH.cons rfl (fun K hK => ?_) AllReadyH.nil
            go_simp
            refine hK.out _ _ hS2 (fun hSn => ?_)
            clear hK K
            refine wpAnyH_done (by kernel_rfl) ?_ _
            simp only [Exit.inBlock, Exit.then]
            exact hpost
          · skip
            go_simp
            refine hK.out _ _ (HS.out _ (low_and hbc (alloc_low _ _))) (fun hSn => ?_)
            clear hK K
            try simp only [Act.put, List.setIfInBounds_toArray, List.set_cons_zero, List.set_cons_succ]
            refine wpAnyH_ready (rs := [0]) (by kernel_rfl) (by simp) ?_
            refine AllReadyH.cons rfl (fun K hK => ?_) (AllReadyH.nil)
            have cl := (CLA.out _ hbc)
            go_simp
            refine hK.out _ _ (HS.out _ (low_and hbc (alloc_low _ _))) (fun hSn => ?_)
            clear hK K cl
            try simp only [Act.put, List.setIfInBounds_toArray, List.set_cons_zero, List.set_cons_succ]
            refine wpAnyH_ready (rs := [10]) (by kernel_rfl) (by simp) ?_
            refine AllReadyH.cons rfl (fun K hK => ?_) AllReadyH.nil
            rw [if_pos (by kernel_rfl)]
            obtain ⟨hown, g3, hsz2⟩ := AT.out _ hbc
            refine wp_append_own8 _ _ _ 34 rfl w.heap.size 9 i0 (.string ⟨#[]⟩) 1 16 Tryd.underlying34 hi hz0 hz1 hz2 rfl (by decide) _ (m + 4) _ rfl (World.ownsRow.alloc hown _) ⟨_, 0, none⟩ 1 1 [.string (kb ++ ⟨#[61]⟩ ++ yb)] rfl rfl (cell_one_new _ _ _) (by simp [Value.oneCell']) a1 a2 (by simp; omega) ?_
            intro v' w1 hown' hgrow
            obtain ⟨g', cap', hv', hcc, hzz, hS1, hS2, hpost⟩ := FIN.out _ hbc v' w1 hown' hgrow
            subst hv'
            refine hK.out _ _ hS1 (fun hSn => ?_)
            clear hK K
            simp only [Act.put, List.setIfInBounds_toArray, List.set_cons_zero, List.set_cons_succ]
            refine wpAnyH_ready (rs := [11]) (by kernel_rfl) (by simp) ?_
            refine AllReadyH.cons rfl (fun K hK => ?_) AllReadyH.nil
            go_simp
            refine hK.out _ _ hS2 (fun hSn => ?_)
            clear hK K
            refine wpAnyH_done (by kernel_rfl) ?_ _
            simp only [Exit.inBlock, Exit.then]
            exact hpost
    case done =>
      rintro D q xs W hD rfl ⟨hq4, hWs, hgT, hwG, hB, hbbR, v, g3, hown, hob⟩ hK
      have c3 := g3.cell 0
      simp only [List.getElem?_toArray, List.getElem?_cons_zero] at c3
      have hcell := own_sl hown
      obtain ⟨g', cap', rfl⟩ := ownsRow_succ hown
      obtain ⟨A, cap, hA, hnc, _, hsl, _⟩ := hcell
      cases hA
      have hlt := (ownS_from hown g' rfl).2
      have hvl := n.vp_length
      have hll : (txtL n n.vp).length = n.vp.length + 4 := by simp [txtL]
      have hLI := line_any g' cap' (txtL n n.vp) W (fun j x hx => by
        have hx' : ((txtL n n.vp).map Value.string)[j]? = some (.string x) := by rw [List.getElem?_map, hx]; rfl
        obtain ⟨a, ha, hc⟩ := hsl j _ hx'
        cases ha
        rw [← hc]
        rw [Addr.add_mid]) hlt (by omega) (by omega) HLen.out
      rw [hll] at hLI
      have HLI := Lib.hid hLI
      have HB := Lib.hid hB
      clear g3 hob h4 hI0 hown hsl hLI hbbR hB
      obtain ⟨m, hm⟩ : ∃ m, m = n.vp.length := ⟨_, rfl⟩
      rw [← hm] at HLI c3
      clear hll hm
      gi_wp2_with (refine ⟨trivial, ?_⟩; gi_at_call 11; refine (callsIn_wide.2 HLI.out).mono ?_; rintro e w' ⟨rfl, hb⟩)
      have hKp : w'.heap[D]? = some (.deferred (some [])) := (hb.block _ (Array.getElem?_eq_some_iff.1 hK).1).trans hK
      refine ⟨by simp, .inl ⟨_, _, rfl, run_takeDeferred hKp, ?_⟩⟩
      exact ⟨_, results_tmp rfl _ _ _, rfl, (HB.out.trans (hb.mono (by have := HB.out.size; omega))).trans (belowK_b (w := w) (Nat.le_refl _) w' D _ _ (by omega) hKp rfl rfl)⟩
    case stop => exact fun _ _ _ _ _ h => h.elim
end Go.Proofs.YtaegaeljakdffaaDoor
