/-
  Chapter 1, the program: the contracts of winnerOf, slices.Clone, slices.Sort, bidOfRank, the sales and saleOf.
-/
import Derived.Test.YtoipjhdnmiomeaaGA
import Derived.Lib.SliceRun
namespace Go.Proofs.Ytoipjhdnmiomeaa
open Go.RowKit

set_option maxHeartbeats 400000 in
theorem winnerOf_any (A : Option Addr) (c : Nat) (xs : List Int) (r : Int) (w : World) (h : Rd w A c xs) (h1 : 1 ≤ xs.length) (hl : xs.length ≤ 1099511627776) :
    Calls Try.prog 63 #[.slice A xs.length c, .int .i64 r] w fun e w' => e = .returned (.int .i64 (atOf xs r)) ∧ w = w' := by
  obtain ⟨b, off, rfl, hcell⟩ := h.open_ h1
  have HC := Lib.hid hcell
  clear hcell h
  go_enter Try.func63, Try.ntmps63
  go_wp2
  go_loop [5, 10] (fun t i => ∃ k m : Nat, k ≤ xs.length ∧ (m < k ∨ m = 0) ∧ i = .int .i64 k ∧ t = .int .i64 m ∧ Hid (m = gr xs k))
    (fun _ i => xs.length - (intOf i).toNat)
  case atStart => exact ⟨0, 0, by omega, .inr rfl, rfl, rfl, Lib.hid rfl⟩
  case round =>
    obtain ⟨k, m, hk, hm, rfl, rfl, HM⟩ := hrel
    have hm2 : m < xs.length := by omega
    obtain ⟨y, hy⟩ := at_some hm2
    have hc2 := HC.out m y hy
    by_cases hlt : k < xs.length
    · obtain ⟨x, hx⟩ := at_some hlt
      have hc1 := HC.out k x hx
      by_cases hyx : y < x
      · have HM' : Hid (k = gr xs (k + 1)) := Lib.hid (by rw [gr, ← HM.out, getD_of hx, getD_of hy, if_pos hyx])
        clear hx hy hm
        go_wp2
        go_round
        case rel => exact ⟨k + 1, k, by omega, .inl (by omega), by go_num, rfl, HM'⟩
        case measure => simp [intOf]; omega
      · have HM' : Hid (m = gr xs (k + 1)) := Lib.hid (by rw [gr, ← HM.out, getD_of hx, getD_of hy, if_neg hyx])
        have hmk : m < k + 1 := by omega
        clear hx hy hm
        go_wp2
        go_round
        case rel => exact ⟨k + 1, m, by omega, .inl hmk, by go_num, rfl, HM'⟩
        case measure => simp [intOf]; omega
    · obtain rfl : k = xs.length := by omega
      by_cases hr : y < r
      · have HE := Lib.hid (atOf_none (xs := xs) (r := r) (by rw [← HM.out, getD_of hy]; exact hr))
        clear hy hm
        go_wp2
        go_ret
        exact ⟨by rw [HE.out]; rfl, rfl⟩
      · have HE := Lib.hid (atOf_some (xs := xs) (r := r) (by rw [← HM.out, getD_of hy]; exact hr))
        clear hy hm
        go_wp2
        go_ret
        exact ⟨by rw [HE.out, ← HM.out]; rfl, rfl⟩

theorem Clone_any (b off c : Nat) (xs : List Int) (w : World) (h : Rd w (some ⟨b, off, none⟩) c xs) (hl : xs.length ≤ 1099511627776) :
    Calls Try.prog 89 #[.slice (some ⟨b, off, none⟩) xs.length c] w (OutIs w xs) := by
  have hb0 := (Below.refl w.heap.size w).alloc (Nat.le_refl _) (.cells #[] 3)
  have h1 := h.below hb0
  have qT : ∀ (w : World) (a : Option Addr) (n c n' c' : Nat), (binOp .eql 23 (.slice a n c) (.slice none n' c')).run Try.prog w = .ok (.bool a.isNone) w := fun w a n c n' c' => Lib.run_eql_slice_nil w _ _ a n c n' c' Try.underlying23
  go_enter Try.func89, Try.ntmps89
  go_wp2_with (at_builtin; refine wpList_clone rfl _ _ rfl w.heap.size w.heap.size rfl (own_empty w) _ _ xs rfl h1 hl hb0.size ?_; intro g c1 w1 ho hb)
  go_ret
  exact ⟨g, c1, rfl, ho, hb0.trans hb⟩

/-- The list, sorted. -/
def srt (xs : List Int) : List Int := xs.mergeSort fun x y => decide (x ≤ y)
theorem srt_len (xs : List Int) : (srt xs).length = xs.length := (List.mergeSort_perm xs _).length_eq
theorem srt_asc (xs : List Int) : Asc (srt xs) := by
  have := List.pairwise_mergeSort (le := fun x y : Int => decide (x ≤ y)) (by intro a b c; simp; omega) (by intro a b; simp; omega) xs
  unfold Asc srt
  simpa using this

end Go.Proofs.Ytoipjhdnmiomeaa

/-
  Chapter 1, the program: the contracts of bidOfRank, of the sales, of saleOf and of SaleBy.
-/
namespace Go.Proofs.Ytoipjhdnmiomeaa
open Go.RowKit

theorem rank_srt {xs : List Int} {k : Nat} {y : Int} (h1 : 1 ≤ k) (h2 : k ≤ xs.length) (hy : (srt xs)[xs.length - k]? = some y) : nthG (k - 1) xs = y := by
  rw [nth_sorted (k - 1) xs (srt xs) (srt_asc xs) (List.mergeSort_perm xs _) (by omega), show xs.length - 1 - (k - 1) = xs.length - k by omega, getD_of hy]

/-- What a sale's payments are. -/
def PayIs (w : World) (xs : List Int) (kd : Nat) (r : Int) (e : Ending) (w' : World) : Prop :=
  ∃ g c, e = .returned (.slice (some ⟨g, 0, none⟩) xs.length c) ∧ Own w' w.heap.size (some ⟨g, 0, none⟩) c (payOf kd xs r) ∧ Below w.heap.size w w'

end Go.Proofs.Ytoipjhdnmiomeaa

/-
  Chapter 1, the program: the contracts of SaleBy and isBidder.
-/
namespace Go.Proofs.Ytoipjhdnmiomeaa
open Go.RowKit

end Go.Proofs.Ytoipjhdnmiomeaa

/-
  The exact laws' helpers that mark a slice of ints, and that ask whether the marks are held.
-/
namespace Go.Proofs.Ytoipjhdnmiomeaa
open Go.RowKit

/-- k, one more, and so on. -/
def upF (k : Int) (n : Nat) : List Int := (List.range n).map (fun i => k + (i : Nat))
theorem upF_len (k : Int) (n : Nat) : (upF k n).length = n := by simp [upF]
theorem upF_at (k : Int) (n i : Nat) (h : i < n) : (upF k n)[i]? = some (k + i) := by simp [upF, h]

/-- The first j places marked from k on, the others as they were. -/
def markd (k : Int) (xs : List Int) (j : Nat) : List Int := upF k j ++ xs.drop j
theorem markd_len (k : Int) (xs : List Int) (j : Nat) (hj : j ≤ xs.length) : (markd k xs j).length = xs.length := by simp [markd, upF_len]; omega
theorem markd_zero (k : Int) (xs : List Int) : markd k xs 0 = xs := by simp [markd, upF]
theorem markd_all (k : Int) (xs : List Int) : markd k xs xs.length = upF k xs.length := by simp [markd]
theorem markd_set (k : Int) (xs : List Int) (j : Nat) (hj : j < xs.length) : (markd k xs j).set j (k + j) = markd k xs (j + 1) := by
  unfold markd
  rw [List.set_append, if_neg (by rw [upF_len]; omega), upF_len, Nat.sub_self]
  rw [List.drop_eq_getElem_cons hj, List.set_cons_zero]
  simp [upF, List.range_succ]

theorem own_block (A : Option Addr) (n c : Nat) : (Value.slice A n c).ownBlock = ofA A := by cases A <;> rfl

theorem Own.kept_ {w w' : World} {B : Nat} {A A2 : Option Addr} {c : Nat} {xs : List Int} (h : Own w B A c xs) (hg : w.grownBy w' (ofA A2)) (hne : ofA A = none ∨ ofA A ≠ ofA A2) : Own w' B A c xs :=
  World.ownsRow.kept h hg (by rw [own_block]; exact hne)

theorem Own.apart {wa wb : World} {B1 B2 : Nat} {A1 A2 : Option Addr} {c1 c2 : Nat} {xs ys : List Int} (h1 : Own wa B1 A1 c1 xs) (h2 : Own wb B2 A2 c2 ys) (hlt : wa.heap.size ≤ B2) : (ofA A1 = none ∨ ofA A1 ≠ ofA A2) ∧ (ofA A2 = none ∨ ofA A2 ≠ ofA A1) := by
  have e : ∀ k, ofA A1 = some k → ofA A2 = some k → False := by
    intro k hk1 hk2
    have l1 := (World.ownsRow.lt h1 k (by rw [own_block]; exact hk1)).2
    have l2 := (World.ownsRow.lt h2 k (by rw [own_block]; exact hk2)).1
    omega
  constructor
  · rcases hA : ofA A1 with _ | k
    · exact .inl rfl
    · exact .inr (fun h => e k hA h.symm)
  · rcases hA : ofA A2 with _ | k
    · exact .inl rfl
    · exact .inr (fun h => e k h.symm hA)

theorem Own.grownBelow {w w' wa : World} {B B2 : Nat} {A2 : Option Addr} {c2 : Nat} {ys : List Int} (hb : Below B wa w) (h2 : Own w B2 A2 c2 ys) (hB : B ≤ B2) (hs : B ≤ w.heap.size) (hg : w.grownBy w' (ofA A2)) : Below B wa w' :=
  hb.grown hg hs (fun k hk => Nat.le_trans hB (World.ownsRow.lt h2 k (by rw [own_block]; exact hk)).1)

end Go.Proofs.Ytoipjhdnmiomeaa

/-
  Chapter 1: SaleBy of the program and of the model hand back the same, whatever the arguments.
-/
namespace Go.Proofs.Ytoipjhdnmiomeaa
open Go.RowKit

/-- A number and a slice in memory of the call's own. -/
def ResIs (w : World) (a : Int) (P : List Int) (e : Ending) (w' : World) : Prop :=
  ∃ A c, e = .returned (.tuple #[.int .i64 a, .slice A P.length c]) ∧ Own w' w.heap.size A c P ∧ Below w.heap.size w w'

theorem SaleIs.res {w w' : World} {xs : List Int} {kd : Nat} {r : Int} {e : Ending} (h : SaleIs w xs kd r e w') : ResIs w (atOf xs r) (payOf kd xs r) e w' := by
  obtain ⟨g, c, he, ho, hb⟩ := h
  exact ⟨some ⟨g, 0, none⟩, c, by rw [he, payOf_len], ho, hb⟩
theorem NoSale.res {w w' : World} {e : Ending} (h : NoSale e) (hb : Below w.heap.size w w') : ResIs w (-1) [] e w' :=
  ⟨none, 0, h, own_none _ _, hb⟩

end Go.Proofs.Ytoipjhdnmiomeaa

/-
  Chapter 1: the contracts of LeastToWin, of the model and of the program.
-/
namespace Go.Proofs.Ytoipjhdnmiomeaa
open Go.RowKit

/-- Two results, a number and a bool. -/
def TwoIs (w : World) (n : Int) (b : Bool) (e : Ending) (w' : World) : Prop := e = .returned (.tuple #[.int .i64 n, .bool b]) ∧ Below w.heap.size w w'

theorem withBid_is {ys : List Int} (A : Option Addr) (c : Nat) (xs : List Int) (i : Nat) (bid : Int) (w : World) (hy : ys = xs.set i bid) (h : Rd w A c xs) (hi : i < xs.length) (hl : xs.length ≤ 1099511627776) :
    Calls Try.prog 92 #[.slice A xs.length c, .int .i64 i, .int .i64 bid] w (OutIs w ys) := by
  rw [hy]; exact withBid_any A c xs i bid w h hi hl

theorem winnerOf_n {n : Nat} {a : Int} (A : Option Addr) (c : Nat) (xs : List Int) (r : Int) (w : World) (hn : xs.length = n) (ha : a = atOf xs r) (h : Rd w A c xs) (h1 : 1 ≤ n) (hl : n ≤ 1099511627776) :
    Calls Try.prog 63 #[.slice A n c, .int .i64 r] w fun e w' => e = .returned (.int .i64 a) ∧ w = w' := by
  subst hn ha; exact winnerOf_any A c xs r w h h1 hl

/-- The sale at another letter for who has the thing. -/
theorem sale_is {a : Int} (s : ByteArray) (kd : Nat) (A : Option Addr) (c : Nat) (xs : List Int) (r : Int) (w : World) (ha : a = atOf xs r) (hk : KindIs s kd) (h : Rd w A c xs) (h1 : 1 ≤ xs.length) (hl : xs.length ≤ 1048576) :
    Calls Try.prog 69 #[.string s, .slice A xs.length c, .int .i64 r] w fun e w' =>
      ∃ g c', e = .returned (.tuple #[.int .i64 a, .slice (some ⟨g, 0, none⟩) xs.length c']) ∧ Own w' w.heap.size (some ⟨g, 0, none⟩) c' (payOf kd xs r) ∧ Below w.heap.size w w' := by
  rw [ha]; exact sale_any s kd A c xs r w hk h h1 hl

theorem winB_yes {xs : List Int} {i : Nat} {r a : Int} {b : Nat} {ys : List Int} (hy : ys = xs.set i b) (ha : a = atOf ys r) (h : a = (i : Int)) : winB xs i r b = true := by
  unfold winB; rw [← hy, ← ha]; simpa using h
theorem winB_no {xs : List Int} {i : Nat} {r a : Int} {b : Nat} {ys : List Int} (hy : ys = xs.set i b) (ha : a = atOf ys r) (h : a ≠ (i : Int)) : winB xs i r b = false := by
  unfold winB; rw [← hy, ← ha]; simpa using h

theorem wB_le {xs : List Int} {i : Int} (h : wB xs i = true) : vB xs = true ∧ 0 ≤ i ∧ i < xs.length ∧ 1 ≤ xs.length ∧ xs.length ≤ 6 := by
  simp only [wB, Bool.and_eq_true, inR_true] at h
  have := vB_le h.1
  exact ⟨h.1, by omega, by omega, this.1, this.2⟩
theorem wB_yes {xs : List Int} {i : Int} (hv : vB xs = true) (h0 : 0 ≤ i) (h1 : i < xs.length) : wB xs i = true := by
  simp only [wB, hv, Bool.true_and, inR_true]; omega
theorem wB_bad {xs : List Int} {i : Int} (hv : vB xs = false) : wB xs i = false := by simp only [wB, hv, Bool.false_and]
theorem wB_out {xs : List Int} {i : Int} (h : ¬ (0 ≤ i ∧ i < xs.length)) : wB xs i = false := by
  rw [wB]
  have : inR i 0 (xs.length - 1) = false := inR_false.2 (by omega)
  rw [this, Bool.and_false]

theorem isBidder_any (A : Option Addr) (c : Nat) (xs : List Int) (i : Int) (w : World) (h : Rd w A c xs) (hl : xs.length ≤ 1048576) :
    Calls Try.prog 87 #[.slice A xs.length c, .int .i64 i] w fun e w' => e = .returned (.bool (wB xs i)) ∧ w = w' := by
  have hl2 : xs.length ≤ 1099511627776 := by omega
  cases hv : vB xs with
  | false =>
    have HE := Lib.hid (wB_bad (i := i) hv)
    go_enter Try.func87, Try.ntmps87
    go_wp2_with fail
    refine (ValidBids_any _ _ _ _ h hl2).mono ?_
    rw [hv]
    clear hv
    rintro e w1 ⟨rfl, rfl⟩
    go_wp2
    go_ret
    exact ⟨by rw [HE.out]; rfl, rfl⟩
  | true =>
    by_cases h0 : 0 ≤ i
    · by_cases h1 : i < xs.length
      · have HE := Lib.hid (wB_yes hv h0 h1)
        go_enter Try.func87, Try.ntmps87
        go_wp2_with fail
        refine (ValidBids_any _ _ _ _ h hl2).mono ?_
        rw [hv]
        clear hv
        rintro e w1 ⟨rfl, rfl⟩
        go_wp2
        go_ret
        exact ⟨by rw [HE.out]; rfl, rfl⟩
      · have HE := Lib.hid (wB_out (xs := xs) (i := i) (by omega))
        have hd : decide (i < (xs.length : Int)) = false := by simpa using h1
        go_enter Try.func87, Try.ntmps87
        go_wp2_with fail
        refine (ValidBids_any _ _ _ _ h hl2).mono ?_
        rw [hv]
        clear hv
        rintro e w1 ⟨rfl, rfl⟩
        go_wp2
        go_ret
        exact ⟨by rw [HE.out]; rfl, rfl⟩
    · have HE := Lib.hid (wB_out (xs := xs) (i := i) (by omega))
      go_enter Try.func87, Try.ntmps87
      go_wp2_with fail
      refine (ValidBids_any _ _ _ _ h hl2).mono ?_
      rw [hv]
      clear hv
      rintro e w1 ⟨rfl, rfl⟩
      go_wp2
      go_ret
      exact ⟨by rw [HE.out]; rfl, rfl⟩

/-- ys is xs but for the place i. -/
def ButAt (xs ys : List Int) (i : Nat) : Prop := ys.length = xs.length ∧ ∀ v, ys.set i v = xs.set i v
theorem ButAt.refl (xs : List Int) (i : Nat) : ButAt xs xs i := ⟨rfl, fun _ => rfl⟩
theorem ButAt.set_ {xs ys zs : List Int} {i : Nat} {v : Int} (h : ButAt xs ys i) (hz : zs = xs.set i v) : ButAt xs zs i ∧ ys.set i v = zs := by
  subst hz
  exact ⟨⟨List.length_set, fun u => List.set_set _⟩, h.2 v⟩

set_option maxHeartbeats 1000000 in
theorem Least_yes (A : Option Addr) (c : Nat) (xs : List Int) (i : Nat) (r : Int) (w : World) (h : Rd w A c xs) (hw : wB xs i = true) (hr : inR r 0 30 = true) (hl : xs.length ≤ 1048576) (hi : i < xs.length) :
    Calls Try.prog 64 #[.slice A xs.length c, .int .i64 i, .int .i64 r] w (TwoIs w (optN (leastF xs i r)) (leastF xs i r).isSome) := by
  have HW := Lib.hid hw
  have HR := Lib.hid hr
  have hl2 : xs.length ≤ 1099511627776 := by omega
  have h1 : 1 ≤ xs.length := by omega
  clear hw hr
  obtain ⟨b, off, rfl, _⟩ := h.open_ h1
  go_enter Try.func64, Try.ntmps64
  go_wp2_with fail
  refine (isBidder_any _ _ _ _ _ h hl).mono ?_
  rw [HW.out]
  rintro e w1 ⟨rfl, rfl⟩
  go_wp2_with fail
  refine (isBid_any _ _).mono ?_
  rw [HR.out]
  rintro e w1 ⟨rfl, rfl⟩
  go_wp2_with fail
  refine (Clone_any _ _ _ _ _ h hl2).mono ?_
  rintro e w1 ⟨g, c1, rfl, o1, b1⟩
  go_wp2_with fail
  go_loopw [21] (fun q wr => ∃ (k : Nat) (ys : List Int), k ≤ 31 ∧ q = .int .i64 k ∧ Own wr w.heap.size (some ⟨g, 0, none⟩) c1 ys ∧ Below w.heap.size w wr ∧ Hid (ButAt xs ys i) ∧ Hid (leastF xs i r = findF (winB xs i r) (31 - k) k))
    (fun q _ => 31 - (intOf q).toNat)
  case atStart => exact ⟨0, xs, by omega, rfl, o1, b1, Lib.hid (ButAt.refl _ _), Lib.hid rfl⟩
  case round =>
    obtain ⟨k, ys, hk, rfl, ho, hb, HB, HE⟩ := hrel
    by_cases hlt : k < 31
    · obtain ⟨zs, hZ⟩ : ∃ zs, zs = xs.set i k := ⟨_, rfl⟩
      obtain ⟨a, hA⟩ : ∃ a, a = atOf zs r := ⟨_, rfl⟩
      obtain ⟨hB2, hset⟩ := HB.out.set_ hZ
      have hiy : i < ys.length := by rw [HB.out.1]; exact hi
      obtain ⟨x, hx⟩ := at_some hiy
      have hc := ho.cell hx
      have hf := ho.free i
      have ho2 := ho.set_ i k
      rw [hset] at ho2
      have HO := Lib.hid ho2
      have HB2 := Lib.hid hB2
      have HZ := Lib.hid hZ
      have HA := Lib.hid hA
      have b2 := hb.setCell ho.ge (p := ⟨g, i, none⟩) (.int .i64 (k : Int))
      clear ho2 hB2 hZ hA hx hset hiy ho
      go_wp2_with fail
      refine (winnerOf_n _ _ zs _ _ HB2.out.1 HA.out HO.out.rd h1 hl2).mono ?_
      rintro e w2 ⟨rfl, rfl⟩
      by_cases hai : a = (i : Int)
      · have HF : Hid (leastF xs i r = some k) := Lib.hid (by rw [HE.out, show 31 - k = (30 - k) + 1 by omega, findF_yes (winB_yes HZ.out HA.out hai)])
        have he : (a == (i : Int)) = true := by simpa using hai
        clear hai
        go_wp2
        go_ret2
        exact ⟨by rw [HF.out]; rfl, b2⟩
      · have HF : Hid (leastF xs i r = findF (winB xs i r) (31 - (k + 1)) (k + 1)) := Lib.hid (by rw [HE.out, show 31 - k = (31 - (k + 1)) + 1 by omega, findF_no (winB_no HZ.out HA.out hai)])
        have he : (a == (i : Int)) = false := by simpa using hai
        clear hai
        go_wp2
        go_roundw
        case rel => exact ⟨k + 1, zs, by omega, by go_num, HO.out, b2, HB2, HF⟩
        case measure => simp [intOf]; omega
    · obtain rfl : k = 31 := by omega
      have HF : Hid (leastF xs i r = none) := Lib.hid (by rw [HE.out]; rfl)
      go_wp2
      go_ret2
      exact ⟨by rw [HF.out]; rfl, hb⟩

theorem Least_no {vb rb : Bool} (A : Option Addr) (c : Nat) (xs : List Int) (i r : Int) (w : World) (h : Rd w A c xs) (hl : xs.length ≤ 1048576) (hw : wB xs i = vb) (hr : inR r 0 30 = rb) (hno : (vb && rb) = false) :
    Calls Try.prog 64 #[.slice A xs.length c, .int .i64 i, .int .i64 r] w (TwoIs w 0 false) := by
  have HV := Lib.hid ((isBidder_any A c xs i w h hl).mono (R' := fun e w' => e = .returned (.bool vb) ∧ w = w') (by rw [hw]; exact fun _ _ h => h))
  have HR := Lib.hid ((isBid_any r w).mono (R' := fun e w' => e = .returned (.bool rb) ∧ w = w') (by rw [hr]; exact fun _ _ h => h))
  clear hw hr h
  cases vb <;> cases rb <;> first
    | (exact absurd hno (by decide))
    | (clear hno
       go_enter Try.func64, Try.ntmps64
       go_wp2_with (first
         | (go_at_call 87; refine HV.out.mono ?_; rintro e w1 ⟨rfl, rfl⟩)
         | (go_at_call 88; refine HR.out.mono ?_; rintro e w1 ⟨rfl, rfl⟩))
       go_ret2
       exact ⟨rfl, Below.refl _ _⟩)

end Go.Proofs.Ytoipjhdnmiomeaa

/-
  Chapter 1: the contracts of gain and GainOf, of the model and of the program.
-/
namespace Go.Proofs.Ytoipjhdnmiomeaa
open Go.RowKit

/-- A list of numbers of which none is beyond 2 to 31. -/
def Small (xs : List Int) : Prop := ∀ x ∈ xs, -2147483648 ≤ x ∧ x ≤ 2147483647

theorem Small.at_ {xs : List Int} {i : Nat} {x : Int} (h : Small xs) (hx : xs[i]? = some x) : -2147483648 ≤ x ∧ x ≤ 2147483647 := h x (List.mem_of_getElem? hx)
theorem Small.set_ {xs : List Int} (h : Small xs) {i : Nat} {v : Int} (h1 : -2147483648 ≤ v) (h2 : v ≤ 2147483647) : Small (xs.set i v) := by
  intro x hx
  rcases List.mem_or_eq_of_mem_set hx with h3 | h3
  · exact h x h3
  · subst h3; exact ⟨h1, h2⟩
theorem Small.erase {xs : List Int} (h : Small xs) (i : Nat) : Small (xs.eraseIdx i) := fun x hx => h x (List.mem_of_mem_eraseIdx hx)
theorem vB_small {xs : List Int} (h : vB xs = true) : Small xs := by
  simp only [vB, Bool.and_eq_true, List.all_eq_true] at h
  intro x hx
  have := inR_true.1 (h.2 x hx)
  omega
theorem Small.getD {xs : List Int} (h : Small xs) (i : Nat) : -2147483648 ≤ xs.getD i 0 ∧ xs.getD i 0 ≤ 2147483647 := by
  rw [List.getD_eq_getElem?_getD]
  cases hx : xs[i]? with
  | none => simp
  | some x => exact h.at_ hx
theorem nth_small : ∀ (m : Nat) (xs : List Int), Small xs → -2147483648 ≤ nthG m xs ∧ nthG m xs ≤ 2147483647
  | 0, xs, h => by rw [nthG_zero]; exact h.getD _
  | m + 1, xs, h => by rw [nthG_succ]; exact nth_small m _ (h.erase _)
theorem pay_small {kd : Nat} {xs : List Int} {r : Int} (h : Small xs) (h1 : -2147483648 ≤ r) (h2 : r ≤ 2147483647) : Small (payOf kd xs r) := by
  have hz : Small (List.replicate xs.length 0) := by intro x hx; rw [List.eq_of_mem_replicate hx]; decide
  unfold payOf
  split
  · exact h
  · split
    · exact hz
    · have := nth_small (kd - 1) xs h
      exact hz.set_ (by omega) (by omega)

theorem gain_win {kd : Nat} {xs : List Int} {i : Nat} {v r a p : Int} (ha : a = atOf xs r) (hp : (payOf kd xs r)[i]? = some p) (h : a = (i : Int)) : gainF kd xs i v r = v - p := by
  unfold gainF; rw [← ha, if_pos h, getD_of hp]
theorem gain_lose {kd : Nat} {xs : List Int} {i : Nat} {v r a p : Int} (ha : a = atOf xs r) (hp : (payOf kd xs r)[i]? = some p) (h : a ≠ (i : Int)) : gainF kd xs i v r = -p := by
  unfold gainF; rw [← ha, if_neg h, getD_of hp]; omega

theorem inR_le {x : Int} (h : inR x 0 30 = true) : 0 ≤ x ∧ x ≤ 30 := inR_true.1 h

end Go.Proofs.Ytoipjhdnmiomeaa

/-
  Chapter 1: the contracts of BestBid, of the model and of the program.
-/
namespace Go.Proofs.Ytoipjhdnmiomeaa
open Go.RowKit

/-- What the bidder i gains by the bid b. -/
def gB (kd : Nat) (xs : List Int) (i : Nat) (v r : Int) (b : Nat) : Int := gainF kd (xs.set i b) i v r

theorem best_up {g : Nat → Int} {k : Nat} {p : Nat} {q q' : Int} (h : bestF g k = (p, q)) (hq : q' = g (k + 1)) (hlt : q < q') : bestF g (k + 1) = (k + 1, q') := by
  rw [bestF, h, if_pos (by rw [← hq]; exact hlt), hq]
theorem best_keep {g : Nat → Int} {k : Nat} {p : Nat} {q q' : Int} (h : bestF g k = (p, q)) (hq : q' = g (k + 1)) (hlt : ¬ q < q') : bestF g (k + 1) = (p, q) := by
  rw [bestF, h, if_neg (by rw [← hq]; exact hlt)]

/-- Three results: two numbers and a bool. -/
def ThreeIs (w : World) (m n : Int) (b : Bool) (e : Ending) (w' : World) : Prop := e = .returned (.tuple #[.int .i64 m, .int .i64 n, .bool b]) ∧ Below w.heap.size w w'
/-- Two numbers. -/
def PairIs (w : World) (m n : Int) (e : Ending) (w' : World) : Prop := e = .returned (.tuple #[.int .i64 m, .int .i64 n]) ∧ Below w.heap.size w w'

end Go.Proofs.Ytoipjhdnmiomeaa
