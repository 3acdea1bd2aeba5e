/-
  Chapter 3, the program: the contract of bySize.
-/
import Derived.Test.YtkkdffmpeadinaaUj
import Derived.Test.YtkkdffmpeadinaaShelf
import Derived.Sort.OwnSortedInts
import Derived.Shelf.Slices.In.SortNone
namespace Go.Proofs.Ytkkdffmpeadinaa
open Go.RowKit

/-- 'append(xs, zs...)' at slices of ints of whatever named type. -/
theorem run_append_intsT (T ty : TypeId) (hT : Try.prog.underlying T = some (.slice 3)) (w : World) (base : Nat) (A0 : Option Addr) (c0 : Nat) (xs : List Int) (hown : Own w base A0 c0 xs) (A : Option Addr) (c : Nat) (zs : List Int) (hr : Rd w A c zs)
    (hn : xs.length + zs.length ≤ 1099511627776) (hbase : base ≤ w.heap.size) :
    ∃ A' c' w', (Builtin.append_ #[T, T] ty #[.slice A0 xs.length c0, .slice A zs.length c]).run Try.prog w = .ok (.slice A' (xs.length + zs.length) c') w' ∧
      Own w' base A' c' (xs ++ zs) ∧ w.grownBy w' (ofA A0) := by
  obtain ⟨i0, hi, hz0, hz1, hz2⟩ := info_parts int_info
  have hblk : (Value.slice A0 xs.length c0).ownBlock = ofA A0 := by cases A0 <;> rfl
  cases A with
  | none =>
    obtain ⟨rfl, rfl⟩ : zs = [] ∧ c = 0 := by
      rcases hr with h | ⟨b, off, h, _⟩
      · exact ⟨h.1, h.2 rfl⟩
      · cases h
    exact ⟨A0, c0, w, run_append_owned_none (P := Try.prog) (w := w) base T ty 3 i0 1 hT hi _ _ _ hown, by simpa using hown, World.grownBy.refl _ _⟩
  | some ad =>
    obtain ⟨v', w', hrun, h2, h3, _⟩ := run_append_own_at (P := Try.prog) w base T ty 3 i0 (.int .i64 0) 1 8 hT hi hz0 hz1 hz2 rfl (by decide) (.slice A0 xs.length c0) xs.length (xs.map (Value.int .i64)) hown ad zs.length c (zs.map (Value.int .i64)) (by simp) hr.news (ints_oneCell _ _)
      (by unfold maxLen; omega) (by omega) hbase
    rw [← List.map_append] at h2
    obtain ⟨_, ⟨hv, hz⟩ | ⟨g, c', hv⟩⟩ := own_shape h2
    · have hx : xs = [] ∧ zs = [] := by simpa using hz
      obtain ⟨rfl, rfl⟩ := hx
      subst hv
      exact ⟨none, 0, w', hrun, h2, hblk ▸ h3⟩
    · subst hv
      rw [List.length_append] at hrun h2
      exact ⟨_, c', w', hrun, by unfold Own; rw [List.length_append]; exact h2, hblk ▸ h3⟩

theorem wpList_append_any {ops : Array Oper} {rest : List Oper} {o : Oper} {a : Act} {w : World} {Q : Exit → Act → World → Prop} (hgd : o.guard = none) (s x : Operand) (T : TypeId) (hT : Try.prog.underlying T = some (.slice 3))
    (ho : o.op = .call { callee := .builtin .append, args := #[s, x], argTypes := #[T, T] })
    (base : Nat) (A0 : Option Addr) (c0 : Nat) (xs : List Int) (n : Nat) (hxn : xs.length = n) (hs : a.eval s = .slice A0 n c0) (hown : Own w base A0 c0 xs)
    (A : Option Addr) (c : Nat) (zs : List Int) (m : Nat) (hzm : zs.length = m) (hx : a.eval x = .slice A m c) (hr : Rd w A c zs)
    (hn : n + m ≤ 1099511627776) (hbase : base ≤ w.heap.size)
    (h : ∀ A' c' w', Own w' base A' c' (xs ++ zs) → w.grownBy w' (ofA A0) → wpList Try.prog ops Q rest (a.put o.dst (.slice A' (n + m) c')) w') :
    wpList Try.prog ops Q (o :: rest) a w :=
  wpList_plain hgd fun _ hK => by
    subst hxn hzm
    obtain ⟨A', c', w', hrun, h1, h2⟩ := run_append_intsT T o.type hT w base A0 c0 xs hown A c zs hr hn hbase
    unfold Oper.wp execOp
    simp only [ho, resolve, invoke, builtin, Sem.run_bind, Sem.run_pure, Result.andThen_ok, List.map_toArray, List.map_cons, List.map_nil, hs, hx, hrun]
    exact hK _ _ (h A' c' w' h1 h2)

theorem Own.grownBelow0 {w w' wa : World} {B : Nat} {A0 : Option Addr} {c0 : Nat} {xs : List Int} (hb : Below B wa w) (ho : Own w B A0 c0 xs) (hs : B ≤ w.heap.size) (hg : w.grownBy w' (ofA A0)) : Below B wa w' :=
  hb.grown hg hs (fun k hk => (World.ownsRow.lt ho k (by rw [own_block]; exact hk)).1)

set_option maxHeartbeats 400000 in
theorem CloneRow_any (A : Option Addr) (c : Nat) (xs : List Int) (w : World) (h : Rd w A c xs) (hl : xs.length ≤ 1099511627776) :
    Calls Try.prog 78 #[.slice A xs.length c] w (AnsIs w xs) := by
  have qT : ∀ (w : World) (a : Option Addr) (n c n' c' : Nat), (binOp .eql 62 (.slice a n c) (.slice none n' c')).run Try.prog w = .ok (.bool a.isNone) w := fun w a n c n' c' => Lib.run_eql_slice_nil w _ _ a n c n' c' Try.underlying62
  cases A with
  | none =>
    obtain ⟨rfl, rfl⟩ : xs = [] ∧ c = 0 := by
      rcases h with h | ⟨b, off, h, _⟩
      · exact ⟨h.1, h.2 rfl⟩
      · cases h
    go_enter Try.func78, Try.ntmps78
    go_wp2
    go_ret
    exact ⟨none, 0, rfl, own_none _ _, Below.refl _ _⟩
  | some a =>
    have hb0 := (Below.refl w.heap.size w).alloc (Nat.le_refl _) (.cells #[] 3)
    have h1 := h.below hb0
    go_enter Try.func78, Try.ntmps78
    go_wp2_with (at_builtin; refine wpList_append_any rfl _ _ 62 Try.underlying62 rfl w.heap.size (some ⟨w.heap.size, 0, none⟩) 0 [] 0 rfl rfl (own_empty w) (some a) c xs xs.length rfl rfl h1 (by omega) hb0.size ?_; intro A2 c2 w2 o2 g2)
    have B2 : Below w.heap.size w w2 := Own.grownBelow0 hb0 (own_empty w) hb0.size g2
    have HO : Hid (Own w2 w.heap.size A2 c2 xs) := Lib.hid (by simpa using o2)
    clear o2 g2
    go_wp2
    go_ret
    exact ⟨A2, c2, rfl, HO.out, B2⟩

/-- The sorted list, in its own block. -/
def srtU (xs : List Int) : List Int := xs.mergeSort fun x y => decide (x ≤ y)
theorem srtU_len (xs : List Int) : (srtU xs).length = xs.length := (List.mergeSort_perm xs _).length_eq
theorem srtU_asc (xs : List Int) : Asc (srtU xs) := by
  have := List.pairwise_mergeSort (le := fun x y : Int => decide (x ≤ y)) (by intro a b c; simp; omega) (by intro a b; simp; omega) xs
  unfold Asc srtU
  simpa using this

theorem srtU_nil : srtU [] = [] := by simp [srtU]

theorem SortU_any (B : Nat) (A : Option Addr) (c : Nat) (xs : List Int) (w : World) (h : Own w B A c xs) (hl : xs.length ≤ 1099511627776) :
    Calls Try.prog 79 #[.slice A xs.length c] w fun e w' => e = .returned (.tuple #[]) ∧ Own w' B A c (srtU xs) ∧ w.grownBy w' (ofA A) := by
  rcases own_shape h with ⟨_, ⟨hv, rfl⟩ | ⟨g, c', hv⟩⟩
  · injection hv with h1 _ h3
    subst h1 h3
    exact (Any.slices_Sort_int_none Try.lays189 none 0 w).mono fun e w' ⟨he, hw⟩ => ⟨he, by rw [hw, srtU_nil]; exact own_none _ _, by rw [hw]; exact World.grownBy.refl _ _⟩
  · injection hv with h1 _ h3
    subst h1 h3
    have hg := h.ge
    have hlt := h.lt
    rcases h.2 with ⟨hv, _⟩ | ⟨g', cap, cur, hv, _, hb, hn, hcap, hcs, htake⟩
    · cases hv
    injection hv with hA _ hc
    injection hA with hA
    injection hA with hA
    subst hA hc
    rw [Nat.mul_one] at htake
    refine (Try.slices_Sort_int g 0 c xs w (holds_of_blockI hb htake) hlt (by omega)).mono ?_
    rintro e w' ⟨rfl, n, os, rfl⟩
    refine ⟨rfl, ?_, grownBy_sortedI _⟩
    have := ownsRow_sortedI (n := n) (os := os) (ts := srtU xs) (srtU_len xs) hg hb hn hcap hcs
    unfold Own
    rw [srtU_len]
    exact this

theorem ReverseU_any (B : Nat) (A : Option Addr) (c : Nat) (xs : List Int) (w : World) (h : Own w B A c xs) (hl : xs.length ≤ 1099511627776) :
    Calls Try.prog 80 #[.slice A xs.length c] w fun e w' => e = .returned (.tuple #[]) ∧ Own w' B A c xs.reverse ∧ w.grownBy w' (ofA A) := by
  rcases own_shape h with ⟨_, ⟨hv, rfl⟩ | ⟨g, c', hv⟩⟩
  · injection hv with h1 _ h3
    subst h1 h3
    exact (Any.slices_Reverse_int_empty Try.lays112 none 0 w).mono fun e w' ⟨he, hw⟩ => ⟨he, by rw [hw]; exact own_none _ _, by rw [hw]; exact World.grownBy.refl _ _⟩
  · injection hv with h1 _ h3
    subst h1 h3
    have hg := h.ge
    have hlt := h.lt
    rcases h.2 with ⟨hv, _⟩ | ⟨g', cap, cur, hv, _, hb, hn, hcap, hcs, htake⟩
    · cases hv
    injection hv with hA _ hc
    injection hA with hA
    injection hA with hA
    subst hA hc
    rw [Nat.mul_one] at htake
    refine (Try.slices_Reverse_int g 0 c xs w (holds_of_blockI hb htake) (by omega)).mono ?_
    rintro e w' ⟨rfl, n, rfl⟩
    have e : ∀ v : World, Sort.grow v #[] = v := fun v => by simp [Sort.grow]
    refine ⟨rfl, ?_, by have := grownBy_sortedI (w := w) (g := g) (n := n) (os := #[]) xs.reverse.toArray; rw [e] at this; exact this⟩
    have := ownsRow_sortedI (n := n) (os := #[]) (ts := xs.reverse) (by simp) hg hb hn hcap hcs
    rw [e] at this
    unfold Own
    rw [List.length_reverse]
    exact this

theorem assert_row_yes (W : World) (v : Value) : (Instr.typeAssert (.iface 62 v) 64 62 true).run Try.prog W = .ok (.tuple #[v, .bool true]) W := by kernel_rfl
theorem assert_row_no (W : World) (v : Value) : (Instr.typeAssert (.iface 48 v) 64 62 true).run Try.prog W = .ok (.tuple #[.slice none 0 0, .bool false]) W := by kernel_rfl
theorem assert_crowd_yes (W : World) (v : Value) : (Instr.typeAssert (.iface 48 v) 64 48 true).run Try.prog W = .ok (.tuple #[v, .bool true]) W := by kernel_rfl

set_option maxHeartbeats 400000 in
theorem bySizeRow_any (A : Option Addr) (c : Nat) (xs : List Int) (w : World) (h : Rd w A c xs) (hl : xs.length ≤ 1099511627776) :
    Calls Try.prog 58 #[.iface 62 (.slice A xs.length c)] w (AnsIs w xs) := by
  have h1 := fun W => assert_row_yes W (.slice A xs.length c)
  have HC := Lib.hid (CloneRow_any A c xs w h hl)
  clear h
  go_enter Try.func58, Try.ntmps58
  go_wp2_with (go_at_call 78; refine HC.out.mono ?_; rintro e w1 ⟨A2, c2, rfl, o2, b2⟩)
  go_ret
  exact ⟨A2, c2, rfl, o2, b2⟩

/-- All numbers of the demands up to k. -/
def allNums (qs : List (Option Addr × Nat × List Int)) : List Int := (qs.map (·.2.2)).flatten
theorem allNums_step {qs : List (Option Addr × Nat × List Int)} {k : Nat} {q : Option Addr × Nat × List Int} (h : qs[k]? = some q) : allNums (qs.take (k + 1)) = allNums (qs.take k) ++ q.2.2 := by
  unfold allNums; rw [List.take_add_one, h]; simp

set_option maxHeartbeats 1000000 in
theorem bySizeCrowd_any (A : Option Addr) (c : Nat) (qs : List (Option Addr × Nat × List Int)) (w : World) (hC : RdC w A c qs) (hl : qs.length ≤ 1000) (hl2 : ∀ q ∈ qs, q.2.2.length ≤ 1000) (hs : (allNums qs).length ≤ 1000000) :
    Calls Try.prog 58 #[.iface 48 (.slice A qs.length c)] w (AnsIs w (srtU (allNums qs)).reverse) := by
  have h1 := fun W => assert_row_no W (.slice A qs.length c)
  have h2 := fun W => assert_crowd_yes W (.slice A qs.length c)
  have HL2 := Lib.hid hl2
  clear hl2
  go_enter Try.func58, Try.ntmps58
  go_wp2
  go_loopw [3, 19] (fun o i wr => ∃ (k n : Nat) (A2 : Option Addr) (c2 : Nat), k ≤ qs.length ∧ i = .int .i64 k ∧ o = .slice A2 n c2 ∧ Hid (n = (allNums (qs.take k)).length) ∧ n ≤ 1000000 ∧ Hid (Own wr w.heap.size A2 c2 (allNums (qs.take k))) ∧ Below w.heap.size w wr) (fun _ i _ => qs.length - (intOf i).toNat)
  case atStart => exact ⟨0, 0, none, 0, Nat.zero_le _, rfl, rfl, Lib.hid (by simp [allNums]), Nat.zero_le _, Lib.hid (by simpa [allNums] using own_none w w.heap.size), Below.refl _ _⟩
  case round =>
    obtain ⟨k, n, A2, c2, hk, rfl, rfl, HN, hn, HO, hb⟩ := hrel
    by_cases hlt : k < qs.length
    · obtain ⟨g, A', c', r, rfl, hq, hc0, hcap, hrd⟩ := hC.at_ hlt
      have hc := (hb.cell (p := ⟨g, k, none⟩) (World.block_lt_of_cell? w _ hc0)).trans hc0
      have hrl : r.length ≤ 1000 := HL2.out _ (List.mem_of_getElem? hq.out)
      have HR := Lib.hid (bySizeRow_any A' c' r wr (hrd.out.below hb) (by omega))
      have HS : Hid (allNums (qs.take (k + 1)) = allNums (qs.take k) ++ r) := Lib.hid (allNums_step hq.out)
      have hnr : n + r.length ≤ 1000000 := by
        have e1 := congrArg List.length HS.out
        have e2 : (allNums (qs.take (k + 1))).length ≤ (allNums qs).length := by
          have : allNums qs = allNums (qs.take (k + 1)) ++ allNums (qs.drop (k + 1)) := by
            unfold allNums
            rw [← List.flatten_append, ← List.map_append, List.take_append_drop]
          rw [this, List.length_append]; omega
        rw [List.length_append, ← HN.out] at e1
        omega
      clear hc0
      go_wp2_with fail
      refine HR.out.mono ?_
      rintro e w1 ⟨A3, c3, rfl, o3, b3⟩
      have B3 := hb.trans (b3.mono hb.size)
      have HO1 := Lib.hid (HO.out.below b3)
      have HO3 := Lib.hid o3.rd
      clear o3
      go_wp2_with (at_builtin; refine wpList_append_any rfl _ _ 29 Try.underlying29 rfl w.heap.size A2 c2 (allNums (qs.take k)) n HN.out.symm rfl HO1.out A3 c3 r r.length rfl rfl HO3.out (by omega) B3.size ?_; intro A4 c4 w4 o4 g4)
      have B4 := Own.grownBelow0 B3 HO1.out B3.size g4
      have HO4 : Hid (Own w4 w.heap.size A4 c4 (allNums (qs.take (k + 1)))) := Lib.hid (by rw [HS.out]; exact o4)
      have HN4 : Hid (n + r.length = (allNums (qs.take (k + 1))).length) := Lib.hid (by rw [HS.out, List.length_append, ← HN.out])
      clear o4 g4
      go_wp2
      go_roundw
      case rel => exact ⟨k + 1, n + r.length, A4, c4, by omega, by go_num, rfl, HN4, hnr, HO4, B4⟩
      case measure => simp [intOf]; omega
    · obtain rfl : k = qs.length := by omega
      have HN' : Hid (n = (allNums qs).length) := Lib.hid (by have := HN.out; rwa [List.take_length] at this)
      have HO' : Hid (Own wr w.heap.size A2 c2 (allNums qs)) := Lib.hid (by have := HO.out; rwa [List.take_length] at this)
      have HS := SortU_any w.heap.size A2 c2 (allNums qs) wr HO'.out (by omega)
      rw [← HN'.out] at HS
      have HS := Lib.hid HS
      clear HN HO
      go_wp2_with fail
      refine HS.out.mono ?_
      rintro e w1 ⟨rfl, o1, g1⟩
      have B1 := Own.grownBelow0 hb HO'.out hb.size g1
      have HV := ReverseU_any w.heap.size A2 c2 (srtU (allNums qs)) w1 o1 (by rw [srtU_len]; omega)
      rw [srtU_len, ← HN'.out] at HV
      have HV := Lib.hid HV
      have HO1 := Lib.hid o1
      clear o1 g1 HS
      go_wp2_with fail
      refine HV.out.mono ?_
      rintro e w2 ⟨rfl, o2, g2⟩
      have B2 := Own.grownBelow0 B1 HO1.out B1.size g2
      have HE : Hid (n = ((srtU (allNums qs)).reverse).length) := Lib.hid (by rw [List.length_reverse, srtU_len]; exact HN'.out)
      have HO2 := Lib.hid o2
      clear o2 g2 HV
      go_wp2
      go_ret
      exact ⟨A2, c2, by rw [← HE.out]; rfl, HO2.out, B2⟩

end Go.Proofs.Ytkkdffmpeadinaa
