/-
  Chapter 1, the program: the contracts of bidOfRank, of the sales, of saleOf and of SaleBy.
-/
import Derived.Test.YtcbhjcbbjegmiaaImplA
namespace Go.Proofs.Ytcbhjcbbjegmiaa
open Go.RowKit

theorem rank_srt {xs : List Int} {k : Nat} {y : Int} (h1 : 1 ≤ k) (h2 : k ≤ xs.length) (hy : (srt xs)[xs.length - k]? = some y) : nthG (k - 1) xs = y := by
  rw [nth_sorted (k - 1) xs (srt xs) (srt_asc xs) (List.mergeSort_perm xs _) (by omega), show xs.length - 1 - (k - 1) = xs.length - k by omega, getD_of hy]

theorem bidOfRank_any (b off c : Nat) (xs : List Int) (k : Nat) (w : World) (h : Rd w (some ⟨b, off, none⟩) c xs) (hl : xs.length ≤ 1048576) (hk1 : 1 ≤ k) (hk2 : k ≤ 1048576) :
    Calls Try.prog 77 #[.slice (some ⟨b, off, none⟩) xs.length c, .int .i64 k] w fun e w' => e = .returned (.int .i64 (nthG (k - 1) xs)) ∧ Below w.heap.size w w' := by
  have hl2 : xs.length ≤ 1099511627776 := by omega
  by_cases hk : xs.length < k
  · have HE := Lib.hid (nthG_behind (k - 1) xs (by omega))
    go_enter Try.func77, Try.ntmps77
    go_wp2
    go_ret
    exact ⟨by rw [HE.out]; rfl, Below.refl _ _⟩
  · have hi : xs.length - k < (srt xs).length := by rw [srt_len]; omega
    obtain ⟨y, hy⟩ := at_some hi
    have HE := Lib.hid (rank_srt hk1 (by omega) hy)
    have HY := Lib.hid hy
    have hki : (k : Int) ≤ (xs.length : Int) := by omega
    have hle : k ≤ xs.length := by omega
    clear hy hk hi
    go_enter Try.func77, Try.ntmps77
    go_wp2_with fail
    refine (Clone_any _ _ _ _ _ h hl2).mono ?_
    rintro e w1 ⟨g, c1, rfl, ho, hb⟩
    go_wp2_with fail
    refine (Sort_any _ _ _ _ _ ho hl2).mono ?_
    rintro e w2 ⟨rfl, ho2, hg2⟩
    have hc := ho2.cell HY.out
    have hb2 := hb.grown hg2 hb.size (fun k hk => by cases hk; exact ho.ge)
    go_wp2
    go_ret
    exact ⟨by rw [HE.out]; rfl, hb2⟩

/-- What a sale's payments are. -/
def PayIs (w : World) (xs : List Int) (kd : Nat) (r : Int) (e : Ending) (w' : World) : Prop :=
  ∃ g c, e = .returned (.slice (some ⟨g, 0, none⟩) xs.length c) ∧ Own w' w.heap.size (some ⟨g, 0, none⟩) c (payOf kd xs r) ∧ Below w.heap.size w w'

set_option maxHeartbeats 400000 in
theorem price_any (b off c : Nat) (xs : List Int) (kd : Nat) (r : Int) (rb : Nat) (w : World) (h : Rd w (some ⟨b, off, none⟩) c xs) (h1 : 1 ≤ xs.length) (hl : xs.length ≤ 1048576) (hk1 : 1 ≤ kd) (hk2 : kd ≤ 3)
    (hr : w.cell? ⟨rb, 0, none⟩ = some (.int .i64 kd)) :
    Calls Try.prog 76 #[.slice (some ⟨b, off, none⟩) xs.length c, .int .i64 (atOf xs r), .int .i64 r, .pointer (some ⟨rb, 0, none⟩)] w (PayIs w xs kd r) := by
  have hl2 : xs.length ≤ 1099511627776 := by omega
  have hrl := World.block_lt_of_cell? w _ hr
  by_cases hlt : xs.getD (gr xs xs.length) 0 < r
  · have HP := Lib.hid (payOf_none (kd := kd) (by omega) hlt)
    rw [atOf_none hlt]
    clear hlt
    go_enter Try.func76, Try.ntmps76
    go_wp2_with (at_make; refine wpList_make_ints rfl _ _ rfl w.heap.size xs.length rfl rfl hl2 (Nat.le_refl _) ?_; intro w0 ho hb)
    go_ret
    exact ⟨_, _, rfl, by rw [HP.out]; exact ho, hb⟩
  · have HP := Lib.hid (payOf_some (kd := kd) (by omega) hlt)
    rw [atOf_some hlt]
    have hm := gr_lt xs xs.length h1
    obtain ⟨m, hM⟩ : ∃ m, m = gr xs xs.length := ⟨_, rfl⟩
    obtain ⟨y, hY⟩ : ∃ y, y = nthG (kd - 1) xs := ⟨_, rfl⟩
    rw [← hM] at hm HP ⊢
    have HY := Lib.hid hY
    clear hlt hM hY
    go_enter Try.func76, Try.ntmps76
    go_wp2_with (first
      | (at_make; refine wpList_make_ints rfl _ _ rfl w.heap.size xs.length rfl rfl hl2 (Nat.le_refl _) ?_; intro w0 ho hb; have hr0 : w0.cell? ⟨rb, 0, none⟩ = some (.int .i64 kd) := (hb.cell (p := ⟨rb, 0, none⟩) hrl).trans hr)
      | fail)
    refine (bidOfRank_any _ _ _ _ _ _ (h.below hb) hl hk1 (by omega)).mono ?_
    rw [← HY.out]
    rintro e w1 ⟨rfl, hb1⟩
    have ho1 := ho.below hb1
    have hz : w1.cell? ⟨w.heap.size, m, none⟩ = some (.int .i64 0) := ho1.cell (by simp [hm])
    have hf := ho1.free m
    have HS := Lib.hid (fun v => ho1.set_ m v)
    go_wp2
    go_ret
    refine ⟨_, _, rfl, ?_, (hb.trans (hb1.mono hb.size)).setCell (Nat.le_refl _) _⟩
    rw [HP.out, ← HY.out]
    exact HS.out _

theorem allPay_any (b off c : Nat) (xs : List Int) (at_ r : Int) (w : World) (h : Rd w (some ⟨b, off, none⟩) c xs) (hl : xs.length ≤ 1048576) :
    Calls Try.prog 71 #[.slice (some ⟨b, off, none⟩) xs.length c, .int .i64 at_, .int .i64 r] w (PayIs w xs 4 r) := by
  have hl2 : xs.length ≤ 1099511627776 := by omega
  go_enter Try.func71, Try.ntmps71
  go_wp2_with fail
  refine (Clone_any _ _ _ _ _ h hl2).mono ?_
  rintro e w1 ⟨g, c1, rfl, ho, hb⟩
  go_wp2
  go_ret
  exact ⟨g, c1, rfl, by rw [payOf_all]; exact ho, hb⟩

/-- The function value v is the sale of the kind kd. -/
def FnIs (w : World) (v : Value) (kd : Nat) : Prop :=
  (1 ≤ kd ∧ kd ≤ 3 ∧ ∃ rb, v = .func (.func 76) #[] #[.pointer (some ⟨rb, 0, none⟩)] ∧ w.cell? ⟨rb, 0, none⟩ = some (.int .i64 kd)) ∨
  (kd = 4 ∧ v = .func (.func 71) #[] #[])

theorem FnIs.below {w w' : World} {v : Value} {kd : Nat} (h : FnIs w v kd) (hb : Below w.heap.size w w') : FnIs w' v kd := by
  rcases h with ⟨h1, h2, rb, hv, hc⟩ | h
  · exact .inl ⟨h1, h2, rb, hv, (hb.cell (p := ⟨rb, 0, none⟩) (World.block_lt_of_cell? w _ hc)).trans hc⟩
  · exact .inr h
theorem FnIs.drewN {w : World} {v : Value} {kd : Nat} (h : FnIs w v kd) (n : Nat) : FnIs (w.drewN n) v kd := h

theorem saleOf_yes (s : ByteArray) (kd : Nat) (w : World) (hk : KindIs s kd) :
    Calls Try.prog 46 #[.string s] w fun e w' => ∃ v, e = .returned v ∧ FnIs w' v kd ∧ Below w.heap.size w w' := by
  rcases hk with ⟨rfl, rfl⟩ | ⟨rfl, rfl⟩ | ⟨rfl, rfl⟩ | ⟨rfl, rfl⟩
  · go_enter Try.func46, Try.ntmps46
    go_wp2
    go_ret
    exact ⟨_, rfl, .inl ⟨by decide, by decide, _, rfl, by simp⟩, (Below.refl _ _).alloc (Nat.le_refl _) _⟩
  · go_enter Try.func46, Try.ntmps46
    go_wp2
    go_ret
    exact ⟨_, rfl, .inl ⟨by decide, by decide, _, rfl, by simp⟩, (Below.refl _ _).alloc (Nat.le_refl _) _⟩
  · go_enter Try.func46, Try.ntmps46
    go_wp2
    go_ret
    exact ⟨_, rfl, .inl ⟨by decide, by decide, _, rfl, by simp⟩, (Below.refl _ _).alloc (Nat.le_refl _) _⟩
  · go_enter Try.func46, Try.ntmps46
    go_wp2
    go_ret
    exact ⟨_, rfl, .inr ⟨rfl, rfl⟩, Below.refl _ _⟩

theorem saleOf_no (s : ByteArray) (w : World) (hk : NoKind s) :
    Calls Try.prog 46 #[.string s] w fun e w' => e = .returned .nilFunc ∧ w = w' := by
  obtain ⟨h1, h2, h3, h4⟩ := hk
  go_enter Try.func46, Try.ntmps46
  go_wp2
  go_ret
  exact ⟨rfl, rfl⟩

end Go.Proofs.Ytcbhjcbbjegmiaa
