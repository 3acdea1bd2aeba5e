/-
  Chapter 6: the program's SwapsByMoves; both sides.
-/
import Derived.Test.YtpildecpabeanaaG21
import Derived.Test.YtpildecpabeanaaG07
import Derived.StillTailTactics
import Derived.Test.YtpildecpabeanaaG20
namespace Go.Proofs.Ytpildecpabeanaa
open Go.RowKit

theorem maB_mv {t : List Int} (h : mvB t = true) {s x : Nat} (hs : s < 8) (hx : x < 8) : maB t s x = true := maB_true (fun i hi h1 h0 => (mvB_iff.1 h).2 s hs x hx i hi h1 h0)
theorem mvB_no {t : List Int} {s x : Nat} (hs : s < 8) (hx : x < 8) (h : maB t s x = false) : mvB t = false := by
  rcases hb : mvB t with _ | _
  · rfl
  · rw [maB_mv hb hs hx] at h; cases h

end Go.Proofs.Ytpildecpabeanaa

/-
  Chapter 6: what is in demand, by the model.
-/
namespace Go.Proofs.Ytpildecpabeanaa
open Go.RowKit

/-- What a call hands back: a slice in a block of its own, or none, that holds zs; what was there is as it was. -/
def OwnIs (w : World) (zs : List Int) (e : Ending) (w' : World) : Prop := ∃ A c, e = .returned (.slice A zs.length c) ∧ Own w' w.heap.size A c zs ∧ Below w.heap.size w w'

theorem calls_l {P : Program} {f : FuncId} {args : Array Value} {w : World} {n : Nat} {v : Value} (h : Calls P f args (w.drewN n) fun e w' => e = .returned v ∧ ∃ k, w' = (w.drewN n).drewN k) :
    Calls P f args (w.drewN n) fun e w'' => e = .returned v ∧ ∃ k, w'' = w.drewN k := h.mono fun _ _ ⟨he, k, hw⟩ => ⟨he, n + k, by rw [hw, World.drewN_drewN]⟩

end Go.Proofs.Ytpildecpabeanaa

/-
  Chapter 6: the program's prices: arePrices, isPriced, leftAt.
-/
namespace Go.Proofs.Ytpildecpabeanaa
open Go.RowKit

theorem isPrice_any (n : Int) (w : World) :
    Calls Try.prog 107 #[.int .i64 n] w fun e w' => e = .returned (.bool (inR n 0 40)) ∧ w = w' := by
  by_cases h1 : 0 ≤ n
  · by_cases h2 : n ≤ 40
    · have HE := Lib.hid (inR_true.2 ⟨h1, h2⟩)
      go_enter Try.func107, Try.ntmps107
      go_wp2
      go_ret
      exact ⟨by rw [HE.out]; rfl, rfl⟩
    · have HE := Lib.hid (inR_false.2 (fun h : 0 ≤ n ∧ n ≤ 40 => h2 h.2))
      go_enter Try.func107, Try.ntmps107
      go_wp2
      go_ret
      exact ⟨by rw [HE.out]; rfl, rfl⟩
  · have HE := Lib.hid (inR_false.2 (fun h : 0 ≤ n ∧ n ≤ 40 => h1 h.1))
    go_enter Try.func107, Try.ntmps107
    go_wp2
    go_ret
    exact ⟨by rw [HE.out]; rfl, rfl⟩

theorem vp_all {p : List Int} (h : p.all (fun x => inR x 0 40) = true) (h3 : p.length = 3) : vp p = true := vp_of (fun i hi => by
  have hm : T p i ∈ p := by unfold T; rw [List.getD_eq_getElem?_getD, List.getElem?_eq_getElem hi]; exact List.getElem_mem hi
  exact inR_true.1 (List.all_eq_true.1 h _ hm)) h3
theorem vp_bad {p : List Int} {k : Nat} {x : Int} (hx : p[k]? = some x) (hb : inR x 0 40 = false) : vp p = false := vp_false (fun hv => by
  have hk : k < p.length := by rcases Nat.lt_or_ge k p.length with h1 | h1; exact h1; rw [List.getElem?_eq_none h1] at hx; cases hx
  have := hv.2 k (by have := hv.1; omega)
  rw [T_of hx] at this
  rw [inR_true.2 this] at hb
  cases hb)

set_option maxHeartbeats 400000 in
theorem areNums_any (A : Option Addr) (c : Nat) (xs : List Int) (w : World) (h : Rd w A c xs) (h3 : xs.length = 3) :
    Calls Try.prog 78 #[.slice A 3 c, .int .i64 3, .func (.func 107) #[] #[]] w fun e w' => e = .returned (.bool (vp xs)) ∧ w = w' := by
  have HV := Lib.hid (fun (h : xs.all (fun x => inR x 0 40) = true) => vp_all h h3)
  go_enter Try.func78, Try.ntmps78
  go_wp2
  go_loop [20] (fun i => ∃ k : Nat, k ≤ 3 ∧ i = .int .i64 k ∧ Hid ((xs.take k).all (fun x => inR x 0 40) = true)) (fun i => 3 - (intOf i).toNat)
  case atStart => exact ⟨0, Nat.zero_le _, rfl, Lib.hid rfl⟩
  case round =>
    obtain ⟨k, hk, rfl, HT⟩ := hrel
    by_cases hlt : k < 3
    · obtain ⟨b, off, x, rfl, _, hx, hc⟩ := h.at_ (k := k) (by omega)
      go_wp2_with fail
      refine (isPrice_any _ _).mono ?_
      rintro e w' ⟨rfl, rfl⟩
      cases hb : inR x 0 40 with
      | true =>
        have HT' := Lib.hid (all_step hx.out hb HT.out)
        clear hb
        go_wp2
        go_round
        case rel => exact ⟨k + 1, by omega, by go_num, HT'⟩
        case measure => simp [intOf]; omega
      | false =>
        have HE := Lib.hid (vp_bad hx.out hb)
        clear hb
        go_wp2
        go_ret
        exact ⟨by rw [HE.out]; rfl, rfl⟩
    · obtain rfl : k = 3 := by omega
      have HE := Lib.hid (HV.out (by have := HT.out; rwa [List.take_of_length_le (by omega)] at this))
      go_wp2
      go_ret
      exact ⟨by rw [HE.out]; rfl, rfl⟩

/-- What the first i things of a set cost. -/
def prTh (p : List Int) (s i : Nat) : Int := ((th s).take i).foldl (fun m j => m + T p j.toNat) 0
theorem prTh_zero (p : List Int) (s : Nat) : prTh p s 0 = 0 := by simp [prTh]
theorem prTh_step (p : List Int) {s i j : Nat} (h : (th s)[i]? = some (j : Int)) : prTh p s (i + 1) = prTh p s i + T p j := by
  unfold prTh
  rw [List.take_add_one, h, List.foldl_append]
  simp
theorem prTh_all (p : List Int) {s : Nat} (hs : s < 8) : prTh p s (th s).length = pr p s := by
  unfold prTh
  rw [List.take_length]
  have v := pr_vals p
  rcases nat8 hs with rfl | rfl | rfl | rfl | rfl | rfl | rfl | rfl <;> simp [th, thTo] <;> omega
theorem prTh_bd {p : List Int} (hp : VP p) {s : Nat} : ∀ i, i ≤ 3 → 0 ≤ prTh p s i ∧ prTh p s i ≤ 40 * i := by
  intro i
  induction i with
  | zero => intro _; rw [prTh_zero]; omega
  | succ i ih =>
    intro hi
    have h1 := ih (by omega)
    rcases hx : (th s)[i]? with _ | x
    · unfold prTh at h1 ⊢
      rw [List.take_add_one, hx]
      simp only [Option.toList_none, List.append_nil]
      omega
    · obtain ⟨j, rfl, hj, _⟩ := th_at hx
      rw [prTh_step p hx]
      have := hp.2 j hj
      omega
/-- Where leftAt stands: the sets ahead of s are done, and of s the first i things. -/
def lfS (t p : List Int) (s i : Nat) : List Int := (List.range 8).map (fun x => if x < s then lf t p x else if x = s then T t x - prTh p s i else T t x)
theorem lfS_len (t p : List Int) (s i : Nat) : (lfS t p s i).length = 8 := by simp [lfS]
theorem lfS_at (t p : List Int) (s i : Nat) {x : Nat} (hx : x < 8) : T (lfS t p s i) x = if x < s then lf t p x else if x = s then T t x - prTh p s i else T t x := by
  apply T_of
  simp [lfS, hx]
theorem ext8 {l m : List Int} (hl : l.length = 8) (hm : m.length = 8) (h : ∀ x, x < 8 → T l x = T m x) : l = m := by
  apply List.ext_getElem (by omega)
  intro i h1 h2
  have := h i (by omega)
  rw [T_of (List.getElem?_eq_getElem h1), T_of (List.getElem?_eq_getElem h2)] at this
  exact this
theorem lfS_start {t p : List Int} (hl : t.length = 8) : lfS t p 0 0 = t := ext8 (lfS_len _ _ _ _) hl (fun x hx => by
  rw [lfS_at _ _ _ _ hx, if_neg (by omega), prTh_zero]
  split <;> omega)
theorem lfS_step {t p : List Int} {s i : Nat} (hs : s < 8) : lfS t p s (i + 1) = (lfS t p s i).set s (T t s - prTh p s (i + 1)) := ext8 (lfS_len _ _ _ _) (by rw [List.length_set]; exact lfS_len _ _ _ _) (fun x hx => by
  rw [T_set (by rw [lfS_len]; exact hs), lfS_at _ _ _ _ hx, lfS_at _ _ _ _ hx]
  by_cases h1 : x < s
  · rw [if_pos h1, if_neg (by omega), if_pos h1]
  · rw [if_neg h1]
    by_cases h2 : x = s
    · rw [if_pos h2, if_pos h2.symm, h2]
    · rw [if_neg h2, if_neg (fun h => h2 h.symm), if_neg h1, if_neg h2])
theorem lfS_row {t p : List Int} {s : Nat} (hs : s < 8) : lfS t p s (th s).length = lfS t p (s + 1) 0 := ext8 (lfS_len _ _ _ _) (lfS_len _ _ _ _) (fun x hx => by
  rw [lfS_at _ _ _ _ hx, lfS_at _ _ _ _ hx, prTh_all p hs, prTh_zero]
  by_cases h1 : x < s
  · rw [if_pos h1, if_pos (by omega)]
  · rw [if_neg h1]
    by_cases h2 : x = s
    · rw [if_pos h2, if_pos (by omega), h2]; rfl
    · rw [if_neg h2, if_neg (by omega)]; split <;> omega)
theorem lfS_end {t p : List Int} {x : Nat} (hx : x < 8) : T (lfS t p 8 0) x = lf t p x := by rw [lfS_at _ _ _ _ hx, if_pos hx]
theorem lfS_bd {t p : List Int} (hv : VT t) (hp : VP p) {s i x : Nat} (hx : x < 8) (hi : i ≤ 3) : -120 ≤ T (lfS t p s i) x ∧ T (lfS t p s i) x ≤ 30 := by
  have h1 := lf_bd hv hp hx
  have h2 := hv.bd hx
  have h3 := prTh_bd hp (s := s) i hi
  rw [lfS_at _ _ _ _ hx]
  split
  · exact h1
  · split <;> omega

/-- The value of an array of three prices. -/
def ag3 (p : List Int) : Value := .agg #[.int .i64 (T p 0), .int .i64 (T p 1), .int .i64 (T p 2)]

theorem Rd.other {w : World} {A : Option Addr} {c m k : Nat} {v : Value} {zs : List Int} (h : Rd w A c zs) (hne : ofA A ≠ some m) : Rd (w.setCell ⟨m, k, none⟩ v) A c zs := by
  rcases h with h | ⟨b, off, rfl, hc⟩
  · exact .inl h
  · refine .inr ⟨b, off, rfl, fun j hj => ?_⟩
    rw [← hc j hj]
    unfold World.cell?
    rw [Below.heap_setCell w ⟨m, k, none⟩ v b (fun e => hne (by show some b = some m; rw [e]))]
theorem own_blk {w : World} {B k : Nat} {A : Option Addr} {c : Nat} {xs : List Int} (h : Own w B A c xs) (hk : ofA A = some k) : B ≤ k ∧ k < w.heap.size :=
  World.ownsRow.lt h k (by rw [own_block]; exact hk)
end Go.Proofs.Ytpildecpabeanaa
