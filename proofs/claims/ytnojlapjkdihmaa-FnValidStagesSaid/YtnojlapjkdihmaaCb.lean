/-
  Chapter 2: the contracts of RevenueAt and BestPrice, of the program and of the model.
-/
import Derived.Test.YtnojlapjkdihmaaCa
namespace Go.Proofs.Ytnojlapjkdihmaa
open Go.RowKit

theorem Rd.drop {w : World} {b off c : Nat} {xs : List Int} (h : Rd w (some ⟨b, off, none⟩) c xs) (m : Nat) : Rd w (some ⟨b, off + m, none⟩) (c - m) (xs.drop m) := by
  rcases h with ⟨rfl, _⟩ | ⟨b', off', hA, hc⟩
  · exact .inl ⟨by simp, fun h => by cases h⟩
  · injection hA with hA
    injection hA with h1 h2 h3
    subst h1 h2
    refine .inr ⟨b, off + m, rfl, fun k hk => ?_⟩
    rw [List.length_drop] at hk
    have := hc (m + k) (by omega)
    rw [List.getElem?_drop, Nat.add_assoc]
    exact this

theorem sumInts_n {n : Nat} {s : Int} (A : Option Addr) (c : Nat) (xs : List Int) (w : World) (hn : xs.length = n) (hs' : s = xs.sum) (h : Rd w A c xs) (hl : n ≤ 1048576) (hs : Small2 xs) :
    Calls Try.prog 151 #[.func (.func 152) #[] #[], .int .i64 0, .slice A n c] w fun e w' => e = .returned (.int .i64 s) ∧ w = w' := by
  subst hn hs'; exact sumInts_any A c xs w h hl hs

set_option maxHeartbeats 400000 in
theorem manyFrom_any (b off c : Nat) (xs : List Int) (v : Nat) (w : World) (h : Rd w (some ⟨b, off, none⟩) c xs) (hc : xs.length ≤ c) (hl : xs.length ≤ 1048576) (hv : v ≤ 1048576) (hs : Small2 xs) :
    Calls Try.prog 163 #[.slice (some ⟨b, off, none⟩) xs.length c, .int .i64 v] w fun e w' => e = .returned (.int .i64 (tailW xs v)) ∧ w = w' := by
  rcases Nat.lt_or_ge v xs.length with hlt | hge
  · have H := Lib.hid (sumInts_n (n := xs.length - v) (s := tailW xs v) _ _ (xs.drop v) w (by simp) rfl (h.drop v) (by omega) (fun x hx => hs x (List.mem_of_mem_drop hx)))
    have e : min (v : Int) (xs.length : Int) = v := by omega
    go_enter Try.func163, Try.ntmps163
    go_wp2_with fail
    refine H.out.mono ?_
    rintro e w' ⟨rfl, rfl⟩
    go_wp2
    go_ret
    exact ⟨rfl, rfl⟩
  · have H := Lib.hid (fun (o c' : Nat) => sumInts_n (n := 0) (s := tailW xs v) (some ⟨b, o, none⟩) c' [] w rfl (by rw [tailW_end _ _ hge]; simp) (.inl ⟨rfl, fun h => by cases h⟩) (by omega) (fun x hx => by cases hx))
    have e : min (v : Int) (xs.length : Int) = xs.length := by omega
    go_enter Try.func163, Try.ntmps163
    go_wp2_with fail
    all_goals
      refine (H.out _ _).mono ?_
      rintro e w' ⟨rfl, rfl⟩
      go_wp2
      go_ret
      exact ⟨rfl, rfl⟩

/-- What RevenueAt hands back. -/
def revF (xs : List Int) (p : Int) : Int := if (vW xs && inR p 0 6) = true then revW xs p.toNat else -1
theorem revF_yes {xs : List Int} {p : Nat} (h : vW xs = true) (hp : p ≤ 6) : revF xs p = revW xs p := by
  unfold revF; rw [h, inR_true.2 ⟨by omega, by omega⟩]; simp
theorem revF_bad {xs : List Int} {p : Int} (h : vW xs = false) : revF xs p = -1 := by unfold revF; rw [h]; simp
theorem revF_out {xs : List Int} {p : Int} (h : inR p 0 6 = false) : revF xs p = -1 := by unfold revF; rw [h]; simp
theorem vW_small {xs : List Int} (h : vW xs = true) : Small2 xs := fun x hx => by have := vW_mem h x hx; omega
theorem Rd.open1 {w : World} {A : Option Addr} {c : Nat} {xs : List Int} (h : Rd w A c xs) (h1 : 1 ≤ xs.length) : ∃ b off, A = some ⟨b, off, none⟩ := by
  rcases h with ⟨rfl, _⟩ | ⟨b, off, hA, _⟩
  · simp at h1
  · exact ⟨b, off, hA⟩
theorem rev_b {xs : List Int} (h : vW xs = true) (v : Nat) : 0 ≤ tailW xs v ∧ tailW xs v ≤ 36 := ⟨tailW_nn (vW_valid h) v, tailW_36 (vW_valid h) v⟩
theorem revW_nn {xs : List Int} (h : vW xs = true) (v : Nat) : 0 ≤ revW xs v := Int.mul_nonneg (by omega) (rev_b h v).1
theorem revW_le {xs : List Int} (h : vW xs = true) {v : Nat} (hv : v ≤ 6) : revW xs v ≤ 216 := by
  have h1 := rev_b h v
  have := Int.mul_le_mul (show (v : Int) ≤ 6 by omega) h1.2 h1.1 (by omega)
  unfold revW; omega

/-- The first of the prices below k that bring in most. -/
def bestG (xs : List Int) : Nat → Nat
  | 0 => 0
  | k + 1 => if revW xs (bestG xs k) < revW xs k then k else bestG xs k
theorem bestG_one (xs : List Int) : bestG xs 1 = 0 := by simp [bestG]
theorem bestG_lt (xs : List Int) : ∀ k, 1 ≤ k → bestG xs k < k
  | 1, _ => by rw [bestG_one]; omega
  | k + 2, _ => by have := bestG_lt xs (k + 1) (by omega); rw [bestG]; split <;> omega
theorem bestG_yes {xs : List Int} {k b : Nat} (hb : b = bestG xs k) (h : revW xs b < revW xs k) : k = bestG xs (k + 1) := by subst hb; rw [bestG, if_pos h]
theorem bestG_no {xs : List Int} {k b : Nat} (hb : b = bestG xs k) (h : ¬ revW xs b < revW xs k) : b = bestG xs (k + 1) := by subst hb; rw [bestG, if_neg h]
theorem bestG_more {xs : List Int} (h : vW xs = true) : ∀ d, bestG xs (xs.length + d) = bestG xs xs.length
  | 0 => rfl
  | d + 1 => by
    rw [← Nat.add_assoc, bestG, bestG_more h d, if_neg]
    have := revW_nn h (bestG xs xs.length)
    have e : revW xs (xs.length + d) = 0 := by unfold revW; rw [tailW_end _ _ (by omega)]; simp
    omega
theorem bestG_7 {xs : List Int} (h : vW xs = true) : bestG xs 7 = bestG xs xs.length := by
  have := vW_le h
  rw [← bestG_more h (7 - xs.length), show xs.length + (7 - xs.length) = 7 by omega]
theorem bestG_max (xs : List Int) : ∀ k u, u < k → revW xs u ≤ revW xs (bestG xs k)
  | 0, u, h => by omega
  | k + 1, u, h => by
    have := bestG_max xs k u
    rw [bestG]
    split
    · rcases Nat.eq_or_lt_of_le (show u ≤ k by omega) with rfl | h2
      · omega
      · have := this h2; omega
    · rcases Nat.eq_or_lt_of_le (show u ≤ k by omega) with rfl | h2
      · omega
      · exact this h2
theorem bestG_first (xs : List Int) : ∀ k u, u < bestG xs k → revW xs u < revW xs (bestG xs k)
  | 0, u, h => by rw [bestG] at h; omega
  | k + 1, u, h => by
    rw [bestG] at h ⊢
    split
    · rename_i hlt
      rw [if_pos hlt] at h
      have := bestG_max xs k u h
      omega
    · rename_i hge
      rw [if_neg hge] at h
      exact bestG_first xs k u h

/-- What BestPrice hands back. -/
def bestP (xs : List Int) : Int := if vW xs = true then bestG xs xs.length else -1

end Go.Proofs.Ytnojlapjkdihmaa
