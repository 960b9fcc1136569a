/- The reference's Number, bracketed, text. The reference's text of an expression. Lines, piece by piece; how long they are (no program in it). The reference's list of expressions. The reference's lines. The reference's Stmts and Expr. The reference's decl. The reference's decl, walked: ranges, var, array. The reference's decl of a procedure. The reference's Program. -/
import Derived.Test.YtejifkeeihkcjaaDoorGPrE
import Derived.Test.YtejifkeeihkcjaaDoorGAstV
import Derived.Lib.ItoaLen
import Derived.Laws.Concat
namespace Go.Proofs.YtejifkeeihkcjaaDoor
section
open Go.RowKit

/-! ### Texts, piece by piece -/
/-- An operand's text, in brackets or not. -/
def brT (b : Bool) (e : XV) : List UInt8 := if b then 40 :: (textX e ++ [41]) else textX e
theorem byts_br {e : XV} (b : Bool) (g : List UInt8) (h : ∀ g, byts (layX e g) = g ++ textX e) : byts (brL b (layX e) g) = g ++ brT b e := by
  unfold brL brT
  cases b with
  | false => simp [h g]
  | true => simp [byts_cons, byts_append, h []]; rfl
theorem byts_g (e : XV) (h : RX e) : ∀ g, byts (layX e g) = g ++ textX e := by
  unfold textX
  induction h with
  | num n l c h => intro g; rw [layX_num, layX_num]; simp [byts]
  | var x l c h => intro g; rw [layX_var, layX_var]; simp [byts]
  | idx x a l c h ha ih => intro g; simp only [layX_idx, byts_cons]; simp
  | un o a l c h ha ih => intro g; simp only [layX_un, byts_cons]; simp
  | bin o a b l c h ha hb iha ihb =>
    intro g
    rw [layX_bin, layX_bin, byts_append, byts_append, byts_br _ g (fun g => by unfold textX; exact iha g), byts_br _ [] (fun g => by unfold textX; exact iha g)]
    simp
section
variable (n o l c : Int) (x : List UInt8) (a b : XV)
theorem textX_num : textX (.mk 0 n [] 0 [] l c) = numT n := by unfold textX; rw [layX_num]; simp [byts]
theorem textX_var : textX (.mk 1 0 x 0 [] l c) = x := by unfold textX; rw [layX_var]; simp [byts]
theorem textX_idx : textX (.mk 2 0 x 0 [a] l c) = x ++ 91 :: (textX a ++ [93]) := by
  unfold textX
  rw [layX_idx, byts_cons, byts_cons, byts_append]
  simp [byts]
theorem textX_un (ha : RX a) : textX (.mk 3 0 [] o [a] l c) = txt6 o ++ brT (decide (a.k = 4)) a := by
  unfold textX
  rw [layX_un, byts_cons, byts_br _ _ (byts_g a ha)]
  simp
theorem textX_bin (ha : RX a) (hb : RX b) : textX (.mk 4 0 [] o [a, b] l c) = brT (decide (a.k = 4 ∧ lev6 a.o < lev6 o)) a ++ 32 :: (txt6 o ++ 32 :: brT (decide (b.k = 4 ∧ lev6 b.o ≤ lev6 o)) b) := by
  unfold textX
  rw [layX_bin, byts_append, byts_cons, byts_br _ _ (byts_g a ha), byts_br _ _ (byts_g b hb)]
  simp
end
theorem num_len {n : Int} (h : num6 n = true) (hn : n ≤ 9223372036854775807) : (numT n).length ≤ 22 := by
  unfold numT
  split
  · have := Lib.itoa_length_le (-9223372036854775808) (by omega) (by omega)
    have e : Lib.itoa (-9223372036854775808) = 45 :: Lib.decDigits 9223372036854775808 := Lib.itoa_neg 9223372036854775808 (by omega)
    rw [e, List.length_cons] at this
    omega
  · have h := of_decide_eq_true (show decide _ = true from h)
    have := Lib.itoa_length_le n (by omega) hn
    omega
theorem brT_len (b : Bool) (e : XV) : (brT b e).length ≤ (textX e).length + 2 := by
  unfold brT
  split <;> simp
theorem ops_len : ∀ o : Int, (txt6 o).length ≤ 2 := fun q => by
  unfold txt6
  split
  · next h =>
    obtain ⟨k, hk⟩ : ∃ k : Nat, q.toNat = k := ⟨_, rfl⟩
    rw [hk]
    have : ∀ k : Fin 21, (ops6.getD k.val []).length ≤ 2 := by decide
    exact this ⟨k, by omega⟩
  · simp
theorem name_len {x : List UInt8} (h : name6 x = true) : x.length ≤ 32 := by
  unfold name6 word6 at h
  rw [Bool.and_eq_true, Bool.and_eq_true] at h
  exact of_decide_eq_true h.1.2
theorem textX_len (e : XV) (h : RX e) (hin : In e) : (textX e).length ≤ 64 * xsz1 e := by
  induction h with
  | num n l c h => rw [textX_num]; have := num_len h hin.n; simp only [xsz1_eq]; omega
  | var x l c h => rw [textX_var]; have := name_len h; simp only [xsz1_eq]; omega
  | idx x a l c h ha ih =>
    have := ih (hin.gs a (by simp [XV.gs]))
    have := name_len h
    rw [textX_idx]
    simp only [xsz1_eq, XV.gs, xsz, List.length_append, List.length_cons, List.length_nil] at *
    omega
  | un o a l c h ha ih =>
    have := ih (hin.gs a (by simp [XV.gs]))
    have := ops_len o
    have := brT_len (decide (a.k = 4)) a
    rw [textX_un _ _ _ _ ha]
    simp only [xsz1_eq, XV.gs, xsz, List.length_append] at *
    omega
  | bin o a b l c h ha hb iha ihb =>
    have := iha (hin.gs a (by simp [XV.gs]))
    have := ihb (hin.gs b (by simp [XV.gs]))
    have := ops_len o
    have := brT_len (decide (a.k = 4 ∧ lev6 a.o < lev6 o)) a
    have := brT_len (decide (b.k = 4 ∧ lev6 b.o ≤ lev6 o)) b
    rw [textX_bin _ _ _ _ _ ha hb]
    simp only [xsz1_eq, XV.gs, xsz, List.length_append, List.length_cons] at *
    omega
/-- Texts as values; joined. -/
def bs (l : List UInt8) : ByteArray := ⟨l.toArray⟩
theorem bs_add (a b : List UInt8) : bs a ++ bs b = bs (a ++ b) := by
  apply ByteArray.ext
  simp [bs]
theorem bs_size (a : List UInt8) : (bs a).size = a.length := by simp [bs, ByteArray.size]

theorem seven {w : World} {k n o l c : Int} {x : List UInt8} {gs : List XV} {A : Option Addr} {cap : Nat} {T : TypeId} : Box (w.alloc (.cells #[.int .i64 k, .int .i64 n, .string ⟨x.toArray⟩, .int .i64 o, .slice A gs.length cap, .int .i64 l, .int .i64 c] T)) w.heap.size [.int .i64 k, .int .i64 n, .string ⟨x.toArray⟩, .int .i64 o, .slice A gs.length cap, .int .i64 l, .int .i64 c] := Box.new w [.int .i64 k, .int .i64 n, .string ⟨x.toArray⟩, .int .i64 o, .slice A gs.length cap, .int .i64 l, .int .i64 c] T
end

section
open Go.RowKit

theorem bs_app3 (a b c : List UInt8) : bs a ++ bs b ++ bs c = bs (a ++ (b ++ c)) := by rw [bs_add, bs_add, List.append_assoc]
theorem add_run (a b : ByteArray) (h : a.size + b.size ≤ 9223372036854775807) (w : World) : (Go.Op.stringOp .add a b).run Tryd.prog w = .ok (.string (a ++ b)) w := run_string_add_sum (P := Tryd.prog) w a b h
/-- A row of one element. -/
theorem XR.first {W : World} {A : Option Addr} {a : XV} {r : List XV} (h : XR W A (a :: r)) : ∃ ad, A = some ad ∧ XE W ad a := by
  obtain ⟨ad, e, h1, h2, h3⟩ := XR.el (i := 0) h (by simp)
  simp at h2
  subst h2
  exact ⟨ad, h1, by simpa [Addr.add] using h3⟩
/-- The second one. -/
theorem XR.second {W : World} {ad : Addr} {a b : XV} (h : XR W (some ad) [a, b]) : XE W ⟨ad.block, ad.off + 7, none⟩ b := by
  obtain ⟨ad', e, h1, h2, h3⟩ := XR.el (i := 1) h (by simp)
  simp at h2
  subst h2
  injection h1 with h1
  subst h1
  simpa [Addr.add] using h3
end

section
open Go.RowKit

/-- The blanks ahead of a line. -/
def ahd (d : Nat) : List UInt8 := List.replicate (2 * d) 32
theorem nl_ahd (d : Nat) : nl d = 10 :: ahd d := rfl
theorem ahd_succ (d : Nat) : ahd d ++ [32, 32] = ahd (d + 1) := by
  unfold ahd
  rw [show 2 * (d + 1) = 2 * d + 2 by omega, ← List.replicate_append_replicate]
  rfl
theorem ahd_len (d : Nat) : (ahd d).length = 2 * d := by simp [ahd]
theorem linesB_eq {l : List SV} (h : ∀ s ∈ l, RS s) (d : Nat) : byts (layB l d) ++ [10] = 10 :: linesB l d := by
  obtain ⟨y, e⟩ := bytsB_nl l h d
  unfold linesB
  rw [e]
  rfl
theorem lineS_eq {s : SV} (d : Nat) {y : List UInt8} (h : byts (layS s d) = 10 :: y) : lineS s d = y ++ [10] := by
  unfold lineS
  rw [h]
  rfl
section
variable (x : List UInt8) (e i : XV) (es : List XV) (ts us : List SV) (l c : Int) (d : Nat)
theorem lineS_assign (he : RX e) : lineS (.mk 0 x [e] [] [] l c) d = ahd d ++ (x ++ ([32, 61, 32] ++ (textX e ++ [59, 10]))) := by
  rw [lineS_eq d (y := ahd d ++ (x ++ ([32, 61, 32] ++ (textX e ++ [59]))))]
  · simp
  · rw [layS_assign]
    simp only [byts_cons, byts_append, byts_g e he, nl_ahd]
    simp [byts]
theorem lineS_store (hi : RX i) (he : RX e) : lineS (.mk 1 x [i, e] [] [] l c) d = ahd d ++ (x ++ ([91] ++ (textX i ++ ([93, 32, 61, 32] ++ (textX e ++ [59, 10]))))) := by
  rw [lineS_eq d (y := ahd d ++ (x ++ ([91] ++ (textX i ++ ([93, 32, 61, 32] ++ (textX e ++ [59]))))))]
  · simp
  · rw [layS_store]
    simp only [byts_cons, byts_append, byts_g e he, byts_g i hi, nl_ahd]
    simp [byts]
theorem lineS_iff (he : RX e) (ht : ∀ s ∈ ts, RS s) (hu : ∀ s ∈ us, RS s) : lineS (.mk 2 [] [e] ts us l c) d = ahd d ++ ([105, 102, 32] ++ (textX e ++ ([32, 123, 10] ++ (linesB ts (d + 1) ++ (ahd d ++ ((if us.isEmpty then [] else [125, 32, 101, 108, 115, 101, 32, 123, 10] ++ (linesB us (d + 1) ++ ahd d)) ++ [125, 10])))))) := by
  have h1 := linesB_eq ht (d + 1)
  have h2 := linesB_eq hu (d + 1)
  rw [lineS_eq d (y := ahd d ++ ([105, 102, 32] ++ (textX e ++ ([32, 123, 10] ++ (linesB ts (d + 1) ++ (ahd d ++ ((if us.isEmpty then [] else [125, 32, 101, 108, 115, 101, 32, 123, 10] ++ (linesB us (d + 1) ++ ahd d)) ++ [125])))))))]
  · simp
  · rw [layS_iff]
    have e1 : ∀ r : List UInt8, byts (layB ts (d + 1)) ++ 10 :: r = 10 :: (linesB ts (d + 1) ++ r) := fun r => by
      have := congrArg (· ++ r) h1
      simpa using this
    have e2 : ∀ r : List UInt8, byts (layB us (d + 1)) ++ 10 :: r = 10 :: (linesB us (d + 1) ++ r) := fun r => by
      have := congrArg (· ++ r) h2
      simpa using this
    by_cases h0 : us.isEmpty
    · rw [if_pos h0, if_pos h0]
      simp only [byts_cons, byts_append, byts_g e he, nl_ahd, kIf]
      generalize byts (layB ts (d + 1)) = bt at *
      simp [byts, e1]
    · rw [if_neg h0, if_neg h0]
      simp only [byts_cons, byts_append, byts_g e he, nl_ahd, kIf, kElse]
      generalize byts (layB ts (d + 1)) = bt at *
      generalize byts (layB us (d + 1)) = bu at *
      simp [byts, e1, e2]
theorem lineS_wh (he : RX e) (ht : ∀ s ∈ ts, RS s) : lineS (.mk 3 [] [e] ts [] l c) d = ahd d ++ ([119, 104, 105, 108, 101, 32] ++ (textX e ++ ([32, 123, 10] ++ (linesB ts (d + 1) ++ (ahd d ++ [125, 10]))))) := by
  have h1 := linesB_eq ht (d + 1)
  rw [lineS_eq d (y := ahd d ++ ([119, 104, 105, 108, 101, 32] ++ (textX e ++ ([32, 123, 10] ++ (linesB ts (d + 1) ++ (ahd d ++ [125]))))))]
  · simp
  · rw [layS_wh]
    have e1 : ∀ r : List UInt8, byts (layB ts (d + 1)) ++ 10 :: r = 10 :: (linesB ts (d + 1) ++ r) := fun r => by
      have := congrArg (· ++ r) h1
      simpa using this
    simp only [byts_cons, byts_append, byts_g e he, nl_ahd, kWhile]
    generalize byts (layB ts (d + 1)) = bt at *
    simp [byts, e1]
theorem lineS_out (he : RX e) : lineS (.mk 4 [] [e] [] [] l c) d = ahd d ++ ([111, 117, 116, 112, 117, 116, 32] ++ (textX e ++ [59, 10])) := by
  rw [lineS_eq d (y := ahd d ++ ([111, 117, 116, 112, 117, 116, 32] ++ (textX e ++ [59])))]
  · simp
  · rw [layS_out]
    simp only [byts_cons, byts_append, byts_g e he, nl_ahd, kOutput]
    simp [byts]
theorem lineS_call : lineS (.mk 5 x es [] [] l c) d = ahd d ++ ([99, 97, 108, 108, 32] ++ (x ++ ([40] ++ (byts (layA es) ++ [41, 59, 10])))) := by
  rw [lineS_eq d (y := ahd d ++ ([99, 97, 108, 108, 32] ++ (x ++ ([40] ++ (byts (layA es) ++ [41, 59])))))]
  · simp
  · rw [layS_call]
    simp only [byts_cons, byts_append, nl_ahd, kCall]
    simp [byts]
theorem lineS_skip : lineS (.mk 6 [] [] [] [] l c) d = ahd d ++ [115, 107, 105, 112, 59, 10] := by
  rw [lineS_eq d (y := ahd d ++ [115, 107, 105, 112, 59])]
  · simp
  · rw [layS_skip]
    simp [byts, nl_ahd, kSkip]
end
/-! ### Lists -/
theorem layC_take {es : List XV} {i : Nat} {e : XV} (h : es[i]? = some e) : layC (es.take (i + 1)) = layC (es.take i) ++ ([], [44]) :: layX e [32] := by
  induction es generalizing i with
  | nil => simp at h
  | cons a r ih =>
    cases i with
    | zero => simp at h; subst h; simp [layC]
    | succ i =>
      simp only [List.take_succ_cons, layC]
      rw [ih (by simpa using h)]
      simp
theorem bytsA_take {es : List XV} (hr : ∀ e ∈ es, RX e) {i : Nat} {e : XV} (h : es[i]? = some e) : byts (layA (es.take (i + 1))) = (byts (layA (es.take i)) ++ if 0 < i then [44, 32] else []) ++ textX e := by
  have he := hr e (List.mem_iff_getElem?.2 ⟨i, h⟩)
  cases es with
  | nil => simp at h
  | cons a r =>
    cases i with
    | zero =>
      simp at h
      subst h
      simp [layA, layC, textX, byts]
    | succ i =>
      simp only [List.take_succ_cons, layA]
      rw [layC_take (by simpa using h)]
      simp only [byts_append, byts_cons, byts_g e he]
      simp
theorem bytsA_len (es : List XV) (hr : ∀ e ∈ es, RX e) (hi : ∀ e ∈ es, In e) : (byts (layA es)).length ≤ 66 * xsz es := by
  have hc : ∀ es : List XV, (∀ e ∈ es, RX e) → (∀ e ∈ es, In e) → (byts (layC es)).length ≤ 66 * xsz es := by
    intro es
    induction es with
    | nil => intro _ _; simp [layC, byts]
    | cons a r ih =>
      intro hr hi
      have h1 := ih (fun e he => hr e (by simp [he])) (fun e he => hi e (by simp [he]))
      have h2 := textX_len a (hr a (by simp)) (hi a (by simp))
      simp only [layC, byts_cons, byts_append, byts_g a (hr a (by simp)), List.length_append, List.length_cons, List.length_nil, xsz] at *
      have h3 : 1 ≤ xsz1 a := by rw [xsz1_eq]; omega
      omega
  cases es with
  | nil => simp [layA, byts]
  | cons a r =>
    have h1 := hc r (fun e he => hr e (by simp [he])) (fun e he => hi e (by simp [he]))
    have h2 := textX_len a (hr a (by simp)) (hi a (by simp))
    simp only [layA, byts_append, byts_g a (hr a (by simp)), List.length_append, List.length_nil, xsz] at *
    omega
/-! ### How long -/
theorem linesB_len (D : Nat) : ∀ (N : Nat) (l : List SV), ssz l ≤ N → (∀ s ∈ l, RS s) → inSs l = true → ∀ d, d + ssz l ≤ D → (linesB l d).length ≤ (200 + 8 * D) * ssz l := by
  obtain ⟨C, hC⟩ : ∃ C, C = 200 + 8 * D := ⟨_, rfl⟩
  rw [← hC]
  intro N
  induction N using Nat.strongRecOn with
  | ind N ihN =>
  intro l
  induction l with
  | nil => intro _ _ _ d _; simp [linesB_nil]
  | cons s l ih =>
    intro hz hr hi d hd
    unfold inSs at hi
    rw [Bool.and_eq_true] at hi
    simp only [ssz] at hz hd ⊢
    have h1 := ih (by omega) (fun a ha => hr a (by simp [ha])) hi.2 d (by omega)
    rw [linesB_cons hr, List.length_append, Nat.mul_add]
    have ie := inS_es hi.1
    have it := inS_ts hi.1
    have iu := inS_us hi.1
    have hs : (lineS s d).length ≤ C * ssz1 s := by
      have tl : ∀ e, RX e → In e → (textX e).length ≤ 64 * xsz1 e := textX_len
      have hx1 : ∀ e : XV, 1 ≤ xsz1 e := fun e => by rw [xsz1_eq]; omega
      have hm : ∀ k, 66 * k ≤ C * k := fun k => Nat.mul_le_mul_right _ (by omega)
      have ha := ahd_len d
      cases hr s (by simp) with
      | assign x e l c hx hX =>
        rw [lineS_assign _ _ _ _ _ hX]
        have q1 := tl e hX (ie e (by simp [SV.es]))
        have q2 := hm (xsz1 e)
        have q3 := name_len hx
        simp only [ssz1, xsz, ssz, List.length_append, List.length_cons, List.length_nil] at *
        rw [Nat.mul_add, Nat.mul_add, Nat.mul_add, Nat.mul_add]
        omega
      | store x i e l c hx hI hX =>
        rw [lineS_store _ _ _ _ _ _ hI hX]
        have q1 := tl e hX (ie e (by simp [SV.es]))
        have q4 := tl i hI (ie i (by simp [SV.es]))
        have q2 := hm (xsz1 e)
        have q5 := hm (xsz1 i)
        have q3 := name_len hx
        simp only [ssz1, xsz, ssz, List.length_append, List.length_cons, List.length_nil] at *
        simp only [Nat.mul_add]
        omega
      | iff e ts us l c hX ht hu =>
        rw [lineS_iff _ _ _ _ _ _ hX ht hu]
        have q1 := tl e hX (ie e (by simp [SV.es]))
        have q2 := hm (xsz1 e)
        simp only [ssz1, xsz] at hz hd
        have q4 := ihN (ssz ts) (by omega) ts (Nat.le_refl _) ht it (d + 1) (by omega)
        have q5 := ihN (ssz us) (by omega) us (Nat.le_refl _) hu iu (d + 1) (by omega)
        simp only [ssz1, xsz, List.length_append, List.length_cons, List.length_nil] at *
        simp only [Nat.mul_add]
        split <;> simp only [List.length_append, List.length_cons, List.length_nil] <;> omega
      | wh e ts l c hX ht =>
        rw [lineS_wh _ _ _ _ _ hX ht]
        have q1 := tl e hX (ie e (by simp [SV.es]))
        have q2 := hm (xsz1 e)
        simp only [ssz1, xsz] at hz hd
        have q4 := ihN (ssz ts) (by omega) ts (Nat.le_refl _) ht it (d + 1) (by omega)
        simp only [ssz1, xsz, ssz, List.length_append, List.length_cons, List.length_nil] at *
        simp only [Nat.mul_add]
        omega
      | out e l c hX =>
        rw [lineS_out _ _ _ _ hX]
        have q1 := tl e hX (ie e (by simp [SV.es]))
        have q2 := hm (xsz1 e)
        simp only [ssz1, xsz, ssz, List.length_append, List.length_cons, List.length_nil] at *
        simp only [Nat.mul_add]
        omega
      | call x es l c hx hX =>
        rw [lineS_call]
        have q1 := bytsA_len es hX ie
        have q2 := hm (xsz es)
        have q3 := name_len hx
        simp only [ssz1, ssz, List.length_append, List.length_cons, List.length_nil] at *
        simp only [Nat.mul_add]
        omega
      | skip l c =>
        rw [lineS_skip]
        simp only [ssz1, xsz, ssz, List.length_append, List.length_cons, List.length_nil] at *
        simp only [Nat.mul_add]
        omega
    omega
end

section
open Go.RowKit
end

section
open Go.RowKit

theorem ssz_tk (l : List SV) : ∀ i, ssz (l.take i) ≤ ssz l := by
  induction l with
  | nil => intro i; simp
  | cons a r ih =>
    intro i
    cases i with
    | zero => simp [ssz]
    | succ i =>
      simp only [List.take_succ_cons, ssz]
      have := ih i
      omega
theorem inSs_tk (l : List SV) (h : inSs l = true) : ∀ i, inSs (l.take i) = true := by
  induction l with
  | nil => intro i; simpa using h
  | cons a r ih =>
    unfold inSs at h
    rw [Bool.and_eq_true] at h
    intro i
    cases i with
    | zero => simp [inSs]
    | succ i =>
      simp only [List.take_succ_cons, inSs]
      rw [h.1, ih h.2 i]
      rfl
theorem inSs_get {l : List SV} (h : inSs l = true) {i : Nat} {s : SV} (hs : l[i]? = some s) : inS s = true := by
  induction l generalizing i with
  | nil => simp at hs
  | cons a r ih =>
    unfold inSs at h
    rw [Bool.and_eq_true] at h
    cases i with
    | zero => simp at hs; subst hs; exact h.1
    | succ i => exact ih h.2 (by simpa using hs)
theorem lines_len {l : List SV} (hr : ∀ s ∈ l, RS s) (hi : inSs l = true) (d : Nat) (hd : d + ssz l ≤ 4000000) : (linesB l d).length ≤ 200000000000000 := by
  have h1 := linesB_len 4000000 (ssz l) l (Nat.le_refl _) hr hi d hd
  have h2 : (200 + 8 * 4000000) * ssz l ≤ (200 + 8 * 4000000) * 4000000 := Nat.mul_le_mul_left _ (by omega)
  omega
end

section
open Go.RowKit

/-- What Stmts answers: the lines of what is right. -/
def textSt (l : List SV) : List UInt8 := if rgs l then linesB l 0 else []

/-- What Expr answers: the text of what is right. -/
def textE (e : XV) : List UInt8 := if rgx1 e then textX e else []
theorem out_right (e : XV) : rgs [.mk 4 [] [e] [] [] 0 0] = rgx1 e := by
  simp [rgs, rgs1, rgx, okS]
theorem linesB_one (s : SV) (h : RS s) (d : Nat) : linesB [s] d = lineS s d := by
  rw [linesB_cons (by intro a ha; rw [List.mem_singleton.1 ha]; exact h), linesB_nil, List.append_nil]
end

section
open Go.RowKit

/-- A declaration's lines. -/
def lineD (d : DV) : List UInt8 := (byts (layD d) ++ [10]).drop 1
theorem byts_sint (z : Int) (g : List UInt8) : byts (sint z g) = g ++ Lib.itoa z := by
  unfold sint Lib.itoa
  split <;> simp [byts]
theorem lineD_eq (d : DV) {y : List UInt8} (h : byts (layD d) = 10 :: y) : lineD d = y ++ [10] := by
  unfold lineD
  rw [h]
  rfl
/-- What stands behind the name in a range. -/
def rngT (d : DV) : List UInt8 := d.x ++ ([32, 105, 110, 32, 91] ++ (Lib.itoa d.lo ++ ([44, 32] ++ (Lib.itoa d.hi ++ [93, 59, 10]))))
theorem lineD_0 (d : DV) (h : d.k = 0) : lineD d = [112, 117, 98, 108, 105, 99, 32] ++ rngT d := by
  rw [lineD_eq d (y := [112, 117, 98, 108, 105, 99, 32] ++ (d.x ++ ([32, 105, 110, 32, 91] ++ (Lib.itoa d.lo ++ ([44, 32] ++ (Lib.itoa d.hi ++ [93, 59]))))))]
  · simp [rngT]
  · unfold layD
    rw [if_pos (.inl h), if_pos h]
    simp only [byts_cons, byts_append, byts_sint]
    simp [byts, nl, kPublic, kIn]
theorem lineD_1 (d : DV) (h : d.k = 1) : lineD d = [115, 101, 99, 114, 101, 116, 32] ++ rngT d := by
  rw [lineD_eq d (y := [115, 101, 99, 114, 101, 116, 32] ++ (d.x ++ ([32, 105, 110, 32, 91] ++ (Lib.itoa d.lo ++ ([44, 32] ++ (Lib.itoa d.hi ++ [93, 59]))))))]
  · simp [rngT]
  · unfold layD
    rw [if_pos (.inr h), if_neg (by omega)]
    simp only [byts_cons, byts_append, byts_sint]
    simp [byts, nl, kSecret, kIn]
theorem lineD_2 (d : DV) (h : d.k = 2) : lineD d = [118, 97, 114, 32] ++ (d.x ++ [59, 10]) := by
  rw [lineD_eq d (y := [118, 97, 114, 32] ++ (d.x ++ [59]))]
  · simp
  · unfold layD
    rw [if_neg (by omega), if_pos h]
    simp [byts, nl, kVar]
theorem lineD_3 (d : DV) (h : d.k = 3) : lineD d = [97, 114, 114, 97, 121, 32] ++ (d.x ++ ([91] ++ (numT d.sz ++ [93, 59, 10]))) := by
  rw [lineD_eq d (y := [97, 114, 114, 97, 121, 32] ++ (d.x ++ ([91] ++ (numT d.sz ++ [93, 59]))))]
  · simp
  · unfold layD
    rw [if_neg (by omega), if_neg (by omega), if_pos h]
    simp [byts, nl, kArray]
theorem lineD_4 (d : DV) (h : d.k = 4) (hb : ∀ s ∈ d.body, RS s) : lineD d = [112, 114, 111, 99, 32] ++ (d.x ++ ([40] ++ (byts (layN d.ps) ++ ([41, 32, 123, 10] ++ (linesB d.body 1 ++ [125, 10]))))) := by
  rw [lineD_eq d (y := [112, 114, 111, 99, 32] ++ (d.x ++ ([40] ++ (byts (layN d.ps) ++ ([41, 32, 123, 10] ++ (linesB d.body 1 ++ [125]))))))]
  · simp
  · have h1 := linesB_eq hb 1
    have e1 : ∀ r : List UInt8, byts (layB d.body 1) ++ 10 :: r = 10 :: (linesB d.body 1 ++ r) := fun r => by
      have := congrArg (· ++ r) h1
      simpa using this
    unfold layD
    rw [if_neg (by omega), if_neg (by omega), if_neg (by omega)]
    simp only [byts_cons, byts_append]
    generalize byts (layB d.body 1) = bt at *
    generalize byts (layN d.ps) = bn at *
    simp [byts, nl, kProc, e1]
/-- Names with commas, one more. -/
theorem layM_take {r : List (List UInt8)} {i : Nat} {x : List UInt8} (h : r[i]? = some x) : byts (layM (r.take (i + 1))) = byts (layM (r.take i)) ++ [44, 32] ++ x := by
  induction r generalizing i with
  | nil => simp at h
  | cons a r ih =>
    cases i with
    | zero => simp at h; subst h; simp [layM, byts]
    | succ i =>
      simp only [List.take_succ_cons, layM, byts_cons]
      rw [ih (by simpa using h)]
      simp
theorem layN_take {r : List (List UInt8)} {i : Nat} {x : List UInt8} (h : r[i]? = some x) : byts (layN (r.take (i + 1))) = (byts (layN (r.take i)) ++ if 0 < i then [44, 32] else []) ++ x := by
  cases r with
  | nil => simp at h
  | cons a r =>
    cases i with
    | zero => simp at h; subst h; simp [layN, layM, byts]
    | succ i =>
      simp only [List.take_succ_cons, layN, byts_cons]
      rw [layM_take (by simpa using h)]
      simp
end

section
open Go.RowKit
end

section
open Go.RowKit

theorem layM_len : ∀ ps : List (List UInt8), (∀ x ∈ ps, name6 x = true) → (byts (layM ps)).length ≤ 34 * ps.length
  | [], _ => by simp [layM, byts]
  | x :: r, h => by
    have h1 := layM_len r fun a ha => h a (by simp [ha])
    have h2 := name_len (h x (by simp))
    simp only [layM, byts_cons, List.length_append, List.length_cons, List.length_nil]
    omega
theorem layN_len (ps : List (List UInt8)) (h : ∀ x ∈ ps, name6 x = true) : (byts (layN ps)).length ≤ 34 * ps.length := by
  cases ps with
  | nil => simp [layN, byts]
  | cons x r =>
    have h1 := layM_len r fun a ha => h a (by simp [ha])
    have h2 := name_len (h x (by simp))
    simp only [layN, byts_cons, List.length_append, List.length_cons, List.length_nil]
    omega
end

section
open Go.RowKit

theorem layD_first (d : DV) : ∃ y, byts (layD d) = 10 :: y := by
  obtain ⟨t, r, e⟩ := layD_nl d
  exact ⟨t ++ byts r, by rw [e, byts_cons]; simp [nl]⟩
theorem textP_nil (mn : List SV) (h : ∀ s ∈ mn, RS s) : textP [] mn = [109, 97, 105, 110, 32, 123, 10] ++ (linesB mn 1 ++ [125, 10]) := by
  have h1 := linesB_eq h 1
  have e1 : ∀ r : List UInt8, byts (layB mn 1) ++ 10 :: r = 10 :: (linesB mn 1 ++ r) := fun r => by
    have := congrArg (· ++ r) h1
    simpa using this
  unfold textP layP layDs
  simp only [List.nil_append, byts_cons, byts_append]
  generalize byts (layB mn 1) = bt at *
  simp [byts, nl, kMain, e1]
theorem textP_cons (d : DV) (ds : List DV) (mn : List SV) : textP (d :: ds) mn = lineD d ++ textP ds mn := by
  obtain ⟨y, e⟩ := layD_first d
  obtain ⟨t, r, e2⟩ := layP_nl ds mn
  have e3 : byts (layP ds mn) = 10 :: (t ++ byts r) := by rw [e2, byts_cons]; simp [nl]
  have e4 : byts (layP (d :: ds) mn) = byts (layD d) ++ byts (layP ds mn) := by rw [← byts_append]; show byts ((layD d ++ layDs ds) ++ _) = byts (layD d ++ (layDs ds ++ _)); rw [List.append_assoc]
  unfold textP lineD
  rw [e4, e, e3]
  simp
theorem textP_eq (ds : List DV) (mn : List SV) (h : ∀ s ∈ mn, RS s) : textP ds mn = ds.flatMap lineD ++ ([109, 97, 105, 110, 32, 123, 10] ++ (linesB mn 1 ++ [125, 10])) := by
  induction ds with
  | nil => rw [textP_nil mn h]; rfl
  | cons d r ih => rw [textP_cons, ih, List.flatMap_cons, List.append_assoc]
theorem lineD_len {d : DV} (h : rgd1 d = true) (hi : inD d = true) (hR : inR d) (hz : dbk1 d ≤ 3000000) : (lineD d).length ≤ 40000000 * dbk1 d := by
  obtain ⟨a1, a2, a3, a4, a5, -⟩ := rgd_kind h
  have hxl := name_len a2
  have hll := Lib.itoa_length_le d.lo hR.1.1 hR.1.2
  have hhl := Lib.itoa_length_le d.hi hR.2.1 hR.2.2
  unfold inD at hi
  rw [Bool.and_eq_true] at hi
  have hs := of_decide_eq_true hi.1
  have hnl := num_len a3 hs
  have hd1 : 1 ≤ dbk1 d := by unfold dbk1; omega
  rcases a1 with k | k | k | k | k
  · rw [lineD_0 d k]
    simp only [rngT, List.length_append, List.length_cons, List.length_nil]
    omega
  · rw [lineD_1 d k]
    simp only [rngT, List.length_append, List.length_cons, List.length_nil]
    omega
  · rw [lineD_2 d k]
    simp only [List.length_append, List.length_cons, List.length_nil]
    omega
  · rw [lineD_3 d k]
    simp only [List.length_append, List.length_cons, List.length_nil]
    omega
  · rw [lineD_4 d k a5]
    unfold dbk1 at hz hd1 ⊢
    have hzb := ssz_bk d.body
    have hpl := pbk_len d.ps
    have q1 := linesB_len 4000000 (ssz d.body) d.body (Nat.le_refl _) a5 hi.2 1 (by omega)
    have q2 : (200 + 8 * 4000000) * ssz d.body ≤ (200 + 8 * 4000000) * sbk d.body := Nat.mul_le_mul_left _ hzb
    have q3 := layN_len d.ps a4
    simp only [List.length_append, List.length_cons, List.length_nil]
    omega
theorem flat_len (ds : List DV) (h : rgd ds = true) (hi : ds.all inD = true) (hR : ∀ d ∈ ds, inR d) (hz : dbk ds ≤ 3000000) : (ds.flatMap lineD).length ≤ 40000000 * dbk ds := by
  induction ds with
  | nil => simp
  | cons d r ih =>
    unfold rgd at h
    simp only [List.all_cons, Bool.and_eq_true] at h hi
    simp only [dbk] at hz ⊢
    have h1 := ih h.2 hi.2 (fun a ha => hR a (by simp [ha])) (by omega)
    have h2 := lineD_len h.1 hi.1 (hR d (by simp)) (by omega)
    rw [List.flatMap_cons, List.length_append]
    omega
theorem dbk_take (ds : List DV) : ∀ i, dbk (ds.take i) ≤ dbk ds := by
  induction ds with
  | nil => intro i; simp
  | cons a r ih =>
    intro i
    cases i with
    | zero => simp [dbk]
    | succ i =>
      simp only [List.take_succ_cons, dbk]
      have := ih i
      omega
/-- What Program answers. -/
def textQ (ds : List DV) (mn : List SV) : List UInt8 := if rgd ds && rgs mn then textP ds mn else []
end
end Go.Proofs.YtejifkeeihkcjaaDoor
