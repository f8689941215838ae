/- Texts by numbers: a makefile's line. -/
import Derived.Test.YtcopddepnphfmaaDoorTla
import Derived.Test.YtcopddepnphfmaaDoorTlb
import Derived.Test.YtcopddepnphfmaaDoorTlc
import Derived.Test.YtcopddepnphfmaaDoorTld
import Derived.Test.YtcopddepnphfmaaDoorTle
import Derived.Test.YtcopddepnphfmaaDoorTlf
namespace Go.Proofs.YtcopddepnphfmaaDoor.Tline
open Go.RowKit Go.Proofs.YtcopddepnphfmaaDoor.Pure Go.Proofs.YtcopddepnphfmaaDoor.Place Go.Proofs.YtcopddepnphfmaaDoor.Nums Go.Proofs.YtcopddepnphfmaaDoor.Range Go.Proofs.YtcopddepnphfmaaDoor.Tnum Go.Proofs.YtcopddepnphfmaaDoor.Tidx Go.Proofs.YtcopddepnphfmaaDoor.Tone Go.Proofs.YtcopddepnphfmaaDoor.Ttext Go.Proofs.YtcopddepnphfmaaDoor.Tctl Go.Proofs.YtcopddepnphfmaaDoor.Tbig Go.Proofs.YtcopddepnphfmaaDoor.Tlh Go.Proofs.YtcopddepnphfmaaDoor.Tla Go.Proofs.YtcopddepnphfmaaDoor.Tlb Go.Proofs.YtcopddepnphfmaaDoor.Tlc Go.Proofs.YtcopddepnphfmaaDoor.Tld Go.Proofs.YtcopddepnphfmaaDoor.Tle Go.Proofs.YtcopddepnphfmaaDoor.Tlf

/-- a line -/
theorem line_is (tp : Nat) (A : Option Addr) (n c : Nat) (zs : List Int) (hn : n ≤ 17592186044416) : ∀ (m a : Nat), n - a ≤ m → ∀ (w : World), TS tp A n c zs a w →
    Calls Tryd.prog 38 #[.pointer (some ⟨tp, 0, none⟩)] w (SaidL tp A n c zs a w) := by
  intro m
  induction m with
  | zero =>
    intro a hm w h
    obtain ⟨p, hp, h0, hc⟩ := num_det tp A n c zs a 26 w (by omega) (by omega) h
    obtain rfl := h0 (by omega)
    exact (lineA tp A n c zs a w 0 (by omega) hc).mono fun e W hs => said_line hs
  | succ m ih =>
    intro a hm w h
    obtain ⟨p, hp, h0, hc⟩ := num_det tp A n c zs a 26 w (by omega) (by omega) h
    by_cases h8 : p < 8
    · exact (lineA tp A n c zs a w p h8 hc).mono fun e W hs => said_line hs
    by_cases h12 : p < 12
    · exact (lineB tp A n c zs a w p (by omega) h12 hc).mono fun e W hs => said_line hs
    have ha : a < n := by
      by_cases ha : a < n
      · exact ha
      · have := h0 (by omega)
        omega
    obtain rfl | rfl | rfl | rfl | rfl | rfl | rfl | rfl | rfl | rfl | rfl | rfl | rfl | rfl : p = 12 ∨ p = 13 ∨ p = 14 ∨ p = 15 ∨ p = 16 ∨ p = 17 ∨ p = 18 ∨ p = 19 ∨ p = 20 ∨ p = 21 ∨ p = 22 ∨ p = 23 ∨ p = 24 ∨ p = 25 := by omega
    · exact (line12 tp A n c zs a w hc).mono fun e W hs => said_line hs
    · exact (line13 tp A n c zs a w hc).mono fun e W hs => said_line hs
    · exact (line14 tp A n c zs a w hc).mono fun e W hs => said_line hs
    · exact (line15 tp A n c zs a w hc).mono fun e W hs => said_line hs
    · exact (line16 tp A n c zs a w hc).mono fun e W hs => said_line hs
    · exact (line17 tp A n c zs a w hc).mono fun e W hs => said_line hs
    · exact (line18 tp A n c zs a w hc).mono fun e W hs => said_line hs
    · exact (line19 tp A n c zs a w hc).mono fun e W hs => said_line hs
    · exact (line20 tp A n c zs a w hc).mono fun e W hs => said_line hs
    · exact (line21 tp A n c zs a w hc).mono fun e W hs => said_line hs
    · exact (line22 tp A n c zs a w hc).mono fun e W hs => said_line hs
    · exact (line23 tp A n c zs a w hc).mono fun e W hs => said_line hs
    · exact line24 tp A n c zs a w hn ha (fun b hb W t => ih b (by omega) W t) hc
    · exact line25 tp A n c zs a w hn ha (fun b hb W t => ih b (by omega) W t) hc

end Go.Proofs.YtcopddepnphfmaaDoor.Tline
