/- The project's cone is what the statements' walks ask. -/
import Derived.Test.YtbdmndhjbemenaaE7
namespace Go.Proofs.Ytbdmndhjbemenaa.aig
open Go.RowKit
open Go.Proofs.Ytbdmndhjbemenaa.mem Go.Proofs.Ytbdmndhjbemenaa.agf
open Go.Proofs.Ytbdmndhjbemenaa.ints (Ints ints_of_owned)
theorem cone_ok : ConeOk where
  of := fun v u ns zs w hv hg hn hu _ _ => (of_any v u ns zs w hv hg hn hu).mono fun _ _ h => told_tellsL h
  support := fun v u ns zs w hv hg hn hu _ _ => (support_any v u ns zs w hv hg hn hu).mono fun _ _ h => told_tellsL h
  depth := fun v u ns zs w hv hg hn hu _ _ => depth_any v u ns zs w hv hg hn hu
  fanouts := fun v ns w hv hg hn => fanouts_any v ns w hv hg hn
  above := fun v ns x w hv hg hn hx => (above_any v ns x w hv hg hn hx).mono fun _ _ h => told_tellsL h
  cut := fun v u ns zs w hv hg hn hu _ _ => (cut_any v u ns zs w hv hg hn hu).mono fun _ _ h => by
    obtain ⟨ov, av, h1, h2, h3, h4⟩ := h
    exact ⟨ov, av, h1, knds_of_row (by rw [List.length_map]; exact h2), ints_of_owned h3, h4⟩
end Go.Proofs.Ytbdmndhjbemenaa.aig
